/- NodeBack of every node. -/
import Derived.Test.YtjaijomkdgoenaaDoorNdBackC
import Derived.Test.YtjaijomkdgoenaaDoorNdBackD
namespace Go.Proofs.YtjaijomkdgoenaaDoor.Nd
open Go.RowKit
open Mn
set_option maxRecDepth 1000000
set_option maxHeartbeats 4000000
section
variable {W : World} {n : No} {ba : Option Addr} {bc : Nat} {ka : Option Addr} {kc : Nat}
theorem back_any (hrm : Rm W) (hb : BR W n.bs (.slice ba n.bs.length bc)) (hr : RR W n.rs (.slice ka n.rs.length kc)) (hc : n.c.size ≤ 140737488351232) (hv : n.v.size ≤ 140737488351232) (hp : n.p.size ≤ 140737488351232) (b : UInt8) (rs rg ss sg : Int) :
    Calls Tryd.prog 3 #[n.val ba bc ka kc, .int .u8 (b.toNat : Int), .agg #[.int .i64 rs, .int .u32 rg], .agg #[.int .i64 ss, .int .u32 sg]] W fun e w' => e = .returned (.bool true) ∧ Below W.heap.size W w' := by
  cases hg : greatB n.bs.length n.rs.length n.c n.v n.p
  case true => exact back_great hrm hc hv hp hg b rs rg ss sg
  have hsm : n.bs.length ≤ 400 ∧ n.rs.length ≤ 400 ∧ n.c.size ≤ 400 := by
    unfold greatB at hg
    simp only [Bool.or_eq_false_iff, decide_eq_false_iff_not] at hg
    obtain ⟨h1, h2, h3⟩ := hg
    refine ⟨by omega, by omega, by omega⟩
  have h : NdAt W n ba bc ka kc := ⟨hrm, hb, hr, by omega, by omega, by omega⟩
  cases hri : n.right
  · exact back_wrong hrm hc hv hp hg h hri b rs rg ss sg
  by_cases hk : n.k = 1
  · exact back_leaf hrm hc hv hp hg h hri hk b rs rg ss sg
  obtain ⟨hnb, hR⟩ := right_nb hri hk
  obtain ⟨he, hris, hl⟩ := usable_parts (usable_of_right hR)
  have hel := ens_len he
  obtain ⟨l, hl0⟩ : ∃ l, n.ens = l := ⟨_, rfl⟩
  rw [hl0] at hnb hel
  obtain ⟨k, hk0⟩ : ∃ k, n.k = k := ⟨_, rfl⟩
  obtain ⟨p, hp0⟩ : ∃ p, n.p = p := ⟨_, rfl⟩
  rw [hk0] at hnb hk
  rw [hp0] at hnb
  clear hl0 hk0 hp0 hg hc hv hp hri hsm hris he hb hr
  subst hnb
  rw [nb_len] at hl
  rw [nb_val (m := l.length) rfl]
  have hu := usable_of_right hR
  cases hc : isIn b l
  case true =>
    cases hi : impR rs rg
    · exact back_e3 rfl h hR hk b rs rg ss sg hc (nb_add_twice hu hi hc false)
    · exact back_e1 rfl h hR hk b rs rg ss sg hc (by unfold addE; exact if_pos (.inr hi))
  cases hi : impR rs rg
  case true => exact back_e2 rfl h hR hk b rs rg ss sg hc (by unfold addE; exact if_pos (.inr hi))
  have hl2 : l.length < 256 := by
    have hri := (nb_inner.1 (usable_inner hu)).2.2.2.1
    have hnot : b ∉ l.map (·.1) := by
      intro hm
      have := (isIn_iff hri).2 (by obtain ⟨x, hx, e⟩ := List.mem_map.1 hm; exact ⟨x, hx, e⟩)
      rw [hc] at this
      cases this
    have := ris_all (srt_ris.1 hri) b hnot
    simpa using this
  by_cases hf : (l.length : Int) = roomOf k
  · cases his : impR ss sg
    · exact back_okfo rfl h hR hk b rs rg ss sg hc hi hl2 his _ rfl hf
    · exact back_okfi rfl h hR hk b rs rg ss sg hc hi hl2 his _ rfl hf
  · cases his : impR ss sg
    · exact back_okno rfl h hR hk b rs rg ss sg hc hi hl2 his _ rfl hf
    · exact back_okni rfl h hR hk b rs rg ss sg hc hi hl2 his _ rfl hf
end
end Go.Proofs.YtjaijomkdgoenaaDoor.Nd
