/- Add, Turn and Cut of every node. -/
import Derived.Test.YtjaijomkdgoenaaDoorNdAdd
import Derived.Test.YtjaijomkdgoenaaDoorNdCut
import Derived.Test.YtjaijomkdgoenaaDoorNdTurn
import Derived.Test.YtjaijomkdgoenaaDoorMix
namespace Go.Proofs.YtjaijomkdgoenaaDoor.Nd
open Go.RowKit
open Mn
set_option maxRecDepth 1000000
set_option maxHeartbeats 4000000
section
variable {W : World} {n : No} {ba : Option Addr} {bc : Nat} {ka : Option Addr} {kc : Nat}
/-- A usable node: as many bytes as kids, the bytes rise, they are 256 at most. -/
theorem usable_parts (hu : n.usable = true) : n.bs.length = n.rs.length ∧ Ris n.bs ∧ n.bs.length ≤ 256 := by
  have h := usable_inner hu
  obtain ⟨_, _, _, _, h5, _, h7, _⟩ := (inner_iff n).1 h
  exact ⟨h5, h7, inner_small h⟩
/-- Bytes that rise and lack one are fewer than 256. -/
theorem ris_all {l : List UInt8} (h : Ris l) (b : UInt8) (hb : b ∉ l) : l.length < 256 := by
  have hnd : ((b :: l).map (fun x => x.toNat)).Nodup := by
    rw [List.map_cons, List.nodup_cons]
    refine ⟨?_, ?_⟩
    · intro hm
      obtain ⟨x, hx, e⟩ := List.mem_map.1 hm
      rw [UInt8.toNat_inj.1 e] at hx
      exact hb hx
    · unfold List.Nodup
      rw [List.pairwise_map]
      refine h.imp ?_
      intro x y hxy e
      omega
  have h3 := nodup_lt 256 _ hnd (by
    intro k hk
    obtain ⟨x, _, rfl⟩ := List.mem_map.1 hk
    exact x.toNat_lt)
  simp at h3
  omega
theorem add_any (h : NdAt W n ba bc ka kc) (b : UInt8) (s g : Int) (keep : Bool) :
    Calls Tryd.prog 9 #[n.val ba bc ka kc, .int .u8 (b.toNat : Int), .agg #[.int .i64 s, .int .u32 g], .bool keep] W (MkP W (addN n b s g keep) (addE n b s g keep)) := by
  cases hu : n.usable
  · have e : addE n b s g keep = 4 := by unfold addE; exact if_pos (.inl hu)
    have m : addN n b s g keep = zeroNo := by unfold addN; rw [e]; exact if_neg (by decide)
    rw [e, m]
    exact add_bad h b s g keep hu
  cases hi : impR s g
  case true =>
    have e : addE n b s g keep = 4 := by unfold addE; exact if_pos (.inr hi)
    have m : addN n b s g keep = zeroNo := by unfold addN; rw [e]; exact if_neg (by decide)
    rw [e, m]
    exact add_imp h b s g keep hu hi
  have n1 : ¬ (n.usable = false ∨ impR s g = true) := by rw [hu, hi]; simp
  by_cases hc : b ∈ n.bs
  · have e : addE n b s g keep = 8 := by unfold addE; rw [if_neg n1]; exact if_pos hc
    have m : addN n b s g keep = zeroNo := by unfold addN; rw [e]; exact if_neg (by decide)
    rw [e, m]
    exact add_twice h b s g keep hu hi (decide_eq_true hc)
  have hc' : decide (b ∈ n.bs) = false := decide_eq_false hc
  obtain ⟨he, hr, hl⟩ := usable_parts hu
  have hl2 := ris_all hr b hc
  obtain ⟨_, _, hR⟩ := ofK_room (n := n.bs.length + 1) (by omega)
  cases keep
  · have e : addE n b s g false = 0 := by unfold addE; rw [if_neg n1, if_neg hc]; exact if_neg (by simp)
    have m : addN n b s g false = n.kids (kindOf n false (n.bs.length + 1)) (n.ens.insertIdx (placeIx b n.ens) (b, s, g)) := by unfold addN; exact if_pos e
    rw [e, m]
    rcases hR with hR | hR | hR | hR
    · exact add_fn h b s g _ hu hi hc' rfl he hr (by omega) 4 hR (.inl rfl)
    · exact add_fn h b s g _ hu hi hc' rfl he hr (by omega) 16 hR (.inr rfl)
    · exact add_mn h b s g _ hu hi hc' rfl he hr (by omega) 48 hR (.inl rfl)
    · exact add_mn h b s g _ hu hi hc' rfl he hr (by omega) 256 hR (.inr rfl)
  · cases hf : n.full
    case true =>
      have e : addE n b s g true = 14 := by unfold addE; rw [if_neg n1, if_neg hc]; exact if_pos ⟨rfl, hf⟩
      have m : addN n b s g true = zeroNo := by unfold addN; rw [e]; exact if_neg (by decide)
      rw [e, m]
      exact add_full h b s g true hu hi hc' hf rfl
    have e : addE n b s g true = 0 := by unfold addE; rw [if_neg n1, if_neg hc]; exact if_neg (by rw [hf]; simp)
    have m : addN n b s g true = n.kids (kindOf n true (n.bs.length + 1)) (n.ens.insertIdx (placeIx b n.ens) (b, s, g)) := by unfold addN; exact if_pos e
    rw [e, m]
    rcases hR with hR | hR | hR | hR
    · exact add_fk h b s g _ hu hi hc' hf rfl he hr (by omega) 4 hR (.inl rfl)
    · exact add_fk h b s g _ hu hi hc' hf rfl he hr (by omega) 16 hR (.inr rfl)
    · exact add_mk h b s g _ hu hi hc' hf rfl he hr (by omega) 48 hR (.inl rfl)
    · exact add_mk h b s g _ hu hi hc' hf rfl he hr (by omega) 256 hR (.inr rfl)

theorem turn_any' (h : NdAt W n ba bc ka kc) (b : UInt8) (s g : Int) :
    Calls Tryd.prog 11 #[n.val ba bc ka kc, .int .u8 (b.toNat : Int), .agg #[.int .i64 s, .int .u32 g]] W (MkP W (turnN n b s g) (turnE n b s g)) := by
  cases hu : n.usable
  · have e : turnE n b s g = 4 := by unfold turnE; exact if_pos (.inl hu)
    have m : turnN n b s g = zeroNo := by unfold turnN; rw [e]; exact if_neg (by decide)
    rw [e, m]
    exact turn_bad h b s g hu
  cases hi : impR s g
  case true =>
    have e : turnE n b s g = 4 := by unfold turnE; exact if_pos (.inr hi)
    have m : turnN n b s g = zeroNo := by unfold turnN; rw [e]; exact if_neg (by decide)
    rw [e, m]
    exact turn_imp h b s g hu hi
  have n1 : ¬ (n.usable = false ∨ impR s g = true) := by rw [hu, hi]; simp
  obtain ⟨he, hr, hl⟩ := usable_parts hu
  obtain ⟨_, _, hR⟩ := ofK_room hl
  by_cases hc : b ∈ n.bs
  · have hc' : decide (b ∈ n.bs) = true := decide_eq_true hc
    have e : turnE n b s g = 0 := by unfold turnE; rw [if_neg n1]; exact if_pos hc
    have m : turnN n b s g = n.kids n.k (turnS b s g n.ens) := by unfold turnN; exact if_pos e
    rw [e, m]
    rcases hR with hR | hR | hR | hR
    · exact turn_fy h b s g hu hi hc' he hr hl 4 hR (.inl rfl)
    · exact turn_fy h b s g hu hi hc' he hr hl 16 hR (.inr rfl)
    · exact turn_my h b s g hu hi hc' he hr hl 48 hR (.inl rfl)
    · exact turn_my h b s g hu hi hc' he hr hl 256 hR (.inr rfl)
  · have hc' : decide (b ∈ n.bs) = false := decide_eq_false hc
    have e : turnE n b s g = 5 := by unfold turnE; rw [if_neg n1]; exact if_neg hc
    have m : turnN n b s g = zeroNo := by unfold turnN; rw [e]; exact if_neg (by decide)
    rw [e, m]
    rcases hR with hR | hR | hR | hR
    · exact turn_fn h b s g hu hi hc' he hr hl 4 hR (.inl rfl)
    · exact turn_fn h b s g hu hi hc' he hr hl 16 hR (.inr rfl)
    · exact turn_mn h b s g hu hi hc' he hr hl 48 hR (.inl rfl)
    · exact turn_mn h b s g hu hi hc' he hr hl 256 hR (.inr rfl)

theorem cut_any (h : NdAt W n ba bc ka kc) (b : UInt8) (keep : Bool) :
    Calls Tryd.prog 10 #[n.val ba bc ka kc, .int .u8 (b.toNat : Int), .bool keep] W (MkP W (cutN n b keep) (cutE n b)) := by
  cases hu : n.usable
  · have e : cutE n b = 4 := by unfold cutE; exact if_pos hu
    have m : cutN n b keep = zeroNo := by unfold cutN; rw [e]; exact if_neg (by decide)
    rw [e, m]
    exact cut_bad h b keep hu
  have n1 : ¬ (n.usable = false) := by rw [hu]; simp
  obtain ⟨he, hr, hl⟩ := usable_parts hu
  obtain ⟨_, _, hR⟩ := ofK_room hl
  by_cases hc : b ∈ n.bs
  · have hc' : decide (b ∈ n.bs) = true := decide_eq_true hc
    have e : cutE n b = 0 := by unfold cutE; rw [if_neg n1]; exact if_pos hc
    have m : cutN n b keep = n.kids (kindOf n keep (n.bs.length - 1)) (takeS b n.ens) := by unfold cutN; exact if_pos e
    rw [e, m]
    rcases hR with hR | hR | hR | hR
    · exact cut_fy h b keep hu hc' he hr hl 4 hR (.inl rfl)
    · exact cut_fy h b keep hu hc' he hr hl 16 hR (.inr rfl)
    · exact cut_my h b keep hu hc' he hr hl 48 hR (.inl rfl)
    · exact cut_my h b keep hu hc' he hr hl 256 hR (.inr rfl)
  · have hc' : decide (b ∈ n.bs) = false := decide_eq_false hc
    have e : cutE n b = 5 := by unfold cutE; rw [if_neg n1]; exact if_neg hc
    have m : cutN n b keep = zeroNo := by unfold cutN; rw [e]; exact if_neg (by decide)
    rw [e, m]
    rcases hR with hR | hR | hR | hR
    · exact cut_fn h b keep hu hc' he hr hl 4 hR (.inl rfl)
    · exact cut_fn h b keep hu hc' he hr hl 16 hR (.inr rfl)
    · exact cut_mn h b keep hu hc' he hr hl 48 hR (.inl rfl)
    · exact cut_mn h b keep hu hc' he hr hl 256 hR (.inr rfl)
end
end Go.Proofs.YtjaijomkdgoenaaDoor.Nd
