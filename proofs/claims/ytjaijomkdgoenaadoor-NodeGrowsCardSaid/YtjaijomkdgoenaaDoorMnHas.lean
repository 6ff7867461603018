/- Whether a byte is there; its entry's address. -/
import Derived.Test.YtjaijomkdgoenaaDoorMnRowM
import Derived.BigRegion
namespace Go.Proofs.YtjaijomkdgoenaaDoor.Mn
open Go.RowKit
set_option maxRecDepth 100000
set_option maxHeartbeats 2000000

theorem has_any {W : World} {q e : Nat} {es : List En} {room : Nat} {cs : Array Value} {v : Value} (h : RowM W q e es room cs v) (b : UInt8) {n : Nat} (hp : Pos es b n) :
    Calls Tryd.prog 106 #[.pointer (some ⟨q, 0, none⟩), .int .u8 (b.toNat : Int)] W fun e w' => e = .returned (.bool (n != 0)) ∧ w' = W := by
  obtain ⟨m, hm, hpm⟩ := h.tab b
  obtain rfl := hpm.uniq h.dist hp
  have c0 : W.cell? ⟨q, b.toNat, none⟩ = some (.int .u16 (m : Int)) := (h.box.cell _).trans hm
  have hb := b.toNat_lt
  obtain ⟨k, hk⟩ : ∃ k, b.toNat = k := ⟨_, rfl⟩
  rw [hk] at c0 hb ⊢
  have k0 : (0 : Int) ≤ (k : Int) := Int.natCast_nonneg _
  have k1 : (k : Int) < 256 := by omega
  have HE : Hid (((m : Int) != 0) = (m != 0)) := by
    show _ = _
    rw [Bool.eq_iff_iff, bne_iff_ne, bne_iff_ne]; omega
  clear h hm hpm hp hk
  go_enter Tryd.func106, Tryd.ntmps106
  go_wp2
  go_ret
  exact ⟨by rw [← HE.out]; rfl, rfl⟩
theorem entry_any {W : World} {q e : Nat} {es : List En} {room : Nat} {cs : Array Value} {v : Value} (h : RowM W q e es room cs v) (b : UInt8) {i : Nat} {s g : Int} (hi : es[i]? = some (b, s, g)) :
    Calls Tryd.prog 107 #[.pointer (some ⟨q, 0, none⟩), .int .u8 (b.toNat : Int)] W fun e' w' => e' = .returned (.pointer (some ⟨e, i * 3, none⟩)) ∧ w' = W.drew := by
  obtain ⟨m, hm, hpm⟩ := h.tab b
  obtain rfl := hpm.uniq h.dist (.inr ⟨i, s, g, rfl, hi⟩)
  have c0 : W.cell? ⟨q, b.toNat, none⟩ = some (.int .u16 ((i + 1 : Nat) : Int)) := (h.box.cell _).trans hm
  have c1 : W.cell? ⟨q, 256, none⟩ = some v := (h.box.cell _).trans h.ent
  have hlt := (List.getElem?_eq_some_iff.1 hi).1
  have hlen := h.len
  have hv : ∃ cap, v = .slice (some ⟨e, 0, none⟩) es.length cap := by
    rcases h.form with ⟨_, h2⟩ | ⟨cap, cur, h1, _⟩
    · subst h2; simp at hlt
    · exact ⟨cap, h1⟩
  obtain ⟨cap, rfl⟩ := hv
  have hb := b.toNat_lt
  obtain ⟨k, hk⟩ : ∃ k, b.toNat = k := ⟨_, rfl⟩
  obtain ⟨n, hn⟩ : ∃ n, es.length = n := ⟨_, rfl⟩
  rw [hk] at c0 hb ⊢
  rw [hn] at c1 hlt hlen
  have k0 : (0 : Int) ≤ (k : Int) := Int.natCast_nonneg _
  have k1 : (k : Int) < 256 := by omega
  have c0' : W.cell? ⟨q, k, none⟩ = some (.int .u16 ((i : Int) + 1)) := by rw [c0]; simp
  have hw : IntKind.u16.wrap (i : Int) = (i : Int) := by simp [IntKind.wrap, IntKind.bits, IntKind.signed]; omega
  have i0 : (0 : Int) ≤ (i : Int) := by omega
  have i1 : (i : Int) < (n : Int) := by omega
  clear h hm hpm hi hk c0 hn hlen
  go_enter Tryd.func107, Tryd.ntmps107
  go_wp2_with fail
  go_region
  go_wp2
  go_ret
  exact ⟨rfl, rfl⟩
end Go.Proofs.YtjaijomkdgoenaaDoor.Mn
