/- Insertion and removal. -/
import Derived.Test.YtioacpcmcnjgaaaPlace
namespace Go.Proofs.Ytioacpcmcnjgaaa
open Go.RowKit
set_option maxRecDepth 100000
set_option maxHeartbeats 2000000

def bytesOf (l : List En) : List Value := l.map fun x => .int .u8 (x.1.toNat : Int)
def refsOf (l : List En) : List Value := l.flatMap fun x => [.int .i64 x.2.1, .int .u32 x.2.2]
theorem refsOf_length : ∀ l : List En, (refsOf l).length = l.length * 2
  | [] => rfl
  | x :: l => by
    have := refsOf_length l
    simp only [refsOf, List.flatMap_cons, List.length_append, List.length_cons, List.length_nil] at this ⊢
    omega
theorem refs_at : ∀ (l : List En) (j : Nat) (v : Value), (refsOf l)[j]? = some v → ∃ m, ∃ h : m < l.length, (j = m * 2 ∧ v = .int .i64 (l[m]'h).2.1) ∨ (j = m * 2 + 1 ∧ v = .int .u32 (l[m]'h).2.2)
  | [], j, v, h => by simp [refsOf] at h
  | x :: l, 0, v, h => ⟨0, by simp, .inl ⟨rfl, by simpa [refsOf] using h.symm⟩⟩
  | x :: l, 1, v, h => ⟨0, by simp, .inr ⟨rfl, by simpa [refsOf] using h.symm⟩⟩
  | x :: l, j + 2, v, h => by
    obtain ⟨m, hm, h1 | h1⟩ := refs_at l j v (by simpa [refsOf] using h)
    · exact ⟨m + 1, by simp; omega, .inl ⟨by omega, by simpa using h1.2⟩⟩
    · exact ⟨m + 1, by simp; omega, .inr ⟨by omega, by simpa using h1.2⟩⟩
theorem refs_get : ∀ (l : List En) (m : Nat) (h : m < l.length), (refsOf l)[m * 2]? = some (.int .i64 l[m].2.1) ∧ (refsOf l)[m * 2 + 1]? = some (.int .u32 l[m].2.2)
  | x :: l, 0, _ => ⟨rfl, rfl⟩
  | x :: l, m + 1, h => by
    have := refs_get l m (by simpa using h)
    refine ⟨?_, ?_⟩
    · rw [show (m + 1) * 2 = m * 2 + 2 from by omega]; simpa [refsOf] using this.1
    · rw [show (m + 1) * 2 + 1 = m * 2 + 1 + 2 from by omega]; simpa [refsOf] using this.2
theorem bytesOf_length (l : List En) : (bytesOf l).length = l.length := by simp [bytesOf]
theorem bytes_one (l : List En) : ∀ v ∈ bytesOf l, v.oneCell' = true := fun v h => by
  obtain ⟨x, _, rfl⟩ := List.mem_map.1 h; rfl
theorem refs_one (l : List En) : ∀ v ∈ refsOf l, v.oneCell' = true := fun v h => by
  obtain ⟨x, _, h⟩ := List.mem_flatMap.1 h
  simp at h
  rcases h with rfl | rfl <;> rfl

/-- The two copies of a row's part, in one. -/
theorem copy_bytes {W : World} {q : Nat} {l : List En} {room : Nat} (hR : RowAt W q l room) (i a o dLen dCap sCap : Nat) (hi : i ≤ l.length) (ha' : i < l.length → a = i) (hd : l.length - i ≤ dLen) (ho : i < l.length → o + (l.length - i) ≤ 16) (ty : TypeId) :
    (Builtin.copy_ #[57, 57] ty #[.slice (some ⟨q, o, none⟩) dLen dCap, .slice (some ⟨q, a, none⟩) (l.length - i) sCap]).run Try.prog W = .ok (goInt ((l.length - i : Nat) : Int)) (W.setCells q o (bytesOf (l.drop i))) := by
  have hlen : (bytesOf (l.drop i)).length = l.length - i := by rw [bytesOf_length, List.length_drop]
  refine run_copy_size W _ _ ty 5 1 q o dLen dCap ⟨q, a, none⟩ (l.length - i) sCap _ _ Try.underlying57 rfl (Nat.min_eq_left hd).symm (by rw [hlen, Nat.mul_one]) (fun j v hj => ?_) (fun j hj => ?_) (fun j hj => ?_) (bytes_one _)
  · have hj' : j < l.length - i := by rw [← hlen]; exact (List.getElem?_eq_some_iff.1 hj).1
    have := ha' (by omega)
    subst this
    rw [Addr.add_lit, hR.byte (a + j) (by omega), ← hj]
    simp [bytesOf, List.getElem?_drop, List.getElem?_eq_getElem (show a + j < l.length by omega)]
  · rw [hlen] at hj
    obtain ⟨v, hv, _⟩ := hR.any (o + j) (by have := ho (by omega); omega)
    rw [hv]; rfl
  · rw [hlen] at hj
    exact hR.thaw (o + j) (by have := ho (by omega); omega)
theorem copy_refs {W : World} {q : Nat} {l : List En} (i a o dLen dCap sCap : Nat) (hi : i ≤ l.length) (ha' : i < l.length → a = 16 + i * 2) (hd : l.length - i ≤ dLen) (ho : i < l.length → o + (l.length - i) * 2 ≤ 48)
    (hs : ∀ j (h : j < l.length), W.cell? ⟨q, 16 + j * 2, none⟩ = some (.int .i64 l[j].2.1) ∧ W.cell? ⟨q, 16 + j * 2 + 1, none⟩ = some (.int .u32 l[j].2.2)) (ha : ∀ j, j < 50 → (W.cell? ⟨q, j, none⟩).isSome = true) (hf : ∀ j, j < 50 → W.frozen? ⟨q, j, none⟩ = false) (ty : TypeId) :
    (Builtin.copy_ #[78, 78] ty #[.slice (some ⟨q, o, none⟩) dLen dCap, .slice (some ⟨q, a, none⟩) (l.length - i) sCap]).run Try.prog W = .ok (goInt ((l.length - i : Nat) : Int)) (W.setCells q o (refsOf (l.drop i))) := by
  have hlen : (refsOf (l.drop i)).length = (l.length - i) * 2 := by rw [refsOf_length, List.length_drop]
  refine run_copy_size W _ _ ty 35 2 q o dLen dCap ⟨q, a, none⟩ (l.length - i) sCap _ _ Try.underlying78 rfl (Nat.min_eq_left hd).symm hlen (fun j v hj => ?_) (fun j hj => ?_) (fun j hj => ?_) (refs_one _)
  · obtain ⟨m, hm, ⟨rfl, rfl⟩ | ⟨rfl, rfl⟩⟩ := refs_at _ _ _ hj
    · rw [List.length_drop] at hm
      have e := ha' (by omega)
      subst e
      have := (hs (i + m) (by omega)).1
      rw [Addr.add_lit, show 16 + i * 2 + m * 2 = 16 + (i + m) * 2 from by omega, this, List.getElem_drop]
    · rw [List.length_drop] at hm
      have e := ha' (by omega)
      subst e
      have := (hs (i + m) (by omega)).2
      rw [Addr.add_lit, show 16 + i * 2 + (m * 2 + 1) = 16 + (i + m) * 2 + 1 from by omega, this, List.getElem_drop]
  · rw [hlen] at hj
    exact ha (o + j) (by have := ho (by omega); omega)
  · rw [hlen] at hj
    exact hf (o + j) (by have := ho (by omega); omega)
end Go.Proofs.Ytioacpcmcnjgaaa
