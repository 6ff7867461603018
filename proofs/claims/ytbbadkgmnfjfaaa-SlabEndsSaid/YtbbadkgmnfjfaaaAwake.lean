/- The example of the chapter. -/
import Derived.Test.YtbbadkgmnfjfaaaTakenS
namespace Go.Proofs.Ytbbadkgmnfjfaaa
open Go.RowKit
set_option maxRecDepth 100000
set_option maxHeartbeats 4000000

abbrev strA : ByteArray := ⟨#[97]⟩
abbrev strB : ByteArray := ⟨#[98]⟩
abbrev strC : ByteArray := ⟨#[99]⟩
def awF (i : Nat) : Value := .string (if i = 0 then strA else strB)
theorem filled_u (z : Value) (f : Nat → Value) (n m : Nat) : ∀ t ∈ (filled z f n m).l, 0 ≤ t.u := by
  intro t ht
  unfold filled at ht
  rcases List.mem_append.1 ht with h | h
  · obtain ⟨i, _, rfl⟩ := List.mem_map.1 h
    show (0 : Int) ≤ 1
    omega
  · rw [(List.mem_replicate.1 h).2]
    show (0 : Int) ≤ 0
    omega
theorem rel_u {z : Value} {s : Sb} {i : Nat} {u : Int} (h : ∀ t ∈ s.l, 0 ≤ t.u) (hu : 0 ≤ u) : ∀ t ∈ (relSb z s i u).l, 0 ≤ t.u := by
  intro t ht
  have ht : t ∈ s.l.set i ⟨z, u, false⟩ := ht
  rcases List.mem_or_eq_of_mem_set ht with h1 | rfl
  · exact h t h1
  · exact hu
/-- A slab that is full. -/
theorem take_full (z v : Value) (f : Nat → Value) (n : Nat) : takeSb (filled z f n n) n v = (filled z f n n, none) := by
  have hf : firstUs (filled z f n n).l n = none := by
    unfold firstUs
    rw [filled_len z f n n (Nat.le_refl _), us_nil (fun i h1 h2 => by omega)]
    rfl
  unfold takeSb
  rw [hf]

theorem awake_any (w : World) :
    Calls Try.prog 7 #[] w fun e w' => e = .returned (.bool true) ∧ Below w.heap.size w w' := by
  go_enter Try.func7, Try.ntmps7
  go_wp2_with fail
  refine (Ss.new_yes 2 (by omega) (by omega) _).mono ?_
  rintro e w1 ⟨p, a, g, hp, ha, hg, rfl, hb1, h1⟩
  rw [new_filled _ awF] at h1
  have hb1 := Lib.hid hb1
  have HA1 := Lib.hid h1
  have n1 := h1.pa
  have n2 := h1.pg
  have n3 := h1.ag
  have l1 := h1.hp.lt
  have l2 := h1.ha.lt
  have l3 := h1.hg.lt
  clear h1
  go_wp2_with fail
  refine (Ss.Take_ok HA1.out strA 0 (by rw [filled_len _ _ _ _ (by omega)]; omega) rfl (by rw [filled_len _ _ _ _ (by omega)]; omega) (filled_u _ _ _ _) (by constructor <;> decide) (by constructor <;> decide) (take_filled _ awF 2 0 (by omega))).mono ?_
  rintro e w2 ⟨rfl, ht2, ha2⟩
  have T2 := Lib.hid ht2
  have HA2 := Lib.hid ha2
  have z2 := ht2.size
  clear ht2 ha2
  go_wp2_with fail
  have HB2 := Lib.hid (Fresh.new w2 w2.heap.size #[.int .i64 0, .int .u32 1] 36 rfl)
  refine (Ss.Take_ok (HA2.out.below (Below.new (Below.refl _ _) _)) strB 1 (by rw [filled_len _ _ _ _ (by omega)]; omega) rfl (by rw [filled_len _ _ _ _ (by omega)]; omega) (filled_u _ _ _ _) (by constructor <;> decide) (by constructor <;> decide) (take_filled _ awF 2 1 (by omega))).mono ?_
  rintro e w3 ⟨rfl, ht3, ha3⟩
  have z3 := ht3.size
  simp only [World.size_alloc] at z3
  have o3 := ht3.other HB2.out (by simp; omega)
  have T3 := Lib.hid (T2.out.trans (((Turned.refl [a, g] w2).alloc (.cells #[.int .i64 0, .int .u32 1] 36)).trans ht3))
  have HA3 := Lib.hid ha3
  have HB3 := Lib.hid o3
  clear ht3 ha3 o3
  go_wp2_with fail
  have HC3 := Lib.hid (Fresh.new w3 w3.heap.size #[.int .i64 1, .int .u32 1] 36 rfl)
  refine (Ss.Take_no (HA3.out.below (Below.new (Below.refl _ _) _)) strC 2 (by rw [filled_len _ _ _ _ (by omega)]; omega) rfl (by rw [filled_len _ _ _ _ (by omega)]; omega) (filled_u _ _ _ _) (by constructor <;> decide) (by constructor <;> decide) (take_full _ _ awF 2)).mono ?_
  rintro e w4 ⟨rfl, ht4, ha4⟩
  have z4 := ht4.size
  simp only [World.size_alloc] at z4
  have o4 := ht4.other (HB3.out.alloc (.cells #[.int .i64 1, .int .u32 1] 36)) (by simp; omega)
  have q4 := ht4.other HC3.out (by simp; omega)
  have T4 := Lib.hid (T3.out.trans (((Turned.refl [a, g] w3).alloc (.cells #[.int .i64 1, .int .u32 1] 36)).trans ht4))
  have HA4 := Lib.hid ha4
  have HB4 := Lib.hid o4
  have HC4 := Lib.hid q4
  clear ht4 ha4 o4 q4
  have r0 := (HB4.out.alloc (.cells #[.int .i64 0, .int .u32 0] 36)).cell 0
  have r1 := (HB4.out.alloc (.cells #[.int .i64 0, .int .u32 0] 36)).cell 1
  simp only [List.getElem?_toArray, List.getElem?_cons_succ, List.getElem?_cons_zero] at r0 r1
  go_wp2_with fail
  have hat : (filled (.string ⟨#[]⟩) awF 2 2).l[0]? = some ⟨awF 0, 1, true⟩ := filled_old _ awF 2 2 0 (by omega)
  refine (Ss.free_some (HA4.out.below (Below.new (Below.refl _ _) _)) 0 1 (by rw [filled_len (.string ⟨#[]⟩) awF 2 2 (by omega)]; omega) (by constructor <;> decide) (by constructor <;> decide) 0 _ (live_at (k := 0) hat rfl) hat).mono ?_
  rintro e w5 ⟨rfl, ht5, ha5⟩
  have z5 := ht5.size
  simp only [World.size_alloc] at z5
  have HF4 := Fresh.new w4 w4.heap.size #[.int .i64 0, .int .u32 0] 36 rfl
  have o5 := ht5.other (HB4.out.alloc (.cells #[.int .i64 0, .int .u32 0] 36)) (by simp; omega)
  have q5 := ht5.other (HC4.out.alloc (.cells #[.int .i64 0, .int .u32 0] 36)) (by simp; omega)
  have T5 := Lib.hid (T4.out.trans (((Turned.refl [a, g] w4).alloc (.cells #[.int .i64 0, .int .u32 0] 36)).trans ht5))
  have HA5 := Lib.hid ha5
  have HB5 := Lib.hid o5
  have HC5 := Lib.hid q5
  clear ht5 ha5 o5 q5 HF4 r0 r1 hat
  go_wp2_with fail
  obtain ⟨s6, hs6, hc6, hn6, hl6⟩ := take_freed (.string ⟨#[]⟩) (.string strC) awF 2 2 0 (by omega) (by omega)
  have lrel : (relSb (.string ⟨#[]⟩) (filled (.string ⟨#[]⟩) awF 2 2) 0 1).l.length = 2 := by
    show ((filled (.string ⟨#[]⟩) awF 2 2).l.set 0 _).length = 2
    rw [List.length_set, filled_len _ _ _ _ (by omega)]
  refine (Ss.Take_ok HA5.out strC 0 (Nat.zero_le _) (rel_low _ awF 2 2 0 (by omega)) (Nat.le_trans (Nat.le_of_eq lrel) (by omega)) (rel_u (filled_u _ _ _ _) (by omega)) (by constructor <;> decide) (by constructor <;> decide) hs6).mono ?_
  rintro e w6 ⟨rfl, ht6, ha6⟩
  have z6 := ht6.size
  have o6 := ht6.other HB5.out (by simp; omega)
  have q6 := ht6.other HC5.out (by simp; omega)
  have T6 := Lib.hid (T5.out.trans ht6)
  have HA6 := Lib.hid ha6
  have HB6 := Lib.hid o6
  have HC6 := Lib.hid q6
  have HS6 := Lib.hid (And.intro hs6 (And.intro hc6 (And.intro hn6 hl6)))
  clear ht6 ha6 o6 q6 hs6 hc6 hn6 hl6 lrel
  have r0 := (HB6.out.alloc (.cells #[.int .i64 0, .int .u32 2] 36)).cell 0
  have r1 := (HB6.out.alloc (.cells #[.int .i64 0, .int .u32 2] 36)).cell 1
  simp only [List.getElem?_toArray, List.getElem?_cons_succ, List.getElem?_cons_zero] at r0 r1
  go_wp2_with fail
  have hdead : liveAt s6 0 1 = none := by
    unfold liveAt
    rw [if_pos (by rw [HS6.out.2.2.2]; omega)]
    show (match s6.l[0]? with | some t => if (t.t && t.u == 1) = true then some (0 : Int).toNat else none | none => none) = none
    rw [HS6.out.2.1]
    rfl
  have HF6 := Lib.hid (Fresh.new w6 w6.heap.size #[.int .i64 0, .int .u32 2] 36 rfl)
  refine (Ss.get_none (HA6.out.below (Below.new (Below.refl _ _) _)) 0 1 (by rw [HS6.out.2.2.2]; omega) hdead).mono ?_
  rintro e w7 ⟨rfl, hb7⟩
  have o7 := (HB6.out.alloc (.cells #[.int .i64 0, .int .u32 2] 36)).below hb7
  have q7 := (HC6.out.alloc (.cells #[.int .i64 0, .int .u32 2] 36)).below hb7
  have p7 := HF6.out.below hb7
  have T7 := Lib.hid (T6.out.trans (((Turned.refl [a, g] w6).alloc (.cells #[.int .i64 0, .int .u32 2] 36)).trans (Turned.of_below hb7)))
  clear hb7 hdead r0 r1
  have r0 := o7.cell 0
  have r1 := o7.cell 1
  have r2 := q7.cell 0
  have r3 := q7.cell 1
  have r4 := p7.cell 0
  have r5 := p7.cell 1
  simp only [List.getElem?_toArray, List.getElem?_cons_succ, List.getElem?_cons_zero] at r0 r1 r2 r3 r4 r5
  go_wp2_with fail
  go_ret
  exact ⟨rfl, Turned.below hb1.out T7.out (by simp; omega) hb1.out.size⟩
end Go.Proofs.Ytbbadkgmnfjfaaa
