/- What LiveGrows says, of numbers. -/
import Derived.Test.YtjlfgmjcmicoaaaRefEnough
namespace Go.Proofs.Ytjlfgmjcmicoaaa

theorem grow_no (r : Req) (h : isB r = false) (t m : Int) : wayN r = 0 ∧ boundZ r t = 0 ∧ enoughZ r t m = 0 := by
  simp [wayN, boundZ, enoughZ, h]

/-- The fields that a bound does not look at. -/
theorem isB_swap (r x : Req) (h : isB r = true) (hd : x.d = r.d) (hk : x.key = r.key) (hv : x.val.size ≤ 32) (ho : x.old = r.old) (hl : r.d = 5 → x.lim = r.lim) : isB x = true := by
  obtain ⟨h1, h2, h3, h4, h5⟩ := (isB_of r).1 h
  refine (isB_of x).2 ⟨by rw [hd]; exact h1, fun e => ?_, by rw [hk]; exact h3, hv, by rw [ho]; exact h5⟩
  rw [hd] at e
  rw [hl e]; exact h2 e
theorem way_swap (r x : Req) (h : isB r = true) (hx : isB x = true) (hd : x.d = r.d) (hk : r.d ≠ 5 → x.key = r.key) : wayN x = wayN r := by
  unfold wayN innerN
  rw [if_pos h, if_pos hx, hd]
  by_cases h5 : r.d = 5
  · rw [if_pos h5, if_pos h5]
  · rw [if_neg h5, if_neg h5, hk h5]
theorem bound_swap (r x : Req) (t : Int) (h : isB r = true) (hx : isB x = true) (hd : x.d = r.d) (hk : x.key = r.key) (hl : r.d = 5 → x.lim = r.lim) : boundZ x t = boundZ r t := by
  unfold boundZ
  rw [h, hx, hd, way_swap r x h hx hd (fun _ => hk)]
  by_cases h5 : r.d = 5
  · rw [hl h5]
  · simp only [if_neg h5]
theorem boundZ_at (r : Req) (t : Int) (h : isB r = true) (ht : 0 ≤ t ∧ t ≤ 1099511627776) : boundZ r t = if r.d = 5 then (36 * r.lim + t) * (wayN r : Int) + 2 else (t + 1) * (wayN r : Int) + 1 := by
  unfold boundZ; rw [if_pos ⟨h, ht⟩]
theorem bound_step (r : Req) (t : Int) (h : isB r = true) (ht : 0 ≤ t ∧ t < 1048576) : boundZ r (t + 1) - boundZ r t = wayN r := by
  rw [boundZ_at r _ h ⟨by omega, by omega⟩, boundZ_at r t h ⟨by omega, by omega⟩]
  by_cases h5 : r.d = 5
  · simp only [if_pos h5]
    rw [show 36 * r.lim + (t + 1) = (36 * r.lim + t) + 1 from by omega, Int.add_mul _ 1, Int.one_mul]
    omega
  · simp only [if_neg h5]
    rw [Int.add_mul (t + 1) 1, Int.one_mul]
    omega
theorem codeL_a (s : ByteArray) : (codeL (s ++ ⟨#[97]⟩)).length = (codeL s).length + 1 := by
  unfold codeL
  rw [append_list, encB_append]
  simp [encB]
theorem way_longer (r x : Req) (h : isB r = true) (hs : r.key.size < 16) (hd : x.d = r.d) (hk : x.key = r.key ++ ⟨#[97]⟩) (hv : x.val = r.val) (ho : x.old = r.old) (hl : x.lim = r.lim) :
    isB x = true ∧ (wayN x : Int) - (wayN r : Int) = if r.d = 5 then 0 else 4 := by
  obtain ⟨h1, h2, h3, h4, h5⟩ := (isB_of r).1 h
  have hx : isB x = true := by
    refine (isB_of x).2 ⟨by rw [hd]; exact h1, fun e => by rw [hl]; exact h2 (by rw [← hd]; exact e), ?_, by rw [hv]; exact h4, by rw [ho]; exact h5⟩
    rw [hk, append_size]
    show r.key.size + 1 ≤ 16
    omega
  refine ⟨hx, ?_⟩
  unfold wayN innerN
  rw [if_pos h, if_pos hx, hd]
  by_cases e : r.d = 5
  · rw [if_pos e, if_pos e, if_pos e]; omega
  · rw [if_neg e, if_neg e, if_neg e, hk, codeL_a]; omega
theorem bound_more (r x : Req) (t : Int) (h : isB r = true) (h5 : r.d = 5) (hlt : r.lim < 4096) (ht : 0 ≤ t ∧ t < 1048576) (hd : x.d = r.d) (hk : x.key = r.key) (hv : x.val = r.val) (ho : x.old = r.old) (hl : x.lim = r.lim + 1) :
    isB x = true ∧ boundZ r t < boundZ x t := by
  obtain ⟨h1, h2, h3, h4, h6⟩ := (isB_of r).1 h
  have hx : isB x = true := (isB_of x).2 ⟨by rw [hd]; exact h1, fun e => by rw [hl]; have := h2 h5; omega, by rw [hk]; exact h3, by rw [hv]; exact h4, by rw [ho]; exact h6⟩
  refine ⟨hx, ?_⟩
  have hw := (wayN_le r).2 h
  rw [boundZ_at r t h ⟨by omega, by omega⟩, boundZ_at x t hx ⟨by omega, by omega⟩, if_pos h5, if_pos (by rw [hd]; exact h5), way_swap r x h hx hd (fun _ => hk), hl,
    show 36 * (r.lim + 1) + t = (36 * r.lim + t) + 36 from by omega, Int.add_mul _ 36]
  omega
theorem enough_zero (r : Req) (t m : Int) (h : isB r = true) (ht : 0 ≤ t ∧ t < 1048576) (hm : 0 ≤ m ∧ m < 1048576) (hz : enoughZ r t m = 0) : picksZ r 4096 ≤ boundZ r t + m := by
  have hg := picks_gt r h 4096 (boundZ r t + m) (by omega)
  unfold enoughZ at hz
  rw [if_pos ⟨h, by omega, by omega⟩] at hz
  have h2 : 2 ≤ budgetZ r t m := by unfold budgetZ; omega
  have : 4096 < budgetZ r t m := by
    by_cases e : 4096 < budgetZ r t m
    · exact e
    · rw [if_neg e] at hz; omega
  unfold budgetZ at this
  have := mt hg.1 (by omega)
  omega
theorem enough_least (r : Req) (t m : Int) (h : isB r = true) (ht : 0 ≤ t ∧ t < 1048576) (hm : 0 ≤ m ∧ m < 1048576) (hz : enoughZ r t m ≠ 0) :
    2 ≤ enoughZ r t m ∧ enoughZ r t m ≤ 4096 ∧ boundZ r t + m < picksZ r (enoughZ r t m) ∧ (enoughZ r t m ≠ 2 → picksZ r (enoughZ r t m - 1) ≤ boundZ r t + m) ∧
    2 ≤ enoughZ r (t / 2) (m / 2) ∧ enoughZ r (t / 2) (m / 2) ≤ enoughZ r t m := by
  have hq : ∀ t m : Int, (0 ≤ t ∧ t < 1048576) → (0 ≤ m ∧ m < 1048576) → enoughZ r t m = if 4096 < budgetZ r t m then 0 else budgetZ r t m := fun t m ht hm => by
    unfold enoughZ; rw [if_pos ⟨h, by omega, by omega⟩]
  have hb2 : ∀ t m : Int, 2 ≤ budgetZ r t m := fun t m => by unfold budgetZ; omega
  have hw := (wayN_le r).2 h
  have he := (eachZ_ge r h).1
  have hmono : boundZ r (t / 2) ≤ boundZ r t := by
    rw [boundZ_at r (t / 2) h ⟨by omega, by omega⟩, boundZ_at r t h ⟨by omega, by omega⟩]
    by_cases h5 : r.d = 5
    · simp only [if_pos h5]
      have := Int.mul_le_mul_of_nonneg_right (a := 36 * r.lim + t / 2) (b := 36 * r.lim + t) (c := (wayN r : Int)) (by omega) (by omega)
      omega
    · simp only [if_neg h5]
      have := Int.mul_le_mul_of_nonneg_right (a := t / 2 + 1) (b := t + 1) (c := (wayN r : Int)) (by omega) (by omega)
      omega
  have hless : budgetZ r (t / 2) (m / 2) ≤ budgetZ r t m := by
    have := Int.ediv_le_ediv (c := eachZ r) (a := boundZ r (t / 2) + m / 2) (b := boundZ r t + m) (by omega) (by omega)
    unfold budgetZ
    omega
  rw [hq t m ht hm] at hz ⊢
  rw [hq (t / 2) (m / 2) (by omega) (by omega)]
  have hle : ¬ 4096 < budgetZ r t m := fun e => hz (if_pos e)
  have h2 := hb2 t m
  have h3 := hb2 (t / 2) (m / 2)
  rw [if_neg hle, if_neg (by omega)]
  refine ⟨h2, by omega, ?_, fun hn => ?_, h3, hless⟩
  · exact (picks_gt r h _ (boundZ r t + m) ⟨h2, by omega⟩).2 (by unfold budgetZ; omega)
  · have := mt (picks_gt r h (budgetZ r t m - 1) (boundZ r t + m) ⟨by omega, by omega⟩).1 (by unfold budgetZ at *; omega)
    omega

end Go.Proofs.Ytjlfgmjcmicoaaa
