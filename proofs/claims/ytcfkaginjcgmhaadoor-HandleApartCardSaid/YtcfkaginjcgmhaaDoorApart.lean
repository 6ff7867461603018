/- The walk of HandleApart. -/
import Derived.Test.YtcfkaginjcgmhaaDoorGrants
namespace Go.Proofs.YtcfkaginjcgmhaaDoor
open Go.RowKit
set_option maxRecDepth 100000
set_option maxHeartbeats 40000000

/-- The rights with one added, and with it taken off. -/
def withN (r k : Nat) : Nat := if r / k % 2 = 1 then r else r + k
theorem or_k (r : Nat) (hr : r < 256) (k : Nat) (hk : k = 1 ∨ k = 2 ∨ k = 4) : bits .or .u8 (r : Int) (k : Int) = (withN r k : Nat) ∧ bits .andNot .u8 (withN r k : Int) (k : Int) = ((withN r k - k : Nat) : Int) ∧ withN r k < 256 ∧ k ≤ withN r k ∧ withN r k / k % 2 = 1 := by
  have : ∀ r : Fin 256, ∀ k ∈ [1, 2, 4], bits .or .u8 (r.val : Int) ((k : Nat) : Int) = (withN r.val k : Nat) ∧ bits .andNot .u8 (withN r.val k : Int) (k : Int) = ((withN r.val k - k : Nat) : Int) ∧ withN r.val k < 256 ∧ k ≤ withN r.val k ∧ withN r.val k / k % 2 = 1 := by decide +kernel
  exact this ⟨r, hr⟩ k (by simp; omega)

theorem less_within {t g : Int} {m k : Nat} (hk : k = 1 ∨ k = 2 ∨ k = 4) (hm : k ≤ m) (hb : m / k % 2 = 1) :
    (rightZ t g (m - k : Nat) = true → rightZ t g m = true) ∧ (rightZ t g m = true → m - k ≠ 0 → rightZ t g (m - k : Nat) = true ∧ withinZ t g (m - k) t g m = true ∧ withinZ t g m t g (m - k) = false) := by
  have key : m < 8 → (subN (m - k) m = true ∧ subN m (m - k) = false) := by
    intro h8
    have : ∀ m : Fin 8, ∀ k ∈ [1, 2, 4], k ≤ m.val → m.val / k % 2 = 1 → subN (m.val - k) m.val = true ∧ subN m.val (m.val - k) = false := by decide +kernel
    exact this ⟨m, h8⟩ k (by simp; omega) hm hb
  constructor
  · intro h
    unfold rightZ at h ⊢
    simp only [Bool.and_eq_true, decide_eq_true_eq] at h ⊢
    refine ⟨h.1, ?_⟩
    rcases hk with rfl | rfl | rfl <;> omega
  · intro h h0
    have h8 := rightZ_lt h
    obtain ⟨k1, k2⟩ := key h8
    have hl : rightZ t g (m - k : Nat) = true := by
      unfold rightZ at h ⊢
      simp only [Bool.and_eq_true, decide_eq_true_eq] at h ⊢
      refine ⟨h.1, ?_⟩
      omega
    refine ⟨hl, ?_, ?_⟩
    · rw [within_iff]; exact ⟨hl, h, rfl, rfl, k1⟩
    · unfold withinZ; rw [k2]; simp

theorem less_allows {t g : Int} {m k : Nat} {d : Int} (hk : k = 1 ∨ k = 2 ∨ k = 4) (hm : k ≤ m) (hb : m / k % 2 = 1) (h : rightZ t g m = true) (hl : rightZ t g (m - k : Nat) = true) :
    (asksN d = k → allowsZ t g (m - k) d = false ∧ allowsZ t g m d = true) ∧ (asksN d ≠ k → allowsZ t g (m - k) d = allowsZ t g m d) := by
  have h8 := rightZ_lt h
  constructor
  · intro e
    unfold allowsZ
    rw [e, h, hl]
    constructor
    · have : decide ((m - k) / k % 2 = 1) = false := by
        rw [decide_eq_false_iff_not]
        rcases hk with rfl | rfl | rfl <;> omega
      rw [this]; simp
    · rw [decide_eq_true hb]
      simp
      omega
  · intro e
    unfold allowsZ
    rw [h, hl]
    by_cases h0 : asksN d = 0
    · rw [h0]; simp
    · have : decide ((m - k) / asksN d % 2 = 1) = decide (m / asksN d % 2 = 1) := by
        rw [decide_eq_decide]
        rcases asksN_cases d h0 with a | a | a <;> rw [a] at e ⊢ <;> rcases hk with rfl | rfl | rfl <;> first | (exact absurd rfl e) | omega
      rw [this]

theorem bit_at (b : Int) : ∃ (i k : Nat), ((b.tmod 3 + 3).tmod 3) = i ∧ i < 3 ∧ (k = 1 ∨ k = 2 ∨ k = 4) ∧ (#[(Value.int .u8 1), (Value.int .u8 2), (Value.int .u8 4)] : Array Value)[i]? = some (.int .u8 (k : Int)) := by
  have h1 : -3 < b.tmod 3 ∧ b.tmod 3 < 3 := by
    constructor
    · have := Int.lt_tmod_of_pos b (show (0 : Int) < 3 by decide); omega
    · exact Int.tmod_lt_of_pos b (by decide)
  obtain ⟨x, hx⟩ : ∃ x, b.tmod 3 = x := ⟨_, rfl⟩
  rw [hx] at h1 ⊢
  have h2 : (x + 3).tmod 3 = (x + 3) % 3 := Int.tmod_eq_emod_of_nonneg (by omega)
  rw [h2]
  have h3 : (x + 3) % 3 = 0 ∨ (x + 3) % 3 = 1 ∨ (x + 3) % 3 = 2 := by omega
  rcases h3 with h | h | h <;> rw [h]
  · exact ⟨0, 1, rfl, by decide, .inl rfl, rfl⟩
  · exact ⟨1, 2, rfl, by decide, .inr (.inl rfl), rfl⟩
  · exact ⟨2, 4, rfl, by decide, .inr (.inr rfl), rfl⟩

theorem bit_wrap (b : Int) : wrap64 (b.tmod 3 + 3) = b.tmod 3 + 3 := by
  have h1 := Int.lt_tmod_of_pos b (show (0 : Int) < 3 by decide)
  have h2 := Int.tmod_lt_of_pos b (show (0 : Int) < 3 by decide)
  unfold wrap64
  omega

theorem handleApart_walk (t g : Int) (r : Nat) (b d : Int) (w : World) (hr : r < 256) (hw : Tab w ∧ Errs w) :
    Calls Tryd.prog 8 #[.int .i64 t, .int .u32 g, .int .u8 r, .int .i64 b, .int .i64 d] w fun e w' => e = .returned (.bool true) ∧ Below w.heap.size w w' := by
  have HT := Lib.hid hw.1
  have HE := Lib.hid hw.2
  obtain ⟨i, k, hi, hi3, hk, hik⟩ := bit_at b
  obtain ⟨o1, o2, o3, o4, o5⟩ := or_k r hr k hk
  obtain ⟨m, hm⟩ : ∃ m, withN r k = m := ⟨_, rfl⟩
  rw [hm] at o1 o2 o3 o4 o5
  obtain ⟨x, hx⟩ : ∃ x, rightZ t g m = x := ⟨_, rfl⟩
  obtain ⟨p, hp⟩ : ∃ p, allowsZ t g m d = p := ⟨_, rfl⟩
  have f1 := less_within (t := t) (g := g) hk o4 o5
  have f2 := less_allows (t := t) (g := g) (d := d) hk o4 o5
  obtain ⟨l, hl⟩ : ∃ l, m - k = l := ⟨_, rfl⟩
  rw [hl] at o2 f1 f2
  have hl8 : l < 256 := by omega
  have hk0 : k ≤ 4 := by omega
  obtain ⟨n, hn⟩ : ∃ n, asksN d = n := ⟨_, rfl⟩
  rw [hn, hx, hp] at f2
  rw [hx] at f1
  have HN := Lib.hid hn
  have F1 := Lib.hid f1
  have F2 := Lib.hid f2
  have HX := Lib.hid hx
  have HP := Lib.hid hp
  have HM8 := Lib.hid o3
  have HL8 := Lib.hid hl8
  have hq : (wrap64 (b.tmod 3 + 3)).tmod 3 = (i : Int) := by rw [bit_wrap]; exact hi
  have hv : ∀ h, ([(Value.int .u8 1), (Value.int .u8 2), (Value.int .u8 4)] : List Value)[i]'h = .int .u8 (k : Int) := by
    intro h
    have := hik
    simp only [List.getElem?_toArray] at this
    exact (List.getElem?_eq_some_iff.1 this).2
  have hi3' : (i : Int) < 3 := by omega
  have hi0 : (0 : Int) ≤ (i : Int) := Int.natCast_nonneg _
  clear hw hr hm hl o3 o4 o5 hik hk f1 f2 hx hp hn hl8 hk0 hi
  go_enter Tryd.func8, Tryd.ntmps8
  go_wp2_with fail
  refine (awake_any _ HT.out HE.out).mono ?_
  rintro e w1 ⟨rfl, hb1⟩
  have HB1 := Lib.hid hb1
  clear hb1
  go_wp2_with fail
  have HB2 := Lib.hid (Below.new (Below.new (Below.new HB1.out (.cells #[.int .u8 1, .int .u8 2, .int .u8 4] 23)) (.cells #[.int .i64 t, .int .u32 g, .int .u8 m] 25)) (.cells #[.int .i64 t, .int .u32 g, .int .u8 l] 25))
  have HF2 := Lib.hid ((Fresh.new (w1.alloc (.cells #[.int .u8 1, .int .u8 2, .int .u8 4] 23)) (w1.heap.size + 1) #[.int .i64 t, .int .u32 g, .int .u8 m] 25 (by simp)).alloc (.cells #[.int .i64 t, .int .u32 g, .int .u8 l] 25))
  have HG2 := Lib.hid (Fresh.new ((w1.alloc (.cells #[.int .u8 1, .int .u8 2, .int .u8 4] 23)).alloc (.cells #[.int .i64 t, .int .u32 g, .int .u8 m] 25)) (w1.heap.size + 1 + 1) #[.int .i64 t, .int .u32 g, .int .u8 l] 25 (by simp))
  refine (hright_any t g m _).mono ?_
  rw [HX.out]
  rintro e w3 ⟨rfl, hb3⟩
  have HB3 := Lib.hid (Below.step HB2.out hb3)
  have HF3 := Lib.hid (HF2.out.below hb3)
  have HG3 := Lib.hid (HG2.out.below hb3)
  clear hb3
  have a0 := HF3.out.cell 0
  have a1 := HF3.out.cell 1
  have a2 := HF3.out.cell 2
  have b0 := HG3.out.cell 0
  have b1 := HG3.out.cell 1
  have b2 := HG3.out.cell 2
  simp only [List.getElem?_toArray, List.getElem?_cons_zero, List.getElem?_cons_succ] at a0 a1 a2 b0 b1 b2
  clear hq hv hi3 hi3' hi0 o1 o2
  cases x
  · have hl0 : rightZ t g l = false := by
      cases h : rightZ t g l
      · rfl
      · exact absurd (F1.out.1 h) (by decide)
    go_wp2_with fail
    refine (hright_any t g l _).mono ?_
    rw [hl0]
    rintro e w4 ⟨rfl, hb4⟩
    have HB4 := Lib.hid (Below.step HB3.out hb4)
    clear hb4
    go_wp2_with fail
    go_ret
    exact ⟨rfl, HB4.out⟩
  · by_cases h0 : l = 0
    · subst h0
      have hl0 : rightZ t g (0 : Nat) = false := by unfold rightZ; simp
      go_wp2_with fail
      refine (hright_any t g (0 : Nat) _).mono ?_
      rw [hl0]
      rintro e w4 ⟨rfl, hb4⟩
      have HB4 := Lib.hid (Below.step HB3.out hb4)
      clear hb4
      go_wp2_with fail
      go_ret
      exact ⟨rfl, HB4.out⟩
    · obtain ⟨g1, g2, g3⟩ := F1.out.2 rfl h0
      have hA := F2.out rfl g1
      have G1 := Lib.hid g1
      have G2 := Lib.hid g2
      have G3 := Lib.hid g3
      have h0' : ¬ (l : Int) = 0 := by omega
      clear g1 g2 g3 h0
      go_wp2_with fail
      refine (asks_any d _).mono ?_
      rw [HN.out]
      rintro e w4 ⟨rfl, hb4⟩
      have HB4 := Lib.hid (Below.step HB3.out hb4)
      have HF4 := Lib.hid (HF3.out.below hb4)
      have HG4 := Lib.hid (HG3.out.below hb4)
      clear hb4 a0 a1 a2 b0 b1 b2
      have a0 := HF4.out.cell 0
      have a1 := HF4.out.cell 1
      have a2 := HF4.out.cell 2
      have b0 := HG4.out.cell 0
      have b1 := HG4.out.cell 1
      have b2 := HG4.out.cell 2
      simp only [List.getElem?_toArray, List.getElem?_cons_zero, List.getElem?_cons_succ] at a0 a1 a2 b0 b1 b2
      go_wp2_with fail
      have k0 := fun d os => cell_regrown a0 d os
      have k1 := fun d os => cell_regrown a1 d os
      have k2 := fun d os => cell_regrown a2 d os
      have k3 := fun d os => cell_regrown b0 d os
      have k4 := fun d os => cell_regrown b1 d os
      have k5 := fun d os => cell_regrown b2 d os
      have hcs : (n = k ∧ allowsZ t g l d = false ∧ p = true) ∨ (((n : Int) != (k : Int)) = true ∧ ¬ ((n : Int) = (k : Int)) ∧ allowsZ t g l d = false ∧ p = false) ∨ (((n : Int) != (k : Int)) = true ∧ ¬ ((n : Int) = (k : Int)) ∧ allowsZ t g l d = true ∧ p = true) := by
        by_cases e : n = k
        · exact .inl ⟨e, hA.1 e⟩
        · have e1 : ¬ ((n : Int) = (k : Int)) := by omega
          have e2 : ((n : Int) != (k : Int)) = true := by simpa using e1
          have e3 := hA.2 e
          cases p
          · exact .inr (.inl ⟨e2, e1, e3, rfl⟩)
          · exact .inr (.inr ⟨e2, e1, e3, rfl⟩)
      clear hA
      rcases hcs with ⟨rfl, e1, rfl⟩ | ⟨hnb, hnc, e1, rfl⟩ | ⟨hnb, hnc, e1, rfl⟩
      all_goals
        have q1 := G1.out
        have q2 := G2.out
        have q3 := G3.out
        have q4 := HP.out
        refine wp_region_quiet_below (by kernel_rfl) (by kernel_rfl) ?_
        repeat (any_goals (first | go_big_quiet_step (first
          | (go_at_call 14; exact Calls.regrown_of (hright_any _ _ _ _))
          | (go_at_call 17; exact Calls.regrown_of (allows_any _ _ _ _ (by first | exact HM8.out | exact HL8.out) _))
          | (go_at_call 16; exact Calls.regrown_of (within_any _ _ _ _ _ _ _))) | quiet_step (fail)))
        refine wpQuiet_nil ?_
        intro w5 hw5
        have HB5 : Hid (Below w.heap.size w w5) := by
          have hb5 : Below w4.heap.size w4 w5 := by obtain ⟨p, rfl⟩ := hw5; exact below_regrown _ _ _
          exact Below.step HB4.out hb5
        clear hw5
        go_wp2_with fail
        go_ret
        exact ⟨rfl, HB5.out⟩

end Go.Proofs.YtcfkaginjcgmhaaDoor
