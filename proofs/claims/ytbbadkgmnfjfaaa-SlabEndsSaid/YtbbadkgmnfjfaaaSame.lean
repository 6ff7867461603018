/- The slab and its reference tell the same. -/
import Derived.Test.YtbbadkgmnfjfaaaAll
import Derived.Test.YtbbadkgmnfjfaaaDoO
namespace Go.Proofs.Ytbbadkgmnfjfaaa
open Go.RowKit Go.Shelf
attribute [local go_sem] Oper.semAt_some
set_option maxRecDepth 100000
set_option maxHeartbeats 4000000

theorem all_any (p : Nat) (w : World) :
    Calls Try.prog 13 #[.pointer (some ⟨p, 0, none⟩)] w fun e w' => e = .returned (.func (.func 35) #[] #[.pointer (some ⟨w.heap.size, 0, none⟩)]) ∧ w' = w.alloc (.cells #[.pointer (some ⟨p, 0, none⟩)] 24) := by
  go_enter Try.func13, Try.ntmps13
  go_wp2_with fail
  go_ret
  exact ⟨rfl, rfl⟩
theorem left_cnt {l : List Ce} {b : Nat} (hb : b < 4294967295) (hu : ∀ t ∈ l, 0 ≤ t.u ∧ t.u ≤ b) : (l.countP (fun t => !t.t && decide (t.u < 4294967295)) : Nat) + cnt l = l.length := by
  induction l with
  | nil => rfl
  | cons t l ih =>
    have h1 := ih (fun x hx => hu x (List.mem_cons_of_mem _ hx))
    have h2 := hu t (List.mem_cons_self ..)
    have h3 : decide (t.u < 4294967295) = true := decide_eq_true (by omega)
    unfold cnt at h1 ⊢
    rw [List.countP_cons, List.countP_cons, List.length_cons, h3]
    cases t.t <;> simp <;> omega
theorem ut_mem {l : List Ce} {lo k j : Nat} : j ∈ Si.ut l lo k ↔ lo ≤ j ∧ j < k ∧ ((l[j]?).map Ce.tk).getD false = true := by
  induction k with
  | zero => simp [Si.ut]
  | succ k ih =>
    rw [Si.ut, List.mem_append, ih]
    constructor
    · rintro (⟨h1, h2, h3⟩ | h)
      · exact ⟨h1, by omega, h3⟩
      · split at h
        · rename_i hk
          simp at h
          subst h
          exact ⟨hk.1, by omega, hk.2⟩
        · simp at h
    · rintro ⟨h1, h2, h3⟩
      by_cases e : j = k
      · subst e
        right
        rw [if_pos ⟨h1, h3⟩]
        simp
      · left
        exact ⟨h1, by omega, h3⟩
theorem ut_gap {l : List Ce} {k x j : Nat} (h : Si.ut l 0 k = Si.ut l 0 x) (hj : k ≤ j) (hx : j < x) (t : Ce) (ht : l[j]? = some t) : t.t = false := by
  cases hb : t.t with
  | false => rfl
  | true =>
    have h1 : j ∈ Si.ut l 0 x := ut_mem.2 ⟨Nat.zero_le _, hx, by rw [ht]; exact hb⟩
    rw [← h] at h1
    have := (ut_mem.1 h1).2.1
    omega
theorem ut_low {l : List Ce} {k x : Nat} {t : Ce} (h : Si.ut l 0 k = Si.ut l 0 x) (ht : l[x]? = some t) (hb : t.t = true) : k ≤ x := by
  rcases Nat.lt_or_ge x k with hlt | hge
  · have h1 : x ∈ Si.ut l 0 k := ut_mem.2 ⟨Nat.zero_le _, hlt, by rw [ht]; exact hb⟩
    rw [h] at h1
    have := (ut_mem.1 h1).2.1
    omega
  · exact hge
theorem ut_next {l : List Ce} {x : Nat} {t : Ce} (ht : l[x]? = some t) (hb : t.t = true) : Si.ut l 0 x ++ [x] = Si.ut l 0 (x + 1) := by
  rw [Si.ut, if_pos ⟨Nat.zero_le _, by rw [ht]; exact hb⟩]
/-- What holds between two rounds of same. -/
def Mid (W : World) (r gr q3 q4 q5 : Nat) (l : List Ce) (pre : List Nat) (Wc : World) : Prop :=
  ∃ k : Nat, k ≤ l.length ∧ pre = Si.ut l 0 k ∧ Fresh Wc q5 #[.int .i64 (k : Int)] 3 ∧ RAt Wc r gr l ∧ Fresh Wc q3 #[.pointer (some ⟨r, 0, none⟩)] 28 ∧ Fresh Wc q4 #[.bool false] 4 ∧ Below W.heap.size W Wc
theorem RAt.kept {W W' : World} {row : Option Nat} {r gr : Nat} {l : List Ce} (h : RAt W r gr l) (hg : W.grownBy W' row) (hr : ∀ r, row = some r → ∃ o : Obj, W.heap[r]? = some o ∧ o.isCells = false) : RAt W' r gr l := ⟨h.hr.kept hg hr, h.hg.kept hg hr⟩
theorem Mid.own {W : World} {r gr q3 q4 q5 B : Nat} {l : List Ce} (hB : W.heap.size ≤ B) : OwnFrom B (Mid W r gr q3 q4 q5 l) := by
  rintro pre X Y row ⟨k, h1, h2, h3, h4, h5, h6, h7⟩ hg hr
  have hr' : ∀ r, row = some r → ∃ o : Obj, X.heap[r]? = some o ∧ o.isCells = false := fun r e => (hr r e).2
  exact ⟨k, h1, h2, h3.kept hg hr', h4.kept hg hr', h5.kept hg hr', h6.kept hg hr', h7.grown hg (by exact h7.size) (fun r e => by have := (hr r e).1; omega)⟩
theorem same_any {W : World} {p a g r gr : Nat} {s : Sb} {N b : Nat} (hA : Si.At W p a g s) (hR : RAt W r gr s.l) (hW : Wf s N b) (hN : N ≤ 4096) (hb : b < 4294967295) (hx : ∀ (j : Nat) (t : Ce), s.l[j]? = some t → ∃ v : Int, t.x = .int .i64 v) :
    Calls Try.prog 11 #[.pointer (some ⟨p, 0, none⟩), .pointer (some ⟨r, 0, none⟩)] W fun e w' => e = .returned (.bool true) ∧ Below W.heap.size W w' := by
  have hl : s.l.length ≤ 5000 := by have := hW.len; omega
  have hlen := hW.n
  have hleft : s.left = (s.l.countP (fun t => !t.t && decide (t.u < 4294967295)) : Nat) := by
    have h1 := left_cnt hb hW.u
    have h2 := hW.f
    have h3 := hW.len
    omega
  refine (callsIn_wide (n := 10)).1 ?_
  refine callsIn_of_wp_marks Try.func11 rfl trivial ?_ rfl
  simp only [Try.ntmps11, List.size_toArray, List.length_cons, List.length_nil, Nat.reduceAdd, Nat.reduceSub, Array.replicate_succ, Array.replicate_zero, List.push_toArray, List.append_toArray, List.nil_append, List.cons_append]
  obtain ⟨W1, hW1⟩ : ∃ W1, W1 = (W.alloc (.cells #[.pointer (some ⟨r, 0, none⟩)] 28)).alloc (.cells #[.bool false] 4) := ⟨_, rfl⟩
  have B1 : Below W.heap.size W W1 := by rw [hW1]; exact Below.new (Below.new (Below.refl _ _) _) _
  have A1 := hA.below B1
  have R1 := hR.below B1
  have f3 : Fresh W1 W.heap.size #[.pointer (some ⟨r, 0, none⟩)] 28 := by rw [hW1]; exact (Fresh.new _ _ _ _ rfl).alloc _
  have f4 : Fresh W1 (W.heap.size + 1) #[.bool false] 4 := by rw [hW1]; exact Fresh.new _ _ _ _ (by simp)
  have s1 : W1.heap.size = W.heap.size + 2 := by rw [hW1]; simp
  have d3 := f3.cell 0
  simp only [List.getElem?_toArray, List.getElem?_cons_zero] at d3
  have K1 : ∀ m, Calls Try.prog 15 #[.pointer (some ⟨p, 0, none⟩)] (W1.drewN m) fun e w' => e = .returned (.int .i64 (s.l.countP (·.t))) ∧ w' = W1.drewN m := fun m => by
    have := Si.len_any (W := W1.drewN m) (p := p) (a := a) (g := g) (s := s) ⟨A1.hp, A1.ha, A1.hg⟩
    rw [hlen] at this
    exact this
  have K2 : ∀ m, Calls Try.prog 31 #[.pointer (some ⟨r, 0, none⟩)] (W1.drewN m) fun e w' => e = .returned (.int .i64 (s.l.countP (·.t))) ∧ w' = W1.drewN m := fun m =>
    rlen_any (W := W1.drewN m) ⟨R1.hr, R1.hg⟩ hl
  have K3 : ∀ m, Calls Try.prog 21 #[.pointer (some ⟨p, 0, none⟩)] (W1.drewN m) fun e w' => e = .returned (.int .i64 (s.l.countP (fun t => !t.t && decide (t.u < 4294967295)))) ∧ w' = W1.drewN m := fun m => by
    have := Si.left_any (W := W1.drewN m) (p := p) (a := a) (g := g) (s := s) ⟨A1.hp, A1.ha, A1.hg⟩
    rw [hleft] at this
    exact this
  have K4 : ∀ m, Calls Try.prog 32 #[.pointer (some ⟨r, 0, none⟩)] (W1.drewN m) fun e w' => e = .returned (.int .i64 (s.l.countP (fun t => !t.t && decide (t.u < 4294967295)))) ∧ w' = W1.drewN m := fun m =>
    rleft_any (W := W1.drewN m) ⟨R1.hr, R1.hg⟩ hl
  obtain ⟨n1, hn1⟩ : ∃ n1, s.l.countP (·.t) = n1 := ⟨_, rfl⟩
  obtain ⟨n2, hn2⟩ : ∃ n2, s.l.countP (fun t => !t.t && decide (t.u < 4294967295)) = n2 := ⟨_, rfl⟩
  rw [hn1] at K1 K2
  rw [hn2] at K3 K4
  have H1 := Lib.hid K1
  have H2 := Lib.hid K2
  have H3 := Lib.hid K3
  have H4 := Lib.hid K4
  have HW1 := Lib.hid hW1
  have HS1 := Lib.hid s1
  have HX := Lib.hid hx
  have HF := Lib.hid (⟨B1, A1, R1, f3, f4, hA, hR⟩ : _ ∧ _ ∧ _ ∧ _ ∧ _ ∧ _ ∧ _)
  have HL := Lib.hid hW.len
  clear K1 K2 K3 K4 hW1 s1 hx B1 A1 R1 f3 f4 hA hR hn1 hn2 hlen hleft hW
  gi_wp2
  rw [← HW1.out]
  refine wpIn_wide.2 ?_
  go_quiet ((first
    | (go_at_call 15; exact Calls.quiet_of_same (H1.out _))
    | (go_at_call 31; exact Calls.quiet_of_same (H2.out _))
    | (go_at_call 21; exact Calls.quiet_of_same (H3.out _))
    | (go_at_call 32; exact Calls.quiet_of_same (H4.out _))))
  obtain ⟨W2, hW2⟩ : ∃ W2, W2 = W1.drewN nq := ⟨_, rfl⟩
  rw [← hW2]
  have HF2 : Hid (Below W.heap.size W W2 ∧ Si.At W2 p a g s ∧ RAt W2 r gr s.l ∧ Fresh W2 W.heap.size #[.pointer (some ⟨r, 0, none⟩)] 28 ∧ Fresh W2 (W.heap.size + 1) #[.bool false] 4 ∧ W2.heap.size = W.heap.size + 2) := by
    obtain ⟨⟨b1, b2, b3, b4, b5⟩, h2, h3, h4, h5, _⟩ := HF.out
    rw [hW2]
    exact ⟨⟨b1, b2, b3, b4, b5⟩, ⟨h2.hp, h2.ha, h2.hg⟩, ⟨h3.hr, h3.hg⟩, h4, h5, HS1.out⟩
  clear hW2 d3 H1 H2 H3 H4 HW1 HS1
  gi_wp2_with (refine ⟨trivial, ?_⟩; gi_at_call 13; refine (callsIn_wide.2 (all_any _ _)).mono ?_; rintro e WL ⟨rfl, hWL⟩; have HWL := Lib.hid hWL; clear hWL)
  obtain ⟨B2, A2, R2, f3, f4, s2⟩ := HF2.out
  have HS2 := Lib.hid s2
  obtain ⟨_, _, _, _, _, hA, hR⟩ := HF.out
  have szL : WL.heap.size = W2.heap.size + 2 := by rw [HWL.out]; simp
  have BL : Below W2.heap.size W2 WL := by rw [HWL.out]; exact Below.new (Below.new (Below.refl _ _) _) _
  have f5 : Fresh WL W2.heap.size #[.int .i64 0] 3 := by rw [HWL.out]; exact (Fresh.new _ _ _ _ rfl).alloc _
  have fs : Fresh WL (W2.heap.size + 1) #[.pointer (some ⟨p, 0, none⟩)] 24 := by rw [HWL.out]; exact Fresh.new _ _ _ _ (by simp)
  have AL := A2.below BL
  have RL := R2.below BL
  have l3 := f3.below BL
  have l4 := f4.below BL
  have BW : Below W.heap.size W WL := Below.step B2 BL
  clear A2 R2 f3 f4 BL B2 HF HF2 HWL s2
  have g1 : W.heap.size + 2 ≤ W2.heap.size := by have := HS2.out; omega
  refine range_box rfl (by omega) (gf := 35) (lb := #[.pointer (some ⟨W2.heap.size + 1, 0, none⟩)]) rfl trivial (enters_of Try.func35 (by kernel_rfl) rfl)
    (Si.all_own 9 (by omega) (W2.heap.size + 1) [W2.heap.size, WL.heap.size + 1] s hl HX.out WL p a g AL (fs.cell 0) (by omega) (by intro k hk; simp at hk; omega))
    (fun h k => h.trans k) (fun Wc o _ => Turned.put (by simp) o) (Below.refl _ _) (fun _ => rfl)
    (Mid W r gr W.heap.size (W.heap.size + 1) W2.heap.size s.l) (fun _ _ _ => False) (Mid.own (by omega)) (fun _ _ _ _ _ h _ _ => h)
    ⟨0, Nat.zero_le _, rfl, f5, RL, l3, l4, BW⟩
    (fun x a' Wc => ∃ q, a' = { tmps := #[.pointer (some ⟨p, 0, none⟩), .pointer (some ⟨r, 0, none⟩), undef, .pointer (some ⟨W.heap.size, 0, none⟩), .pointer (some ⟨W.heap.size + 1, 0, none⟩), .pointer (some ⟨W2.heap.size, 0, none⟩), .pointer (some ⟨q, 0, none⟩), (Si.at0 s x).x, .pointer (some ⟨p, 0, none⟩), .int .i64 (n1 : Int), .pointer (some ⟨r, 0, none⟩), .int .i64 (n1 : Int), .bool false, .bool false, .pointer (some ⟨p, 0, none⟩), .int .i64 (n2 : Int), .pointer (some ⟨r, 0, none⟩), .int .i64 (n2 : Int), .bool false, .bool false, .pointer (some ⟨p, 0, none⟩), .func (.func 35) #[] #[.pointer (some ⟨W2.heap.size + 1, 0, none⟩)], refV (x : Int) (Si.at0 s x).u, (Si.at0 s x).x, undef, undef, undef, undef, undef, undef, undef, undef, undef, undef, undef, undef, undef, undef, undef, undef, undef, undef, undef, undef, undef, undef, undef, undef, undef, undef, undef, undef, undef, undef, undef, undef, undef, undef, undef, undef, undef, undef, undef, undef, undef, undef, undef, undef, undef, undef, undef, undef, undef, undef, undef, undef, undef, undef, undef, undef, undef, undef, undef, undef, undef, undef, undef, undef, undef, undef, undef, undef, undef, undef, undef, undef, undef, undef, undef, undef, undef, undef, undef, undef, undef, undef], defers := [] } ∧ Fresh Wc q #[.int .i64 (x : Int), .int .u32 (Si.at0 s x).u] 36)
    (fun x a' _ X Y row ⟨q, h1, h2⟩ hg hr => ⟨q, h1, h2.kept hg (fun r e => (hr r e).2)⟩)
    ?assignment ?round ?done ?stop
  case assignment =>
    rintro l' pre x Wc K hG hI hK
    have HK := Lib.hid (hK _ (Wc.alloc (.cells #[.int .i64 (x : Int), .int .u32 (Si.at0 s x).u] 36)) ((KeepsOthers.alloc _ _).from _) ((Turned.refl _ Wc).alloc _) (OwnFrom.alloc (Mid.own (B := WL.heap.size) (by omega)) _ hI) ⟨Wc.heap.size, rfl, Fresh.new _ _ _ _ rfl⟩)
    clear hK hI hG
    unfold Si.elemV
    gi_wp2
    exact HK.out
  case round =>
    rintro l' pre x a' W5 hG ⟨k, hk, hpre, c5, cR, c3, c4, cB⟩ ⟨q, rfl, cq⟩ hz
    obtain ⟨t, ht, htt, hpx⟩ : ∃ t, s.l[x]? = some t ∧ t.t = true ∧ pre = Si.ut s.l 0 x := by
      obtain ⟨j, t, h1, h2, _, h3⟩ := hG
      obtain ⟨h4, h3⟩ := List.append_inj' h3 rfl
      simp only [List.cons.injEq, and_true] at h3
      subst h3
      exact ⟨t, h1, h2, h4⟩
    have hgap : ∀ (j : Nat) (tj : Ce), k ≤ j → j < x → s.l[j]? = some tj → tj.t = false := fun j tj h1 h2 h3 => ut_gap (hpre ▸ hpx) h1 h2 tj h3
    have hkx : k ≤ x := ut_low (hpre ▸ hpx) ht htt
    have hnx : pre ++ [x] = Si.ut s.l 0 (x + 1) := by rw [hpx]; exact ut_next ht htt
    have hxl : x < s.l.length := (List.getElem?_eq_some_iff.1 ht).1
    have hq5 : q ≠ W2.heap.size := cq.apart c5 (by decide)
    have hr5 : r ≠ W2.heap.size := cR.hr.apart c5 (by decide)
    have hg5 : gr ≠ W2.heap.size := cR.hg.apart c5 (by decide)
    have h35 : W.heap.size ≠ W2.heap.size := by omega
    have h45 : W.heap.size + 1 ≠ W2.heap.size := by omega
    rw [Si.at0_some ht] at cq ⊢
    obtain ⟨vx, hvx⟩ := HX.out _ _ ht
    obtain ⟨tx, tu, tt⟩ := t
    dsimp only at hvx htt cq ⊢
    subst hvx htt
    obtain ⟨nn, hnn⟩ : ∃ nn : Nat, s.l.length = nn := ⟨_, rfl⟩
    -- what stays while the loop runs
    have kept : ∀ wr, Turned [W2.heap.size] W5 wr → RAt wr r gr s.l ∧ Fresh wr W.heap.size #[.pointer (some ⟨r, 0, none⟩)] 28 ∧ Fresh wr (W.heap.size + 1) #[.bool false] 4 ∧ Fresh wr q #[.int .i64 (x : Int), .int .u32 tu] 36 := fun wr hT =>
      ⟨cR.turned hT (by simpa using hr5) (by simpa using hg5), hT.other c3 (by simpa using h35), hT.other c4 (by simpa using h45), hT.other cq (by simpa using hq5)⟩
    have HKP := Lib.hid kept
    have HGAP := Lib.hid hgap
    have HNX := Lib.hid hnx
    have HT := Lib.hid ht
    have HN := Lib.hid hnn
    have HC5 := Lib.hid c5
    have HB := Lib.hid cB
    have HNE := Lib.hid (⟨hq5, hr5, hg5, h35, h45⟩ : _ ∧ _ ∧ _ ∧ _ ∧ _)
    have hxn : x < nn := by omega
    have hnl : nn ≤ 5000 := by omega
    clear kept hgap hnx ht hnn c5 cB hq5 hr5 hg5 h35 h45 cR c3 c4 cq hpre hpx hG hk hxl f5 fs AL RL l3 l4 BW hA hR
    gi_wp2
    gi_loopw [24] (fun v wr => ∃ m : Nat, k ≤ m ∧ m ≤ x ∧ Fresh wr W2.heap.size #[.int .i64 (m : Int)] 3 ∧ Turned [W2.heap.size] W5 wr) (fun _ wr => x - (intOf ((wr.cell? ⟨W2.heap.size, 0, none⟩).getD undef)).toNat)
    case atStart => exact ⟨k, Nat.le_refl _, hkx, HC5.out, Turned.refl _ _⟩
    case round =>
      obtain ⟨m, hm1, hm2, cm, hT⟩ := hrel
      obtain ⟨kR, k3, k4, kq⟩ := HKP.out _ hT
      have d5 := cm.cell 0
      have d5' := cm.thawed 0
      have d3 := k3.cell 0
      have dr := kR.hr.cell 0
      have dq0 := kq.cell 0
      have dq1 := kq.cell 1
      simp only [List.getElem?_toArray, List.getElem?_cons_zero, List.getElem?_cons_succ] at d5 d3 dr dq0 dq1
      rw [HN.out] at dr
      have q0 : (0 : Int) ≤ (m : Int) := Int.natCast_nonneg _
      have q1 : (m : Int) < (nn : Int) := by omega
      have q2 : decide (m < nn) = true := decide_eq_true (by omega)
      have q3 : decide (nn ≤ m) = false := decide_eq_false (by omega)
      have HM := Lib.hid cm
      have HTT := Lib.hid hT
      have HK2 := Lib.hid (⟨kR, k3, k4, kq⟩ : _ ∧ _ ∧ _ ∧ _)
      by_cases hlt : m < x
      · obtain ⟨t, htm⟩ : ∃ t, s.l[m]? = some t := ⟨s.l[m]'(by have := HN.out; omega), List.getElem?_eq_getElem _⟩
        have hf := HGAP.out m t hm1 hlt htm
        obtain ⟨e0, _, _⟩ := kR.one m t htm
        rw [hf] at e0
        clear cm hT kR k3 k4 kq hf htm
        gi_wp2
        refine region_mix_round l' [2, 3, 5, 6, 7, 9, 10, 13, 14, 16, 17] [0, 0, 2, 6, 14, 30, 63, 127, 255, 511, 1023, 2047, 255, 8191, 16383, 32767, 65535, 131071] [0, 1, 2, 3, 4, 5, 6, 7, 8, 9, 10, 11, 12, 13, 14, 15, 16, 17] (by kernel_rfl) (by kernel_rfl) (by kernel_rfl) ?_
        refine mix_step (by simp only [List.getElem?_toArray, List.getElem?_cons_zero] <;> rfl) (by kernel_rfl) (fun K hK => ?_)
        go_simp
        refine hK _ _ ?_
        clear hK K
        refine mix_step (by simp only [List.getElem?_toArray, List.getElem?_cons_succ, List.getElem?_cons_zero] <;> rfl) (by kernel_rfl) (fun K hK => ?_)
        go_simp
        refine hK _ _ ?_
        clear hK K
        refine mix_pure (v := ?_) (by simp only [List.getElem?_toArray, List.getElem?_cons_succ, List.getElem?_cons_zero] <;> rfl) (by kernel_rfl) ⟨Or.inl ⟨by kernel_rfl, ?_⟩, fun _ => (by rfl)⟩ ?_; rotate_left 1; focus (intro w; go_simp; try with_reducible rfl)
        simp only [Act.put, List.setIfInBounds_toArray, List.set_cons_zero, List.set_cons_succ]
        refine mix_pure (v := ?_) (by simp only [List.getElem?_toArray, List.getElem?_cons_succ, List.getElem?_cons_zero] <;> rfl) (by kernel_rfl) ⟨Or.inl ⟨by kernel_rfl, ?_⟩, fun _ => (by rfl)⟩ ?_; rotate_left 1; focus (intro w; go_simp; try with_reducible rfl)
        simp only [Act.put, List.setIfInBounds_toArray, List.set_cons_zero, List.set_cons_succ]
        refine mix_step (by simp only [List.getElem?_toArray, List.getElem?_cons_succ, List.getElem?_cons_zero] <;> rfl) (by kernel_rfl) (fun K hK => ?_)
        go_simp
        refine hK _ _ ?_
        clear hK K
        refine mix_pure (v := ?_) (by simp only [List.getElem?_toArray, List.getElem?_cons_succ, List.getElem?_cons_zero] <;> rfl) (by kernel_rfl) ⟨Or.inl ⟨by kernel_rfl, ?_⟩, fun _ => (by rfl)⟩ ?_; rotate_left 1; focus (intro w; go_simp; try with_reducible rfl)
        simp only [Act.put, List.setIfInBounds_toArray, List.set_cons_zero, List.set_cons_succ]
        refine mix_pure (v := ?_) (by simp only [List.getElem?_toArray, List.getElem?_cons_succ, List.getElem?_cons_zero] <;> rfl) (by kernel_rfl) ⟨Or.inl ⟨by kernel_rfl, ?_⟩, fun _ => (by rfl)⟩ ?_; rotate_left 1; focus (intro w; go_simp; try with_reducible rfl)
        simp only [Act.put, List.setIfInBounds_toArray, List.set_cons_zero, List.set_cons_succ]
        refine mix_pure (v := ?_) (by simp only [List.getElem?_toArray, List.getElem?_cons_succ, List.getElem?_cons_zero] <;> rfl) (by kernel_rfl) ⟨Or.inl ⟨by kernel_rfl, ?_⟩, fun _ => (by rfl)⟩ ?_; rotate_left 1; focus (intro w; go_simp; try with_reducible rfl)
        simp only [Act.put, List.setIfInBounds_toArray, List.set_cons_zero, List.set_cons_succ]
        refine mix_step (by simp only [List.getElem?_toArray, List.getElem?_cons_succ, List.getElem?_cons_zero] <;> rfl) (by kernel_rfl) (fun K hK => ?_)
        go_simp
        refine hK _ _ ?_
        clear hK K
        refine mix_pure (v := ?_) (by simp only [List.getElem?_toArray, List.getElem?_cons_succ, List.getElem?_cons_zero] <;> rfl) (by kernel_rfl) ⟨Or.inl ⟨by kernel_rfl, ?_⟩, fun _ => (by rfl)⟩ ?_; rotate_left 1; focus (intro w; go_simp; try with_reducible rfl)
        simp only [Act.put, List.setIfInBounds_toArray, List.set_cons_zero, List.set_cons_succ]
        refine mix_pure (v := ?_) (by simp only [List.getElem?_toArray, List.getElem?_cons_succ, List.getElem?_cons_zero] <;> rfl) (by kernel_rfl) ⟨Or.inl ⟨by kernel_rfl, ?_⟩, fun _ => (by rfl)⟩ ?_; rotate_left 1; focus (intro w; go_simp; try with_reducible rfl)
        simp only [Act.put, List.setIfInBounds_toArray, List.set_cons_zero, List.set_cons_succ]
        refine mix_step (by simp only [List.getElem?_toArray, List.getElem?_cons_succ, List.getElem?_cons_zero] <;> rfl) (by kernel_rfl) (fun K hK => ?_)
        go_simp
        refine hK _ _ ?_
        clear hK K
        refine mix_step (by simp only [List.getElem?_toArray, List.getElem?_cons_succ, List.getElem?_cons_zero] <;> rfl) (by kernel_rfl) (fun K hK => ?_)
        go_simp
        refine hK _ _ ?_
        clear hK K
        refine mix_pure (v := ?_) (by simp only [List.getElem?_toArray, List.getElem?_cons_succ, List.getElem?_cons_zero] <;> rfl) (by kernel_rfl) ⟨Or.inl ⟨by kernel_rfl, ?_⟩, fun _ => (by rfl)⟩ ?_; rotate_left 1; focus (intro w; go_simp; try with_reducible rfl)
        simp only [Act.put, List.setIfInBounds_toArray, List.set_cons_zero, List.set_cons_succ]
        refine mix_pure (v := ?_) (by simp only [List.getElem?_toArray, List.getElem?_cons_succ, List.getElem?_cons_zero] <;> rfl) (by kernel_rfl) ⟨Or.inl ⟨by kernel_rfl, ?_⟩, fun _ => (by rfl)⟩ ?_; rotate_left 1; focus (intro w; go_simp; try with_reducible rfl)
        simp only [Act.put, List.setIfInBounds_toArray, List.set_cons_zero, List.set_cons_succ]
        refine mix_step (by simp only [List.getElem?_toArray, List.getElem?_cons_succ, List.getElem?_cons_zero] <;> rfl) (by kernel_rfl) (fun K hK => ?_)
        go_simp
        refine hK _ _ ?_
        clear hK K
        refine mix_pure (v := ?_) (by simp only [List.getElem?_toArray, List.getElem?_cons_succ, List.getElem?_cons_zero] <;> rfl) (by kernel_rfl) ⟨Or.inl ⟨by kernel_rfl, ?_⟩, fun _ => (by rfl)⟩ ?_; rotate_left 1; focus (intro w; go_simp; try with_reducible rfl)
        simp only [Act.put, List.setIfInBounds_toArray, List.set_cons_zero, List.set_cons_succ]
        refine mix_pure (v := ?_) (by simp only [List.getElem?_toArray, List.getElem?_cons_succ, List.getElem?_cons_zero] <;> rfl) (by kernel_rfl) ⟨Or.inl ⟨by kernel_rfl, ?_⟩, fun _ => (by rfl)⟩ ?_; rotate_left 1; focus (intro w; go_simp; try with_reducible rfl)
        simp only [Act.put, List.setIfInBounds_toArray, List.set_cons_zero, List.set_cons_succ]
        refine mix_end ?_
        gi_wp2
        go_roundw
        case rel => exact ⟨m + 1, by omega, by omega, by have := HM.out.set 0 (.int .i64 ((m : Int) + 1)); exact Fresh.drew (by simpa using this), Turned.drew (HTT.out.setCell (p := W2.heap.size) (.inl (by simp)) 0 _)⟩
        case measure =>
          have h1 := ((HM.out.set 0 (.int .i64 ((m : Int) + 1))).drew).cell 0
          simp only [List.setIfInBounds_toArray, List.set_cons_zero, List.getElem?_toArray, List.getElem?_cons_zero] at h1
          rw [h1, d5]
          simp [intOf]
          omega
      · obtain rfl : m = x := by omega
        obtain ⟨e0, e1, e2⟩ := kR.one m _ HT.out
        have HFIN : Hid (∀ W', Turned [W2.heap.size] W5 W' → Fresh W' W2.heap.size #[.int .i64 ((m : Int) + 1)] 3 → KeepsFrom WL.heap.size W5 W' ∧ Turned [W2.heap.size, WL.heap.size + 1] W5 W' ∧ Mid W r gr W.heap.size (W.heap.size + 1) W2.heap.size s.l (pre ++ [m]) W') := by
          intro W' hT' hF'
          obtain ⟨a1, a2, a3, a4⟩ := HKP.out _ hT'
          exact ⟨KeepsFrom.of_turned hT' (by intro k hk; simp at hk; omega), hT'.wide (by intro k hk; simp at hk; simp [hk]), m + 1, by have := HN.out; omega, HNX.out, hF', a1, a2, a3, Turned.below HB.out hT' (by intro k hk; simp at hk; omega) HB.out.size⟩
        clear cm hT kR k3 k4 kq
        gi_wp2
        refine region_mix_round l' [2, 3, 5, 6, 7, 9, 10, 13, 14, 16, 17] [0, 0, 2, 6, 14, 30, 63, 127, 255, 511, 1023, 2047, 255, 8191, 16383, 32767, 65535, 131071] [0, 1, 2, 3, 4, 5, 6, 7, 8, 9, 10, 11, 12, 13, 14, 15, 16, 17] (by kernel_rfl) (by kernel_rfl) (by kernel_rfl) ?_
        refine mix_step (by simp only [List.getElem?_toArray, List.getElem?_cons_zero] <;> rfl) (by kernel_rfl) (fun K hK => ?_)
        go_simp
        refine hK _ _ ?_
        clear hK K
        refine mix_step (by simp only [List.getElem?_toArray, List.getElem?_cons_succ, List.getElem?_cons_zero] <;> rfl) (by kernel_rfl) (fun K hK => ?_)
        go_simp
        refine hK _ _ ?_
        clear hK K
        refine mix_pure (v := ?_) (by simp only [List.getElem?_toArray, List.getElem?_cons_succ, List.getElem?_cons_zero] <;> rfl) (by kernel_rfl) ⟨Or.inl ⟨by kernel_rfl, ?_⟩, fun _ => (by rfl)⟩ ?_; rotate_left 1; focus (intro w; go_simp; try with_reducible rfl)
        simp only [Act.put, List.setIfInBounds_toArray, List.set_cons_zero, List.set_cons_succ]
        refine mix_pure (v := ?_) (by simp only [List.getElem?_toArray, List.getElem?_cons_succ, List.getElem?_cons_zero] <;> rfl) (by kernel_rfl) ⟨Or.inl ⟨by kernel_rfl, ?_⟩, fun _ => (by rfl)⟩ ?_; rotate_left 1; focus (intro w; go_simp; try with_reducible rfl)
        simp only [Act.put, List.setIfInBounds_toArray, List.set_cons_zero, List.set_cons_succ]
        refine mix_step (by simp only [List.getElem?_toArray, List.getElem?_cons_succ, List.getElem?_cons_zero] <;> rfl) (by kernel_rfl) (fun K hK => ?_)
        go_simp
        refine hK _ _ ?_
        clear hK K
        refine mix_pure (v := ?_) (by simp only [List.getElem?_toArray, List.getElem?_cons_succ, List.getElem?_cons_zero] <;> rfl) (by kernel_rfl) ⟨Or.inl ⟨by kernel_rfl, ?_⟩, fun _ => (by rfl)⟩ ?_; rotate_left 1; focus (intro w; go_simp; try with_reducible rfl)
        simp only [Act.put, List.setIfInBounds_toArray, List.set_cons_zero, List.set_cons_succ]
        refine mix_pure (v := ?_) (by simp only [List.getElem?_toArray, List.getElem?_cons_succ, List.getElem?_cons_zero] <;> rfl) (by kernel_rfl) ⟨Or.inl ⟨by kernel_rfl, ?_⟩, fun _ => (by rfl)⟩ ?_; rotate_left 1; focus (intro w; go_simp; try with_reducible rfl)
        simp only [Act.put, List.setIfInBounds_toArray, List.set_cons_zero, List.set_cons_succ]
        refine mix_pure (v := ?_) (by simp only [List.getElem?_toArray, List.getElem?_cons_succ, List.getElem?_cons_zero] <;> rfl) (by kernel_rfl) ⟨Or.inl ⟨by kernel_rfl, ?_⟩, fun _ => (by rfl)⟩ ?_; rotate_left 1; focus (intro w; go_simp; try with_reducible rfl)
        simp only [Act.put, List.setIfInBounds_toArray, List.set_cons_zero, List.set_cons_succ]
        refine mix_step (by simp only [List.getElem?_toArray, List.getElem?_cons_succ, List.getElem?_cons_zero] <;> rfl) (by kernel_rfl) (fun K hK => ?_)
        go_simp
        refine hK _ _ ?_
        clear hK K
        refine mix_pure (v := ?_) (by simp only [List.getElem?_toArray, List.getElem?_cons_succ, List.getElem?_cons_zero] <;> rfl) (by kernel_rfl) ⟨Or.inl ⟨by kernel_rfl, ?_⟩, fun _ => (by rfl)⟩ ?_; rotate_left 1; focus (intro w; go_simp; try with_reducible rfl)
        simp only [Act.put, List.setIfInBounds_toArray, List.set_cons_zero, List.set_cons_succ]
        refine mix_pure (v := ?_) (by simp only [List.getElem?_toArray, List.getElem?_cons_succ, List.getElem?_cons_zero] <;> rfl) (by kernel_rfl) ⟨Or.inl ⟨by kernel_rfl, ?_⟩, fun _ => (by rfl)⟩ ?_; rotate_left 1; focus (intro w; go_simp; try with_reducible rfl)
        simp only [Act.put, List.setIfInBounds_toArray, List.set_cons_zero, List.set_cons_succ]
        refine mix_step (by simp only [List.getElem?_toArray, List.getElem?_cons_succ, List.getElem?_cons_zero] <;> rfl) (by kernel_rfl) (fun K hK => ?_)
        go_simp
        refine hK _ _ ?_
        clear hK K
        refine mix_step (by simp only [List.getElem?_toArray, List.getElem?_cons_succ, List.getElem?_cons_zero] <;> rfl) (by kernel_rfl) (fun K hK => ?_)
        go_simp
        refine hK _ _ ?_
        clear hK K
        refine mix_pure (v := ?_) (by simp only [List.getElem?_toArray, List.getElem?_cons_succ, List.getElem?_cons_zero] <;> rfl) (by kernel_rfl) ⟨Or.inl ⟨by kernel_rfl, ?_⟩, fun _ => (by rfl)⟩ ?_; rotate_left 1; focus (intro w; go_simp; try with_reducible rfl)
        simp only [Act.put, List.setIfInBounds_toArray, List.set_cons_zero, List.set_cons_succ]
        refine mix_pure (v := ?_) (by simp only [List.getElem?_toArray, List.getElem?_cons_succ, List.getElem?_cons_zero] <;> rfl) (by kernel_rfl) ⟨Or.inl ⟨by kernel_rfl, ?_⟩, fun _ => (by rfl)⟩ ?_; rotate_left 1; focus (intro w; go_simp; try with_reducible rfl)
        simp only [Act.put, List.setIfInBounds_toArray, List.set_cons_zero, List.set_cons_succ]
        refine mix_step (by simp only [List.getElem?_toArray, List.getElem?_cons_succ, List.getElem?_cons_zero] <;> rfl) (by kernel_rfl) (fun K hK => ?_)
        go_simp
        refine hK _ _ ?_
        clear hK K
        refine mix_pure (v := ?_) (by simp only [List.getElem?_toArray, List.getElem?_cons_succ, List.getElem?_cons_zero] <;> rfl) (by kernel_rfl) ⟨Or.inl ⟨by kernel_rfl, ?_⟩, fun _ => (by rfl)⟩ ?_; rotate_left 1; focus (intro w; go_simp; try with_reducible rfl)
        simp only [Act.put, List.setIfInBounds_toArray, List.set_cons_zero, List.set_cons_succ]
        refine mix_pure (v := ?_) (by simp only [List.getElem?_toArray, List.getElem?_cons_succ, List.getElem?_cons_zero] <;> rfl) (by kernel_rfl) ⟨Or.inl ⟨by kernel_rfl, ?_⟩, fun _ => (by rfl)⟩ ?_; rotate_left 1; focus (intro w; go_simp; try with_reducible rfl)
        simp only [Act.put, List.setIfInBounds_toArray, List.set_cons_zero, List.set_cons_succ]
        refine mix_end ?_
        gi_wp2
        refine region_mix_round l' [2, 3, 5, 6, 7, 11, 12, 15, 16, 18, 19, 20, 21, 22, 24, 25, 28, 29, 31, 32] [0, 0, 2, 6, 14, 30, 63, 127, 255, 255, 255, 1279, 3327, 7423, 255, 31999, 64767, 130303, 261887, 524287, 1048575, 2097151, 4194303, 4194303, 12582911, 29360127, 62914559, 4194303, 264241151, 532676607, 1069547519, 2147483647, 4294967295] [0, 1, 2, 3, 4, 5, 6, 7, 8, 9, 10, 11, 12, 13, 14, 15, 16, 17, 18, 19, 20, 21, 22, 23, 24, 25, 26, 27, 28, 29, 30, 31, 32] (by kernel_rfl) (by kernel_rfl) (by kernel_rfl) ?_
        refine mix_step (by simp only [List.getElem?_toArray, List.getElem?_cons_zero] <;> rfl) (by kernel_rfl) (fun K hK => ?_)
        go_simp
        refine hK _ _ ?_
        clear hK K
        refine mix_step (by simp only [List.getElem?_toArray, List.getElem?_cons_succ, List.getElem?_cons_zero] <;> rfl) (by kernel_rfl) (fun K hK => ?_)
        go_simp
        refine hK _ _ ?_
        clear hK K
        refine mix_pure (v := ?_) (by simp only [List.getElem?_toArray, List.getElem?_cons_succ, List.getElem?_cons_zero] <;> rfl) (by kernel_rfl) ⟨Or.inl ⟨by kernel_rfl, ?_⟩, fun _ => (by rfl)⟩ ?_; rotate_left 1; focus (intro w; go_simp; try with_reducible rfl)
        simp only [Act.put, List.setIfInBounds_toArray, List.set_cons_zero, List.set_cons_succ]
        refine mix_pure (v := ?_) (by simp only [List.getElem?_toArray, List.getElem?_cons_succ, List.getElem?_cons_zero] <;> rfl) (by kernel_rfl) ⟨Or.inl ⟨by kernel_rfl, ?_⟩, fun _ => (by rfl)⟩ ?_; rotate_left 1; focus (intro w; go_simp; try with_reducible rfl)
        simp only [Act.put, List.setIfInBounds_toArray, List.set_cons_zero, List.set_cons_succ]
        refine mix_step (by simp only [List.getElem?_toArray, List.getElem?_cons_succ, List.getElem?_cons_zero] <;> rfl) (by kernel_rfl) (fun K hK => ?_)
        go_simp
        refine hK _ _ ?_
        clear hK K
        refine mix_pure (v := ?_) (by simp only [List.getElem?_toArray, List.getElem?_cons_succ, List.getElem?_cons_zero] <;> rfl) (by kernel_rfl) ⟨Or.inl ⟨by kernel_rfl, ?_⟩, fun _ => (by rfl)⟩ ?_; rotate_left 1; focus (intro w; go_simp; try with_reducible rfl)
        simp only [Act.put, List.setIfInBounds_toArray, List.set_cons_zero, List.set_cons_succ]
        refine mix_pure (v := ?_) (by simp only [List.getElem?_toArray, List.getElem?_cons_succ, List.getElem?_cons_zero] <;> rfl) (by kernel_rfl) ⟨Or.inl ⟨by kernel_rfl, ?_⟩, fun _ => (by rfl)⟩ ?_; rotate_left 1; focus (intro w; go_simp; try with_reducible rfl)
        simp only [Act.put, List.setIfInBounds_toArray, List.set_cons_zero, List.set_cons_succ]
        refine mix_pure (v := ?_) (by simp only [List.getElem?_toArray, List.getElem?_cons_succ, List.getElem?_cons_zero] <;> rfl) (by kernel_rfl) ⟨Or.inl ⟨by kernel_rfl, ?_⟩, fun _ => (by rfl)⟩ ?_; rotate_left 1; focus (intro w; go_simp; try with_reducible rfl)
        simp only [Act.put, List.setIfInBounds_toArray, List.set_cons_zero, List.set_cons_succ]
        refine mix_step (by simp only [List.getElem?_toArray, List.getElem?_cons_succ, List.getElem?_cons_zero] <;> rfl) (by kernel_rfl) (fun K hK => ?_)
        go_simp
        refine hK _ _ ?_
        clear hK K
        refine mix_step (by simp only [List.getElem?_toArray, List.getElem?_cons_succ, List.getElem?_cons_zero] <;> rfl) (by kernel_rfl) (fun K hK => ?_)
        go_simp
        refine hK _ _ ?_
        clear hK K
        refine mix_step (by simp only [List.getElem?_toArray, List.getElem?_cons_succ, List.getElem?_cons_zero] <;> rfl) (by kernel_rfl) (fun K hK => ?_)
        go_simp
        refine hK _ _ ?_
        clear hK K
        refine mix_pure (v := ?_) (by simp only [List.getElem?_toArray, List.getElem?_cons_succ, List.getElem?_cons_zero] <;> rfl) (by kernel_rfl) ⟨Or.inl ⟨by kernel_rfl, ?_⟩, fun _ => (by rfl)⟩ ?_; rotate_left 1; focus (intro w; go_simp; try with_reducible rfl)
        simp only [Act.put, List.setIfInBounds_toArray, List.set_cons_zero, List.set_cons_succ]
        refine mix_pure (v := ?_) (by simp only [List.getElem?_toArray, List.getElem?_cons_succ, List.getElem?_cons_zero] <;> rfl) (by kernel_rfl) ⟨Or.inl ⟨by kernel_rfl, ?_⟩, fun _ => (by rfl)⟩ ?_; rotate_left 1; focus (intro w; go_simp; try with_reducible rfl)
        simp only [Act.put, List.setIfInBounds_toArray, List.set_cons_zero, List.set_cons_succ]
        refine mix_step (by simp only [List.getElem?_toArray, List.getElem?_cons_succ, List.getElem?_cons_zero] <;> rfl) (by kernel_rfl) (fun K hK => ?_)
        go_simp
        refine hK _ _ ?_
        clear hK K
        refine mix_step (by simp only [List.getElem?_toArray, List.getElem?_cons_succ, List.getElem?_cons_zero] <;> rfl) (by kernel_rfl) (fun K hK => ?_)
        go_simp
        refine hK _ _ ?_
        clear hK K
        refine mix_pure (v := ?_) (by simp only [List.getElem?_toArray, List.getElem?_cons_succ, List.getElem?_cons_zero] <;> rfl) (by kernel_rfl) ⟨Or.inl ⟨by kernel_rfl, ?_⟩, fun _ => (by rfl)⟩ ?_; rotate_left 1; focus (intro w; go_simp; try with_reducible rfl)
        simp only [Act.put, List.setIfInBounds_toArray, List.set_cons_zero, List.set_cons_succ]
        refine mix_pure (v := ?_) (by simp only [List.getElem?_toArray, List.getElem?_cons_succ, List.getElem?_cons_zero] <;> rfl) (by kernel_rfl) ⟨Or.inl ⟨by kernel_rfl, ?_⟩, fun _ => (by rfl)⟩ ?_; rotate_left 1; focus (intro w; go_simp; try with_reducible rfl)
        simp only [Act.put, List.setIfInBounds_toArray, List.set_cons_zero, List.set_cons_succ]
        refine mix_step (by simp only [List.getElem?_toArray, List.getElem?_cons_succ, List.getElem?_cons_zero] <;> rfl) (by kernel_rfl) (fun K hK => ?_)
        go_simp
        refine hK _ _ ?_
        clear hK K
        refine mix_pure (v := ?_) (by simp only [List.getElem?_toArray, List.getElem?_cons_succ, List.getElem?_cons_zero] <;> rfl) (by kernel_rfl) ⟨Or.inl ⟨by kernel_rfl, ?_⟩, fun _ => (by rfl)⟩ ?_; rotate_left 1; focus (intro w; go_simp; try with_reducible rfl)
        simp only [Act.put, List.setIfInBounds_toArray, List.set_cons_zero, List.set_cons_succ]
        refine mix_pure (v := ?_) (by simp only [List.getElem?_toArray, List.getElem?_cons_succ, List.getElem?_cons_zero] <;> rfl) (by kernel_rfl) ⟨Or.inl ⟨by kernel_rfl, ?_⟩, fun _ => (by rfl)⟩ ?_; rotate_left 1; focus (intro w; go_simp; try with_reducible rfl)
        simp only [Act.put, List.setIfInBounds_toArray, List.set_cons_zero, List.set_cons_succ]
        refine mix_pure (v := ?_) (by simp only [List.getElem?_toArray, List.getElem?_cons_succ, List.getElem?_cons_zero] <;> rfl) (by kernel_rfl) ⟨Or.inl ⟨by kernel_rfl, ?_⟩, fun _ => (by rfl)⟩ ?_; rotate_left 1; focus (intro w; go_simp; try with_reducible rfl)
        simp only [Act.put, List.setIfInBounds_toArray, List.set_cons_zero, List.set_cons_succ]
        refine mix_pure (v := ?_) (by simp only [List.getElem?_toArray, List.getElem?_cons_succ, List.getElem?_cons_zero] <;> rfl) (by kernel_rfl) ⟨Or.inl ⟨by kernel_rfl, ?_⟩, fun _ => (by rfl)⟩ ?_; rotate_left 1; focus (intro w; go_simp; try with_reducible rfl)
        simp only [Act.put, List.setIfInBounds_toArray, List.set_cons_zero, List.set_cons_succ]
        refine mix_pure (v := ?_) (by simp only [List.getElem?_toArray, List.getElem?_cons_succ, List.getElem?_cons_zero] <;> rfl) (by kernel_rfl) ⟨Or.inl ⟨by kernel_rfl, ?_⟩, fun _ => (by rfl)⟩ ?_; rotate_left 1; focus (intro w; go_simp; try with_reducible rfl)
        simp only [Act.put, List.setIfInBounds_toArray, List.set_cons_zero, List.set_cons_succ]
        refine mix_step (by simp only [List.getElem?_toArray, List.getElem?_cons_succ, List.getElem?_cons_zero] <;> rfl) (by kernel_rfl) (fun K hK => ?_)
        go_simp
        refine hK _ _ ?_
        clear hK K
        refine mix_pure (v := ?_) (by simp only [List.getElem?_toArray, List.getElem?_cons_succ, List.getElem?_cons_zero] <;> rfl) (by kernel_rfl) ⟨Or.inl ⟨by kernel_rfl, ?_⟩, fun _ => (by rfl)⟩ ?_; rotate_left 1; focus (intro w; go_simp; try with_reducible rfl)
        simp only [Act.put, List.setIfInBounds_toArray, List.set_cons_zero, List.set_cons_succ]
        refine mix_pure (v := ?_) (by simp only [List.getElem?_toArray, List.getElem?_cons_succ, List.getElem?_cons_zero] <;> rfl) (by kernel_rfl) ⟨Or.inl ⟨by kernel_rfl, ?_⟩, fun _ => (by rfl)⟩ ?_; rotate_left 1; focus (intro w; go_simp; try with_reducible rfl)
        simp only [Act.put, List.setIfInBounds_toArray, List.set_cons_zero, List.set_cons_succ]
        refine mix_step (by simp only [List.getElem?_toArray, List.getElem?_cons_succ, List.getElem?_cons_zero] <;> rfl) (by kernel_rfl) (fun K hK => ?_)
        go_simp
        refine hK _ _ ?_
        clear hK K
        refine mix_step (by simp only [List.getElem?_toArray, List.getElem?_cons_succ, List.getElem?_cons_zero] <;> rfl) (by kernel_rfl) (fun K hK => ?_)
        go_simp
        refine hK _ _ ?_
        clear hK K
        refine mix_pure (v := ?_) (by simp only [List.getElem?_toArray, List.getElem?_cons_succ, List.getElem?_cons_zero] <;> rfl) (by kernel_rfl) ⟨Or.inl ⟨by kernel_rfl, ?_⟩, fun _ => (by rfl)⟩ ?_; rotate_left 1; focus (intro w; go_simp; try with_reducible rfl)
        simp only [Act.put, List.setIfInBounds_toArray, List.set_cons_zero, List.set_cons_succ]
        refine mix_pure (v := ?_) (by simp only [List.getElem?_toArray, List.getElem?_cons_succ, List.getElem?_cons_zero] <;> rfl) (by kernel_rfl) ⟨Or.inl ⟨by kernel_rfl, ?_⟩, fun _ => (by rfl)⟩ ?_; rotate_left 1; focus (intro w; go_simp; try with_reducible rfl)
        simp only [Act.put, List.setIfInBounds_toArray, List.set_cons_zero, List.set_cons_succ]
        refine mix_step (by simp only [List.getElem?_toArray, List.getElem?_cons_succ, List.getElem?_cons_zero] <;> rfl) (by kernel_rfl) (fun K hK => ?_)
        go_simp
        refine hK _ _ ?_
        clear hK K
        refine mix_pure (v := ?_) (by simp only [List.getElem?_toArray, List.getElem?_cons_succ, List.getElem?_cons_zero] <;> rfl) (by kernel_rfl) ⟨Or.inl ⟨by kernel_rfl, ?_⟩, fun _ => (by rfl)⟩ ?_; rotate_left 1; focus (intro w; go_simp; try with_reducible rfl)
        simp only [Act.put, List.setIfInBounds_toArray, List.set_cons_zero, List.set_cons_succ]
        refine mix_pure (v := ?_) (by simp only [List.getElem?_toArray, List.getElem?_cons_succ, List.getElem?_cons_zero] <;> rfl) (by kernel_rfl) ⟨Or.inl ⟨by kernel_rfl, ?_⟩, fun _ => (by rfl)⟩ ?_; rotate_left 1; focus (intro w; go_simp; try with_reducible rfl)
        simp only [Act.put, List.setIfInBounds_toArray, List.set_cons_zero, List.set_cons_succ]
        refine mix_end ?_
        gi_wp2
        exact HFIN.out _ (Turned.drew (Turned.drew (HTT.out.setCell (p := W2.heap.size) (.inl (by simp)) 0 (.int .i64 ((m : Int) + 1))))) (by have := HM.out.set 0 (.int .i64 ((m : Int) + 1)); exact Fresh.drew (Fresh.drew (by simpa using this)))
  case done =>
    rintro D xs W5 hD hxs ⟨k, hk, hpre, c5, cR, c3, c4, cB⟩ hD0
    have hgap : ∀ (j : Nat) (tj : Ce), k ≤ j → j < s.l.length → s.l[j]? = some tj → tj.t = false := fun j tj h1 h2 h3 => ut_gap (hpre ▸ hxs) h1 h2 tj h3
    have hr5 : r ≠ W2.heap.size := cR.hr.apart c5 (by decide)
    have hg5 : gr ≠ W2.heap.size := cR.hg.apart c5 (by decide)
    have h35 : W.heap.size ≠ W2.heap.size := by omega
    have h45 : W.heap.size + 1 ≠ W2.heap.size := by omega
    obtain ⟨nn, hnn⟩ : ∃ nn : Nat, s.l.length = nn := ⟨_, rfl⟩
    have kept : ∀ wr, Turned [W2.heap.size] W5 wr → RAt wr r gr s.l ∧ Fresh wr W.heap.size #[.pointer (some ⟨r, 0, none⟩)] 28 ∧ Fresh wr (W.heap.size + 1) #[.bool false] 4 := fun wr hT =>
      ⟨cR.turned hT (by simpa using hr5) (by simpa using hg5), hT.other c3 (by simpa using h35), hT.other c4 (by simpa using h45)⟩
    have HKP := Lib.hid kept
    have HGAP := Lib.hid hgap
    have HN := Lib.hid hnn
    have HC5 := Lib.hid c5
    have HB := Lib.hid cB
    have HD := Lib.hid hD0
    have HX5 : Hid (W5.heap.size = W5.heap.size) := rfl
    rw [hnn] at hk
    have hnl : nn ≤ 5000 := by omega
    clear kept hgap hnn c5 cB hr5 hg5 h35 h45 cR c3 c4 hpre f5 fs AL RL l3 l4 BW hA hR hxs hD0
    gi_wp2
    gi_loopw [79] (fun v wr => ∃ m : Nat, k ≤ m ∧ m ≤ nn ∧ Fresh wr W2.heap.size #[.int .i64 (m : Int)] 3 ∧ Turned [W2.heap.size] W5 wr) (fun _ wr => nn - (intOf ((wr.cell? ⟨W2.heap.size, 0, none⟩).getD undef)).toNat)
    case atStart => exact ⟨k, Nat.le_refl _, hk, HC5.out, Turned.refl _ _⟩
    case round =>
      obtain ⟨m, hm1, hm2, cm, hT⟩ := hrel
      obtain ⟨kR, k3, k4⟩ := HKP.out _ hT
      have d5 := cm.cell 0
      have d5' := cm.thawed 0
      have d3 := k3.cell 0
      have d4' := k4.thawed 0
      have d4 := k4.cell 0
      have dr := kR.hr.cell 0
      simp only [List.getElem?_toArray, List.getElem?_cons_zero, List.getElem?_cons_succ] at d5 d3 dr d4
      rw [HN.out] at dr
      have q0 : (0 : Int) ≤ (m : Int) := Int.natCast_nonneg _
      have HM := Lib.hid cm
      have HTT := Lib.hid hT
      have HK2 := Lib.hid (⟨kR, k3, k4⟩ : _ ∧ _ ∧ _)
      by_cases hlt : m < nn
      · have q1 : (m : Int) < (nn : Int) := by omega
        have q2 : decide (m < nn) = true := decide_eq_true (by omega)
        obtain ⟨t, htm⟩ : ∃ t, s.l[m]? = some t := ⟨s.l[m]'(by have := HN.out; omega), List.getElem?_eq_getElem _⟩
        have hf := HGAP.out m t hm1 (by have := HN.out; omega) htm
        obtain ⟨e0, _, _⟩ := kR.one m t htm
        rw [hf] at e0
        clear cm hT kR k3 k4 hf htm
        gi_wp2
        refine region_mix [2, 3, 5, 6, 7, 9, 10, 13, 14, 16, 17] [0, 0, 2, 6, 14, 30, 63, 127, 255, 511, 1023, 2047, 255, 8191, 16383, 32767, 65535, 131071] [0, 1, 2, 3, 4, 5, 6, 7, 8, 9, 10, 11, 12, 13, 14, 15, 16, 17] (by kernel_rfl) rfl (by kernel_rfl) ?_
        refine mix_step (by simp only [List.getElem?_toArray, List.getElem?_cons_zero] <;> rfl) (by kernel_rfl) (fun K hK => ?_)
        go_simp
        refine hK _ _ ?_
        clear hK K
        refine mix_step (by simp only [List.getElem?_toArray, List.getElem?_cons_succ, List.getElem?_cons_zero] <;> rfl) (by kernel_rfl) (fun K hK => ?_)
        go_simp
        refine hK _ _ ?_
        clear hK K
        refine mix_pure (v := ?_) (by simp only [List.getElem?_toArray, List.getElem?_cons_succ, List.getElem?_cons_zero] <;> rfl) (by kernel_rfl) ⟨Or.inl ⟨by kernel_rfl, ?_⟩, fun _ => (by rfl)⟩ ?_; rotate_left 1; focus (intro w; go_simp; try with_reducible rfl)
        simp only [Act.put, List.setIfInBounds_toArray, List.set_cons_zero, List.set_cons_succ]
        refine mix_pure (v := ?_) (by simp only [List.getElem?_toArray, List.getElem?_cons_succ, List.getElem?_cons_zero] <;> rfl) (by kernel_rfl) ⟨Or.inl ⟨by kernel_rfl, ?_⟩, fun _ => (by rfl)⟩ ?_; rotate_left 1; focus (intro w; go_simp; try with_reducible rfl)
        simp only [Act.put, List.setIfInBounds_toArray, List.set_cons_zero, List.set_cons_succ]
        refine mix_step (by simp only [List.getElem?_toArray, List.getElem?_cons_succ, List.getElem?_cons_zero] <;> rfl) (by kernel_rfl) (fun K hK => ?_)
        go_simp
        refine hK _ _ ?_
        clear hK K
        refine mix_pure (v := ?_) (by simp only [List.getElem?_toArray, List.getElem?_cons_succ, List.getElem?_cons_zero] <;> rfl) (by kernel_rfl) ⟨Or.inl ⟨by kernel_rfl, ?_⟩, fun _ => (by rfl)⟩ ?_; rotate_left 1; focus (intro w; go_simp; try with_reducible rfl)
        simp only [Act.put, List.setIfInBounds_toArray, List.set_cons_zero, List.set_cons_succ]
        refine mix_pure (v := ?_) (by simp only [List.getElem?_toArray, List.getElem?_cons_succ, List.getElem?_cons_zero] <;> rfl) (by kernel_rfl) ⟨Or.inl ⟨by kernel_rfl, ?_⟩, fun _ => (by rfl)⟩ ?_; rotate_left 1; focus (intro w; go_simp; try with_reducible rfl)
        simp only [Act.put, List.setIfInBounds_toArray, List.set_cons_zero, List.set_cons_succ]
        refine mix_pure (v := ?_) (by simp only [List.getElem?_toArray, List.getElem?_cons_succ, List.getElem?_cons_zero] <;> rfl) (by kernel_rfl) ⟨Or.inl ⟨by kernel_rfl, ?_⟩, fun _ => (by rfl)⟩ ?_; rotate_left 1; focus (intro w; go_simp; try with_reducible rfl)
        simp only [Act.put, List.setIfInBounds_toArray, List.set_cons_zero, List.set_cons_succ]
        refine mix_step (by simp only [List.getElem?_toArray, List.getElem?_cons_succ, List.getElem?_cons_zero] <;> rfl) (by kernel_rfl) (fun K hK => ?_)
        go_simp
        refine hK _ _ ?_
        clear hK K
        refine mix_pure (v := ?_) (by simp only [List.getElem?_toArray, List.getElem?_cons_succ, List.getElem?_cons_zero] <;> rfl) (by kernel_rfl) ⟨Or.inl ⟨by kernel_rfl, ?_⟩, fun _ => (by rfl)⟩ ?_; rotate_left 1; focus (intro w; go_simp; try with_reducible rfl)
        simp only [Act.put, List.setIfInBounds_toArray, List.set_cons_zero, List.set_cons_succ]
        refine mix_pure (v := ?_) (by simp only [List.getElem?_toArray, List.getElem?_cons_succ, List.getElem?_cons_zero] <;> rfl) (by kernel_rfl) ⟨Or.inl ⟨by kernel_rfl, ?_⟩, fun _ => (by rfl)⟩ ?_; rotate_left 1; focus (intro w; go_simp; try with_reducible rfl)
        simp only [Act.put, List.setIfInBounds_toArray, List.set_cons_zero, List.set_cons_succ]
        refine mix_step (by simp only [List.getElem?_toArray, List.getElem?_cons_succ, List.getElem?_cons_zero] <;> rfl) (by kernel_rfl) (fun K hK => ?_)
        go_simp
        refine hK _ _ ?_
        clear hK K
        refine mix_step (by simp only [List.getElem?_toArray, List.getElem?_cons_succ, List.getElem?_cons_zero] <;> rfl) (by kernel_rfl) (fun K hK => ?_)
        go_simp
        refine hK _ _ ?_
        clear hK K
        refine mix_pure (v := ?_) (by simp only [List.getElem?_toArray, List.getElem?_cons_succ, List.getElem?_cons_zero] <;> rfl) (by kernel_rfl) ⟨Or.inl ⟨by kernel_rfl, ?_⟩, fun _ => (by rfl)⟩ ?_; rotate_left 1; focus (intro w; go_simp; try with_reducible rfl)
        simp only [Act.put, List.setIfInBounds_toArray, List.set_cons_zero, List.set_cons_succ]
        refine mix_pure (v := ?_) (by simp only [List.getElem?_toArray, List.getElem?_cons_succ, List.getElem?_cons_zero] <;> rfl) (by kernel_rfl) ⟨Or.inl ⟨by kernel_rfl, ?_⟩, fun _ => (by rfl)⟩ ?_; rotate_left 1; focus (intro w; go_simp; try with_reducible rfl)
        simp only [Act.put, List.setIfInBounds_toArray, List.set_cons_zero, List.set_cons_succ]
        refine mix_step (by simp only [List.getElem?_toArray, List.getElem?_cons_succ, List.getElem?_cons_zero] <;> rfl) (by kernel_rfl) (fun K hK => ?_)
        go_simp
        refine hK _ _ ?_
        clear hK K
        refine mix_pure (v := ?_) (by simp only [List.getElem?_toArray, List.getElem?_cons_succ, List.getElem?_cons_zero] <;> rfl) (by kernel_rfl) ⟨Or.inl ⟨by kernel_rfl, ?_⟩, fun _ => (by rfl)⟩ ?_; rotate_left 1; focus (intro w; go_simp; try with_reducible rfl)
        simp only [Act.put, List.setIfInBounds_toArray, List.set_cons_zero, List.set_cons_succ]
        refine mix_pure (v := ?_) (by simp only [List.getElem?_toArray, List.getElem?_cons_succ, List.getElem?_cons_zero] <;> rfl) (by kernel_rfl) ⟨Or.inl ⟨by kernel_rfl, ?_⟩, fun _ => (by rfl)⟩ ?_; rotate_left 1; focus (intro w; go_simp; try with_reducible rfl)
        simp only [Act.put, List.setIfInBounds_toArray, List.set_cons_zero, List.set_cons_succ]
        refine mix_end ?_
        gi_wp2
        go_roundw
        case rel => exact ⟨m + 1, by omega, by omega, by have := HM.out.set 0 (.int .i64 ((m : Int) + 1)); exact Fresh.drew (by simpa using this), Turned.drew (HTT.out.setCell (p := W2.heap.size) (.inl (by simp)) 0 _)⟩
        case measure =>
          have h1 := ((HM.out.set 0 (.int .i64 ((m : Int) + 1))).drew).cell 0
          simp only [List.setIfInBounds_toArray, List.set_cons_zero, List.getElem?_toArray, List.getElem?_cons_zero] at h1
          rw [h1, d5]
          simp [intOf]
          omega
      · obtain rfl : m = nn := by omega
        have q2 : decide (m < m) = false := decide_eq_false (by omega)
        clear cm hT kR k3 k4
        gi_wp2
        refine region_mix [2, 3, 5, 6, 7, 8, 9, 10, 11, 12, 13, 14, 15, 16, 17] [0, 0, 2, 6, 14, 30, 63, 127, 255, 511, 1023, 2047, 255, 8191, 16383, 32767, 65535, 131071] [0, 1, 2, 3, 4, 5, 6, 7, 8, 9, 10, 11, 12, 13, 14, 15, 16, 17] (by kernel_rfl) rfl (by kernel_rfl) ?_
        refine mix_step (by simp only [List.getElem?_toArray, List.getElem?_cons_zero] <;> rfl) (by kernel_rfl) (fun K hK => ?_)
        go_simp
        refine hK _ _ ?_
        clear hK K
        refine mix_step (by simp only [List.getElem?_toArray, List.getElem?_cons_succ, List.getElem?_cons_zero] <;> rfl) (by kernel_rfl) (fun K hK => ?_)
        go_simp
        refine hK _ _ ?_
        clear hK K
        refine mix_pure (v := ?_) (by simp only [List.getElem?_toArray, List.getElem?_cons_succ, List.getElem?_cons_zero] <;> rfl) (by kernel_rfl) ⟨Or.inl ⟨by kernel_rfl, ?_⟩, fun _ => (by rfl)⟩ ?_; rotate_left 1; focus (intro w; go_simp; try with_reducible rfl)
        simp only [Act.put, List.setIfInBounds_toArray, List.set_cons_zero, List.set_cons_succ]
        refine mix_pure (v := ?_) (by simp only [List.getElem?_toArray, List.getElem?_cons_succ, List.getElem?_cons_zero] <;> rfl) (by kernel_rfl) ⟨Or.inl ⟨by kernel_rfl, ?_⟩, fun _ => (by rfl)⟩ ?_; rotate_left 1; focus (intro w; go_simp; try with_reducible rfl)
        simp only [Act.put, List.setIfInBounds_toArray, List.set_cons_zero, List.set_cons_succ]
        refine mix_step (by simp only [List.getElem?_toArray, List.getElem?_cons_succ, List.getElem?_cons_zero] <;> rfl) (by kernel_rfl) (fun K hK => ?_)
        go_simp
        refine hK _ _ ?_
        clear hK K
        refine mix_pure (v := ?_) (by simp only [List.getElem?_toArray, List.getElem?_cons_succ, List.getElem?_cons_zero] <;> rfl) (by kernel_rfl) ⟨Or.inl ⟨by kernel_rfl, ?_⟩, fun _ => (by rfl)⟩ ?_; rotate_left 1; focus (intro w; go_simp; try with_reducible rfl)
        simp only [Act.put, List.setIfInBounds_toArray, List.set_cons_zero, List.set_cons_succ]
        refine mix_pure (v := ?_) (by simp only [List.getElem?_toArray, List.getElem?_cons_succ, List.getElem?_cons_zero] <;> rfl) (by kernel_rfl) ⟨Or.inl ⟨by kernel_rfl, ?_⟩, fun _ => (by rfl)⟩ ?_; rotate_left 1; focus (intro w; go_simp; try with_reducible rfl)
        simp only [Act.put, List.setIfInBounds_toArray, List.set_cons_zero, List.set_cons_succ]
        refine mix_pure (v := ?_) (by simp only [List.getElem?_toArray, List.getElem?_cons_succ, List.getElem?_cons_zero] <;> rfl) (by kernel_rfl) ⟨Or.inl ⟨by kernel_rfl, ?_⟩, fun _ => (by rfl)⟩ ?_; rotate_left 1; focus (intro w; go_simp; try with_reducible rfl)
        simp only [Act.put, List.setIfInBounds_toArray, List.set_cons_zero, List.set_cons_succ]
        refine mix_pure (v := undef) (by simp only [List.getElem?_toArray, List.getElem?_cons_succ, List.getElem?_cons_zero] <;> rfl) (by kernel_rfl) ⟨Or.inr ⟨by kernel_rfl, rfl⟩, fun _ => (by rfl)⟩ ?_
        simp only [Act.put, List.setIfInBounds_toArray, List.set_cons_zero, List.set_cons_succ]
        refine mix_pure (v := undef) (by simp only [List.getElem?_toArray, List.getElem?_cons_succ, List.getElem?_cons_zero] <;> rfl) (by kernel_rfl) ⟨Or.inr ⟨by kernel_rfl, rfl⟩, fun _ => (by rfl)⟩ ?_
        simp only [Act.put, List.setIfInBounds_toArray, List.set_cons_zero, List.set_cons_succ]
        refine mix_pure (v := undef) (by simp only [List.getElem?_toArray, List.getElem?_cons_succ, List.getElem?_cons_zero] <;> rfl) (by kernel_rfl) ⟨Or.inr ⟨by kernel_rfl, rfl⟩, fun _ => (by rfl)⟩ ?_
        simp only [Act.put, List.setIfInBounds_toArray, List.set_cons_zero, List.set_cons_succ]
        refine mix_pure (v := undef) (by simp only [List.getElem?_toArray, List.getElem?_cons_succ, List.getElem?_cons_zero] <;> rfl) (by kernel_rfl) ⟨Or.inr ⟨by kernel_rfl, rfl⟩, fun _ => (by rfl)⟩ ?_
        simp only [Act.put, List.setIfInBounds_toArray, List.set_cons_zero, List.set_cons_succ]
        refine mix_pure (v := undef) (by simp only [List.getElem?_toArray, List.getElem?_cons_succ, List.getElem?_cons_zero] <;> rfl) (by kernel_rfl) ⟨Or.inr ⟨by kernel_rfl, rfl⟩, fun _ => (by rfl)⟩ ?_
        simp only [Act.put, List.setIfInBounds_toArray, List.set_cons_zero, List.set_cons_succ]
        refine mix_pure (v := undef) (by simp only [List.getElem?_toArray, List.getElem?_cons_succ, List.getElem?_cons_zero] <;> rfl) (by kernel_rfl) ⟨Or.inr ⟨by kernel_rfl, rfl⟩, fun _ => (by rfl)⟩ ?_
        simp only [Act.put, List.setIfInBounds_toArray, List.set_cons_zero, List.set_cons_succ]
        refine mix_pure (v := undef) (by simp only [List.getElem?_toArray, List.getElem?_cons_succ, List.getElem?_cons_zero] <;> rfl) (by kernel_rfl) ⟨Or.inr ⟨by kernel_rfl, rfl⟩, fun _ => (by rfl)⟩ ?_
        simp only [Act.put, List.setIfInBounds_toArray, List.set_cons_zero, List.set_cons_succ]
        refine mix_pure (v := undef) (by simp only [List.getElem?_toArray, List.getElem?_cons_succ, List.getElem?_cons_zero] <;> rfl) (by kernel_rfl) ⟨Or.inr ⟨by kernel_rfl, rfl⟩, fun _ => (by rfl)⟩ ?_
        simp only [Act.put, List.setIfInBounds_toArray, List.set_cons_zero, List.set_cons_succ]
        refine mix_pure (v := undef) (by simp only [List.getElem?_toArray, List.getElem?_cons_succ, List.getElem?_cons_zero] <;> rfl) (by kernel_rfl) ⟨Or.inr ⟨by kernel_rfl, rfl⟩, fun _ => (by rfl)⟩ ?_
        simp only [Act.put, List.setIfInBounds_toArray, List.set_cons_zero, List.set_cons_succ]
        refine mix_pure (v := ?_) (by simp only [List.getElem?_toArray, List.getElem?_cons_succ, List.getElem?_cons_zero] <;> rfl) (by kernel_rfl) ⟨Or.inl ⟨by kernel_rfl, ?_⟩, fun _ => (by rfl)⟩ ?_; rotate_left 1; focus (intro w; go_simp; try with_reducible rfl)
        simp only [Act.put, List.setIfInBounds_toArray, List.set_cons_zero, List.set_cons_succ]
        refine mix_end ?_
        gi_wp2
        refine region_mix [2, 3, 5, 6] [0, 0, 2, 6, 14, 30, 63, 127] [0, 1, 2, 3, 4, 5, 6, 7] (by kernel_rfl) rfl (by kernel_rfl) ?_
        refine mix_step (by simp only [List.getElem?_toArray, List.getElem?_cons_zero] <;> rfl) (by kernel_rfl) (fun K hK => ?_)
        go_simp
        refine hK _ _ ?_
        clear hK K
        refine mix_step (by simp only [List.getElem?_toArray, List.getElem?_cons_succ, List.getElem?_cons_zero] <;> rfl) (by kernel_rfl) (fun K hK => ?_)
        go_simp
        refine hK _ _ ?_
        clear hK K
        refine mix_pure (v := ?_) (by simp only [List.getElem?_toArray, List.getElem?_cons_succ, List.getElem?_cons_zero] <;> rfl) (by kernel_rfl) ⟨Or.inl ⟨by kernel_rfl, ?_⟩, fun _ => (by rfl)⟩ ?_; rotate_left 1; focus (intro w; go_simp; try with_reducible rfl)
        simp only [Act.put, List.setIfInBounds_toArray, List.set_cons_zero, List.set_cons_succ]
        refine mix_pure (v := ?_) (by simp only [List.getElem?_toArray, List.getElem?_cons_succ, List.getElem?_cons_zero] <;> rfl) (by kernel_rfl) ⟨Or.inl ⟨by kernel_rfl, ?_⟩, fun _ => (by rfl)⟩ ?_; rotate_left 1; focus (intro w; go_simp; try with_reducible rfl)
        simp only [Act.put, List.setIfInBounds_toArray, List.set_cons_zero, List.set_cons_succ]
        refine mix_step (by simp only [List.getElem?_toArray, List.getElem?_cons_succ, List.getElem?_cons_zero] <;> rfl) (by kernel_rfl) (fun K hK => ?_)
        go_simp
        refine hK _ _ ?_
        clear hK K
        refine mix_pure (v := ?_) (by simp only [List.getElem?_toArray, List.getElem?_cons_succ, List.getElem?_cons_zero] <;> rfl) (by kernel_rfl) ⟨Or.inl ⟨by kernel_rfl, ?_⟩, fun _ => (by rfl)⟩ ?_; rotate_left 1; focus (intro w; go_simp; try with_reducible rfl)
        simp only [Act.put, List.setIfInBounds_toArray, List.set_cons_zero, List.set_cons_succ]
        refine mix_pure (v := ?_) (by simp only [List.getElem?_toArray, List.getElem?_cons_succ, List.getElem?_cons_zero] <;> rfl) (by kernel_rfl) ⟨Or.inl ⟨by kernel_rfl, ?_⟩, fun _ => (by rfl)⟩ ?_; rotate_left 1; focus (intro w; go_simp; try with_reducible rfl)
        simp only [Act.put, List.setIfInBounds_toArray, List.set_cons_zero, List.set_cons_succ]
        refine mix_step (by simp only [List.getElem?_toArray, List.getElem?_cons_succ, List.getElem?_cons_zero] <;> rfl) (by kernel_rfl) (fun K hK => ?_)
        go_simp
        refine hK _ _ ?_
        clear hK K
        refine mix_end ?_
        gi_wp2
        obtain ⟨W9, hW9⟩ : ∃ W9, W9 = (wr.setCell ⟨W.heap.size + 1, 0, none⟩ (.bool true)).drew.drew := ⟨_, rfl⟩
        rw [← hW9]
        have T9 : Turned [W2.heap.size, W.heap.size + 1] W5 W9 := by
          rw [hW9]
          exact (((HTT.out.wide (S' := [W2.heap.size, W.heap.size + 1]) (by simp)).setCell (p := W.heap.size + 1) (.inl (by simp)) 0 (.bool true)).drew).drew
        have F9 : Fresh W9 (W.heap.size + 1) #[.bool true] 4 := by
          rw [hW9]
          have := HK2.out.2.2.set 0 (.bool true)
          exact Fresh.drew (Fresh.drew (by simpa using this))
        have hD9 : W9.heap[D]? = some (.deferred (some [])) := (T9.block D (Array.getElem?_eq_some_iff.1 HD.out).1 (by simp; omega)).trans HD.out
        have B9 : Below W.heap.size W W9 := Turned.below HB.out T9 (by intro k hk; simp at hk; omega) HB.out.size
        clear hW9
        refine ⟨by simp, .inl ⟨_, _, rfl, run_takeDeferred hD9, ?_⟩⟩
        have u0 := (F9.kept (grownBy_putObj' W9 D (.deferred none)) (fun r e => by cases e; exact ⟨_, hD9, rfl⟩)).cell 0
        simp only [List.getElem?_toArray, List.getElem?_cons_zero] at u0
        refine ⟨.bool true, ?_, rfl, B9.grown (grownBy_putObj' W9 D (.deferred none)) (by have := B9.size; exact this) (fun r e => by cases e; omega)⟩
        simp [results, Try.f11, go_sem, u0]
  case stop => exact fun _ _ _ _ _ _ h => h.elim
end Go.Proofs.Ytbbadkgmnfjfaaa
