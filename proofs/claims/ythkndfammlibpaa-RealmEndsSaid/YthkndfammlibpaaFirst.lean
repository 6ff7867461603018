/- The iterator over the tenants, and the first of which a predicate holds. -/
import Derived.Test.YthkndfammlibpaaKit
import Derived.Test.YthkndfammlibpaaFr
import Derived.Test.YthkndfammlibpaaSeqOwn
import Derived.Test.YthkndfammlibpaaEach
import Derived.Test.YthkndfammlibpaaEncode
namespace Go.Proofs.Ythkndfammlibpaa
open Go.RowKit Go.Shelf
attribute [local go_sem] Oper.semAt_some
set_option maxRecDepth 100000
set_option maxHeartbeats 2000000

/-- The numbers from 1 to k. -/
def upN : Nat → List Nat
  | 0 => []
  | k + 1 => upN k ++ [k + 1]
theorem upN_inj {k x : Nat} {pre : List Nat} (h : pre ++ [x] = upN (k + 1)) : x = k + 1 ∧ pre = upN k := by
  rw [upN] at h
  obtain ⟨h1, h2⟩ := List.append_inj' h rfl
  exact ⟨by simpa using h2, h1⟩
theorem upN_length : ∀ k, (upN k).length = k
  | 0 => rfl
  | k + 1 => by simp [upN, upN_length k]
theorem upN_same {j k : Nat} (h : upN j = upN k) : j = k := by rw [← upN_length j, h, upN_length]
theorem find_none (f : Nat → Bool) : ∀ m, (∀ j, 1 ≤ j → j ≤ m → f j = false) → (upN m).find? f = none
  | 0, _ => rfl
  | m + 1, h => by rw [upN, List.find?_append, find_none f m (fun j h1 h2 => h j h1 (by omega))]; simp [h (m + 1) (by omega) (by omega)]
theorem find_some (f : Nat → Bool) (k : Nat) (h1 : 1 ≤ k) (hf : f k = true) (h : ∀ j, 1 ≤ j → j < k → f j = false) : ∀ m, k ≤ m → (upN m).find? f = some k
  | 0, hm => by omega
  | m + 1, hm => by
    rw [upN, List.find?_append]
    by_cases e : k = m + 1
    · subst e
      rw [find_none f m (fun j h1 h2 => h j h1 (by omega))]
      simp [hf]
    · rw [find_some f k h1 hf h m (by omega)]; rfl

theorem ten1_in (n : Nat) (hn : 1 ≤ n) (l : Nat) (J Jx : List Nat → World → Prop)
    (hY : ∀ (pre : List Nat) (x : Nat) (W1 : World), (∃ k, 1 ≤ k ∧ k ≤ 16 ∧ pre ++ [x] = upN k) → J pre W1 → YieldAt Fence.wide (n - 1) Try.prog l #[.int .i64 (x : Int)] W1 fun e W' =>
      True ∧ ((e = .returned (.bool true) ∧ J (pre ++ [x]) W') ∨ (e = .returned (.bool false) ∧ Jx (pre ++ [x]) W')))
    (W : World) (h0 : J [] W) :
    CallsIn Fence.wide n Try.prog 38 #[.func (.yield l) #[] #[]] W fun e W' => (∃ v, e = .returned v) ∧
      ((∃ xs, xs = upN 16 ∧ J xs W') ∨ (∃ pre, (∃ k, 1 ≤ k ∧ k ≤ 16 ∧ pre = upN k) ∧ Jx pre W')) := by
  refine callsIn_of_wp Try.func38 rfl trivial ?_ rfl
  simp only [Try.ntmps38, List.size_toArray, List.length_cons, List.length_nil, Nat.reduceAdd, Nat.reduceSub, Array.replicate_succ, Array.replicate_zero, List.push_toArray, List.append_toArray, List.nil_append, List.cons_append]
  gi_wp2
  gi_loopw [2] (fun i wr => ∃ k : Nat, k ≤ 16 ∧ i = .int .i64 ((k : Int) + 1) ∧ J (upN k) wr) (fun i _ => 17 - (intOf i).toNat)
  case atStart => exact ⟨0, by omega, rfl, h0⟩
  case round =>
    obtain ⟨k, hk, rfl, hJ⟩ := hrel
    have k0 : (0 : Int) ≤ (k : Int) := by omega
    by_cases hlt : k < 16
    · obtain ⟨fn, tmps, assign, body, hy, hR⟩ := hY (upN k) (k + 1) wr ⟨k + 1, by omega, by omega, rfl⟩ hJ
      replace hy : (Instr.yield l #[.int .i64 ((k : Int) + 1)]).run Try.prog wr = .ok (.round l fn tmps assign body) wr := hy
      have k1 : (k : Int) + 1 ≤ 16 := by omega
      clear hY h0
      gi_wp2
      refine hR.mono ?_
      rintro e W3 ⟨_, (⟨rfl, hJ3⟩ | ⟨rfl, hJx3⟩)⟩
      · gi_wp2
        go_roundw
        case rel => exact ⟨k + 1, by omega, by go_num, hJ3⟩
        case measure => simp [intOf] <;> omega
      · gi_wp2
        refine bodyPost_ret (results_none rfl _ _ _) rfl ?_
        exact ⟨⟨_, rfl⟩, .inr ⟨_, ⟨k + 1, by omega, by omega, rfl⟩, hJx3⟩⟩
    · obtain rfl : k = 16 := by omega
      gi_wp2
      go_end0
      exact ⟨⟨_, rfl⟩, .inl ⟨_, rfl, hJ⟩⟩

theorem ten_own (n : Nat) (hn : 1 ≤ n) (w : World) :
    SeqOwn Fence.wide n Try.prog 38 #[] (fun x : Nat => #[Value.int .i64 (x : Int)]) (fun _ _ => True) (fun xs => xs = upN 16) (fun pre => ∃ k, 1 ≤ k ∧ k ≤ 16 ∧ pre = upN k) (fun pre => ∃ k, 1 ≤ k ∧ k ≤ 16 ∧ pre = upN k) w :=
  fun l J Jx W _ _ _ _ hY h0 => ten1_in n hn l J Jx hY W h0

theorem tenants_any (w : World) : Calls Try.prog 31 #[] w fun e w' => e = .returned (.func (.func 38) #[] #[]) ∧ w' = w := by
  go_enter Try.func31, Try.ntmps31
  go_wp2
  go_ret
  exact ⟨rfl, rfl⟩

/-- The first number from 1 to 16 of which f holds. -/
def firstOf (f : Nat → Bool) : Option Nat := (upN 16).find? f
def firstV (f : Nat → Bool) : Value := match firstOf f with
  | some k => .tuple #[.int .i64 (k : Int), .bool true]
  | none => .tuple #[.int .i64 0, .bool false]
theorem Fresh.putObj {W : World} {p : Nat} {cs : Array Value} {t : TypeId} (h : Fresh W p cs t) {D : Nat} (hD : p ≠ D) (o : Obj) : Fresh (W.putObj D o) p cs t := (World.putObj_heap_other hD).trans h

theorem first_in (n : Nat) (hn : 4 ≤ n) (pf : Nat) (lb : Array Value) (f : Nat → Bool) (w : World) (en : ∀ args w, (callFunc pf args).run Try.prog w = .ok (.enter pf args) w)
    (hP : ∀ (k : Nat) (W : World), 1 ≤ k → k ≤ 16 → Below w.heap.size w W → Calls Try.prog pf (#[.int .i64 (k : Int)] ++ lb) W fun e w' => e = .returned (.bool (f k)) ∧ Below W.heap.size W w') :
    CallsIn Fence.wide n Try.prog 20 #[.func (.func pf) #[] lb] w fun e w' => e = .returned (firstV f) ∧ Below w.heap.size w w' := by
  have h1 : 1 ≤ n := by omega
  refine callsIn_of_wp_marks Try.func20 rfl trivial ?_ rfl
  simp only [Try.ntmps20, List.size_toArray, List.length_cons, List.length_nil, Nat.reduceAdd, Nat.reduceSub, Array.replicate_succ, Array.replicate_zero, List.push_toArray, List.append_toArray, List.nil_append, List.cons_append]
  gi_wp2_with (refine ⟨trivial, ?_⟩; gi_at_call 31; refine (callsIn_wide.2 (tenants_any _)).mono ?_; rintro e w2 ⟨rfl, rfl⟩)
  obtain ⟨WL, hWL⟩ : ∃ WL, WL = ((w.alloc (.cells #[.func (.func pf) #[] lb] 44)).alloc (.cells #[.int .i64 0] 39)).alloc (.cells #[.bool false] 4) := ⟨_, rfl⟩
  rw [← hWL]
  have sL : WL.heap.size = w.heap.size + 3 := by rw [hWL]; simp
  have FP : Fresh WL w.heap.size #[.func (.func pf) #[] lb] 44 := by rw [hWL]; exact ((Fresh.new _ _ _ _ rfl).alloc _).alloc _
  have FA : Fresh WL (w.heap.size + 1) #[.int .i64 0] 39 := by rw [hWL]; exact (Fresh.new _ _ _ _ (by simp)).alloc _
  have FB : Fresh WL (w.heap.size + 1 + 1) #[.bool false] 4 := by rw [hWL]; exact Fresh.new _ _ _ _ (by simp)
  have hBL : Below w.heap.size w WL := by rw [hWL]; exact (((Below.refl _ w).alloc (Nat.le_refl _) _).alloc (by simp) _).alloc (by simp; omega) _
  clear hWL
  refine range_own rfl h1 (gf := 38) (lb := #[]) rfl trivial (enters_of Try.func38 (by kernel_rfl) rfl)
    (ten_own (n - 1) (by omega) WL) (fun _ => trivial) (fun _ _ => trivial) (fun _ _ _ => trivial) (Below.refl _ _) (fun _ => rfl)
    (fun pre W => ∃ k, pre = upN k ∧ k ≤ 16 ∧ (∀ j, 1 ≤ j → j ≤ k → f j = false) ∧ Fresh W w.heap.size #[.func (.func pf) #[] lb] 44 ∧ Fresh W (w.heap.size + 1) #[.int .i64 0] 39 ∧ Fresh W (w.heap.size + 1 + 1) #[.bool false] 4 ∧ Below w.heap.size w W)
    (fun c _ W => c = .ret ∧ ∃ k : Nat, 1 ≤ k ∧ k ≤ 16 ∧ f k = true ∧ (∀ j, 1 ≤ j → j < k → f j = false) ∧ Fresh W (w.heap.size + 1) #[.int .i64 (k : Int)] 39 ∧ Fresh W (w.heap.size + 1 + 1) #[.bool true] 4 ∧ Below w.heap.size w W)
    ?hI ?hIx ⟨0, rfl, by omega, fun j h1 h2 => by omega, FP, FA, FB, hBL⟩
    (fun x => { tmps := #[.func (.func pf) #[] lb, .pointer (some ⟨w.heap.size, 0, none⟩), .pointer (some ⟨w.heap.size + 1, 0, none⟩), .pointer (some ⟨w.heap.size + 1 + 1, 0, none⟩), .int .i64 (x : Int), .func (.func 38) #[] #[], .int .i64 (x : Int), undef, undef, undef, undef], defers := [] })
    ?assign ?body ?done ?stop
  case hI =>
    rintro pre W W' row ⟨k, h2, h3, h4, h5, h6, h7, h8⟩ hg hr
    exact ⟨k, h2, h3, h4, h5.kept hg (fun r e => (hr r e).2), h6.kept hg (fun r e => (hr r e).2), h7.kept hg (fun r e => (hr r e).2), h8.grown hg h8.size (fun r e => by have := (hr r e).1; omega)⟩
  case hIx =>
    rintro c pre W W' row ⟨h2, k, h3, h4, h5, h6, h7, h8, h9⟩ hg hr
    exact ⟨h2, k, h3, h4, h5, h6, h7.kept hg (fun r e => (hr r e).2), h8.kept hg (fun r e => (hr r e).2), h9.grown hg h9.size (fun r e => by have := (hr r e).1; omega)⟩
  case assign =>
    intro l x W K hK
    gi_wp2
    exact hK
  case body =>
    rintro l pre x W ⟨k', k1, k2, hk'⟩ ⟨k, hk, k3, h4, h5, h6, h7, h8⟩ hsz
    obtain ⟨m, rfl⟩ : ∃ m, k' = m + 1 := ⟨k' - 1, by omega⟩
    obtain ⟨rfl, hp⟩ := upN_inj hk'
    obtain rfl : k = m := upN_same (hk ▸ hp)
    have c1 : W.cell? ⟨w.heap.size, 0, none⟩ = some (.func (.func pf) #[] lb) := (h5.cell 0).trans rfl
    have HH := Lib.hid (And.intro h5 (And.intro h6 (And.intro h7 h8)))
    have e1 : ((k + 1 : Nat) : Int) = (k : Int) + 1 := by omega
    have hP1 := hP (k + 1) W (by omega) (by omega) h8
    rw [e1] at hP1
    have HP := Lib.hid hP1
    have d1 : 1 ≤ n - 1 - 1 := by omega
    clear hP1 e1
    clear h5 h6 h7 h8 hP
    cases hf : f (k + 1)
    · gi_wp2
      refine ⟨trivial, ?_⟩
      refine (CallsIn.inRound l (callsIn_wide.2 HP.out)).mono ?_
      rintro e W2 ⟨rfl, hb2⟩
      rw [hf]
      gi_wp2
      obtain ⟨h5, h6, h7, h8⟩ := HH.out
      refine ⟨KeepsFrom.of_turned (S := []) (.of_below hb2) (by simp), trivial, k + 1, hk', k2, ?_, h5.below hb2, h6.below hb2, h7.below hb2, h8.trans (hb2.mono h8.size)⟩
      intro j j1 j2
      by_cases e : j = k + 1
      · rw [e]; exact hf
      · exact h4 j j1 (by omega)
    · gi_wp2
      refine ⟨trivial, ?_⟩
      refine (CallsIn.inRound l (callsIn_wide.2 HP.out)).mono ?_
      rintro e W2 ⟨rfl, hb2⟩
      rw [hf]
      have h6 := HH.out.2.1.below hb2
      have h7 := HH.out.2.2.1.below hb2
      have c2 : W2.cell? ⟨w.heap.size + 1, 0, none⟩ = some (.int .i64 0) := (h6.cell 0).trans rfl
      have c3 := h6.thawed 0
      have h7' := h7.other (q := w.heap.size + 1) (by omega) 0 (.int .i64 ((k : Int) + 1))
      have c4 : (W2.setCell ⟨w.heap.size + 1, 0, none⟩ (.int .i64 ((k : Int) + 1))).cell? ⟨w.heap.size + 1 + 1, 0, none⟩ = some (.bool false) := (h7'.cell 0).trans rfl
      have c5 := h7'.thawed 0
      have H6 := Lib.hid h6
      have H7 := Lib.hid h7'
      have HB2 := Lib.hid hb2
      clear h6 h7 h7' hb2
      gi_wp2
      refine ⟨KeepsFrom.of_turned (S := [w.heap.size + 1, w.heap.size + 1 + 1]) (((Turned.of_below HB2.out).setCell (.inl (by simp)) 0 _).setCell (.inl (by simp)) 0 _) (by simp; omega), trivial, rfl, k + 1, by omega, k2, hf, fun j j1 j2 => h4 j j1 (by omega), (H6.out.set 0 _).other (by omega) 0 _, H7.out.set 0 _, ?_⟩
      exact (((HH.out.2.2.2.trans (HB2.out.mono HH.out.2.2.2.size)).setCell (p := ⟨w.heap.size + 1, 0, none⟩) (by simp) _).setCell (p := ⟨w.heap.size + 1 + 1, 0, none⟩) (by simp; omega) _)
  case done =>
    rintro D xs W hD rfl ⟨k, hk, k3, h4, h5, h6, h7, h8⟩ hDW
    obtain rfl : (16 : Nat) = k := upN_same hk
    have hF : firstV f = .tuple #[.int .i64 0, .bool false] := by rw [firstV, firstOf, find_none f 16 h4]
    have c2 : W.cell? ⟨w.heap.size + 1, 0, none⟩ = some (.int .i64 0) := (h6.cell 0).trans rfl
    have c3 := h6.thawed 0
    have h7' := h7.other (q := w.heap.size + 1) (by omega) 0 (.int .i64 0)
    have c4 : (W.setCell ⟨w.heap.size + 1, 0, none⟩ (.int .i64 0)).cell? ⟨w.heap.size + 1 + 1, 0, none⟩ = some (.bool false) := (h7'.cell 0).trans rfl
    have c5 := h7'.thawed 0
    have g1 := (h6.set 0 (.int .i64 0)).other (q := w.heap.size + 1 + 1) (by omega) 0 (.bool false)
    have g2 := h7'.set 0 (.bool false)
    have g3 := (h8.setCell (p := ⟨w.heap.size + 1, 0, none⟩) (by simp) (.int .i64 0)).setCell (p := ⟨w.heap.size + 1 + 1, 0, none⟩) (by simp; omega) (.bool false)
    have HG := Lib.hid (And.intro g1 (And.intro g2 g3))
    have HD := Lib.hid hDW
    have HDD := Lib.hid hD
    have HF := Lib.hid hF
    have HS := Lib.hid sL
    clear g1 g2 g3 h5 h6 h7 h8 h7' hDW hD hF sL FP FA FB hBL hP h4
    simp only [Exit.inBlock, Exit.then]
    go_at_K
    gi_wp2
    obtain ⟨g1, g2, g3⟩ := HG.out
    have hD := HDD.out
    have sL := HS.out
    have hdX : ((W.setCell ⟨w.heap.size + 1, 0, none⟩ (.int .i64 0)).setCell ⟨w.heap.size + 1 + 1, 0, none⟩ (.bool false)).heap[D]? = some (.deferred (some [])) :=
      (Below.heap_setCell _ _ _ _ (by simp; omega)).trans ((Below.heap_setCell _ _ _ _ (by simp; omega)).trans HD.out)
    obtain ⟨X, hX⟩ : ∃ X, (W.setCell ⟨w.heap.size + 1, 0, none⟩ (.int .i64 0)).setCell ⟨w.heap.size + 1 + 1, 0, none⟩ (.bool false) = X := ⟨_, rfl⟩
    rw [hX] at g1 g2 g3 hdX ⊢
    have f1 : (X.putObj D (.deferred none)).cell? ⟨w.heap.size + 1, 0, none⟩ = some (.int .i64 0) := ((g1.putObj (by omega) _).cell 0).trans rfl
    have f2 : (X.putObj D (.deferred none)).cell? ⟨w.heap.size + 1 + 1, 0, none⟩ = some (.bool false) := ((g2.putObj (by omega) _).cell 0).trans rfl
    refine ⟨by simp, .inl ⟨D, _, rfl, run_takeDeferred hdX, ?_⟩⟩
    refine ⟨firstV f, ?_, rfl, ?_⟩
    · rw [HF.out]; simp [results, Try.results20, go_sem, f1, f2]
    · exact g3.trans (belowK_b (w := w) (Nat.le_refl _) _ D _ _ (by omega) hdX rfl rfl)
  case stop =>
    rintro D c pre W hD _ ⟨rfl, k, h3, h4, h5, h6, h7, h8, h9⟩ hDW
    have hF : firstV f = .tuple #[.int .i64 (k : Int), .bool true] := by rw [firstV, firstOf, find_some f k h3 h5 h6 16 h4]
    gi_wp2
    have hdX := hDW
    have f1 : (W.putObj D (.deferred none)).cell? ⟨w.heap.size + 1, 0, none⟩ = some (.int .i64 (k : Int)) := ((h7.putObj (by omega) _).cell 0).trans rfl
    have f2 : (W.putObj D (.deferred none)).cell? ⟨w.heap.size + 1 + 1, 0, none⟩ = some (.bool true) := ((h8.putObj (by omega) _).cell 0).trans rfl
    refine ⟨by simp, .inl ⟨D, _, rfl, run_takeDeferred hdX, ?_⟩⟩
    refine ⟨firstV f, ?_, rfl, ?_⟩
    · rw [hF]; simp [results, Try.results20, go_sem, f1, f2]
    · exact h9.trans (belowK_b (w := w) (Nat.le_refl _) _ D _ _ (by omega) hdX rfl rfl)
end Go.Proofs.Ythkndfammlibpaa
