/- The walk of Encode. -/
import Derived.Test.YthkndfammlibpaaWrite
import Derived.Laws.EntriesVeiled
namespace Go.Proofs.Ythkndfammlibpaa
open Go.RowKit Go.Shelf
attribute [local go_sem] Oper.semAt_some

/-- The code of a key, byte by byte. -/
def encB : List UInt8 → List UInt8
  | [] => []
  | c :: l => (if c = 0 then [0, 1] else [c]) ++ encB l
theorem encB_append : ∀ a b, encB (a ++ b) = encB a ++ encB b
  | [], b => rfl
  | c :: a, b => by simp [encB, encB_append a b]
theorem encB_le : ∀ l, (encB l).length ≤ 2 * l.length
  | [] => by simp [encB]
  | c :: l => by
    have := encB_le l
    simp only [encB, List.length_append, List.length_cons]
    split <;> simp <;> omega
def codeL (s : ByteArray) : List UInt8 := encB s.data.toList ++ [0, 0]
def codeOf (s : ByteArray) : ByteArray := ⟨(codeL s).toArray⟩

def bytesAt (s : ByteArray) (l : List (Ix s)) : List UInt8 := l.map fun x => s[x.1]'x.2
theorem bytesAt_snoc (s : ByteArray) (l : List (Ix s)) (x : Ix s) : bytesAt s (l ++ [x]) = bytesAt s l ++ [s[x.1]'x.2] := by simp [bytesAt]
theorem bytesAt_upTo (s : ByteArray) : ∀ (k : Nat) (h : k ≤ s.size), bytesAt s (upTo s k h) = s.data.toList.take k
  | 0, _ => by simp [upTo, bytesAt]
  | k + 1, h => by
    rw [upTo, bytesAt_snoc, bytesAt_upTo s k (by omega), List.take_succ_eq_append_getElem (by rw [length_list]; omega)]
    rfl
theorem bytesAt_length (s : ByteArray) (l : List (Ix s)) : (bytesAt s l).length = l.length := by simp [bytesAt]

theorem Coding.grown {base Bc g : Nat} {xs : List UInt8} {W W' : World} {row : Option Nat} (h : Coding base Bc g xs W) (hg : W.grownBy W' row) (hr : ∀ r, row = some r → ∃ o : Obj, W.heap[r]? = some o ∧ o.isCells = false) : Coding base Bc g xs W' := by
  refine ⟨h.box.kept hg (fun e => ?_), h.own.kept hg ?_⟩
  · obtain ⟨o, ho, hc⟩ := hr Bc e.symm
    rw [show W.heap[Bc]? = _ from h.box] at ho; cases ho; cases hc
  · rcases h.own.2 with ⟨h1, _⟩ | ⟨g', cap, cur, h1, _, hgb, _⟩
    · cases h1
    · cases h1
      refine .inr fun e => ?_
      obtain ⟨o, ho, hc⟩ := hr g (by simpa [Value.ownBlock] using e.symm)
      rw [hgb] at ho; cases ho; cases hc
theorem boxed_grown {W W' : World} {B : Nat} {t : TypeId} {v : Value} {row : Option Nat} (h : Boxed W B t v) (hg : W.grownBy W' row) (hr : ∀ r, row = some r → ∃ o : Obj, W.heap[r]? = some o ∧ o.isCells = false) : Boxed W' B t v :=
  h.kept hg (fun e => by
    obtain ⟨o, ho, hc⟩ := hr B e.symm
    rw [show W.heap[B]? = _ from h] at ho; cases ho; cases hc)
theorem foldl_push (xs : List UInt8) : ∀ acc : ByteArray, (xs.map fun c => (c.toNat : Int)).foldl (fun r n => r.push (UInt8.ofNat n.toNat)) acc = acc ++ ⟨xs.toArray⟩ := by
  induction xs with
  | nil => intro acc; apply bytes_ext; simp [ByteArray.data_append]
  | cons c xs ih =>
    intro acc
    rw [List.map_cons, List.foldl_cons, ih]
    apply bytes_ext
    simp [ByteArray.data_append, ByteArray.push]
theorem code_string {base Bc g : Nat} {xs : List UInt8} {w : World} (h : Coding base Bc g xs w) :
    (convert 29 9 (.slice (some ⟨g, 0, none⟩) xs.length 34)).run Try.prog w = .ok (.string ⟨xs.toArray⟩) w := by
  rw [run_convert_bytes_string _ 29 9 5 _ _ _ Try.underlying29 Try.underlying5 Try.underlying9]
  have hl := run_loadCells_list (P := Try.prog) (w := w) ⟨g, 0, none⟩ (byteVals xs) (fun j v hv => by
    rw [Addr.add_lit, Nat.zero_add, h.own.cellAt j (by have := (List.getElem?_eq_some_iff.1 hv).1; rw [byteVals_length] at this; omega)]
    exact hv)
  rw [byteVals_length] at hl
  rw [run_bytesToString _ _ _ _ (xs.map fun c => (c.toNat : Int)) (by rw [hl]; simp [byteVals, Function.comp_def])]
  rw [foldl_push]
  congr 2

set_option maxRecDepth 100000 in
set_option maxHeartbeats 4000000 in
theorem encode_in (n : Nat) (hn : 4 ≤ n) (s : ByteArray) (hs : s.size ≤ 16) (w : World) :
    CallsIn Fence.wide n Try.prog 36 #[.string s] w fun e W' => e = .returned (.tuple #[.string (codeOf s), .int .i64 0]) ∧ Below w.heap.size w W' := by
  have h1 : 1 ≤ n := by omega
  obtain ⟨i0, hi, hz0, hz1, hz2⟩ := info_parts infoB
  have hmf := @makeFunc_run Try.prog
  refine callsIn_of_wp_marks Try.func36 rfl trivial ?_ rfl
  simp only [Try.ntmps36, List.size_toArray, List.length_cons, List.length_nil, Nat.reduceAdd, Nat.reduceSub, Array.replicate_succ, Array.replicate_zero, List.push_toArray, List.append_toArray, List.nil_append, List.cons_append]
  gi_wp2_with (first | (gi_at_make; refine wpListIn_make_own _ rfl _ _ 29 rfl w.heap.size 5 i0 (.int .u8 0) 1 Try.underlying29 hi hz0 hz1 _ _ _ 34 rfl rfl rfl (by rw [hz2]; omega) (by unfold maxLen; omega) (Nat.le_refl _) ?_; intro w1 hown1 hg1) | (refine ⟨trivial, ?_⟩; gi_at_call 42; refine (callsIn_wide.2 (each_any _ _)).mono ?_; rintro e w' ⟨rfl, rfl⟩))
  obtain ⟨WL, hWL⟩ : ∃ WL, WL = ((w1.alloc (.cells #[.slice (some ⟨w.heap.size, 0, none⟩) 0 34] 29)).alloc (.cells #[.func (.func 41) #[] #[.pointer (some ⟨w1.heap.size, 0, none⟩)]] 64)).alloc (.cells #[.string s] 9) := ⟨_, rfl⟩
  rw [← hWL]
  have sL : WL.heap.size = w1.heap.size + 3 := by rw [hWL]; simp
  have hb1 : Below w.heap.size w w1 := (Below.refl _ w).grown hg1 (Nat.le_refl _) (by simp)
  have s1 := hb1.size
  have sg : w.heap.size < w1.heap.size := (hown1.lt _ rfl).2
  have hBL : Below w.heap.size w WL := by rw [hWL]; exact ((hb1.alloc s1 _).alloc (by simp; omega) _).alloc (by simp; omega) _
  have hC : Coding w.heap.size w1.heap.size w.heap.size [] WL := by
    rw [hWL]
    exact ⟨((Boxed.new w1 _ _).alloc _).alloc _, ((hown1.alloc _).alloc _).alloc _⟩
  have hW : Boxed WL (w1.heap.size + 1) 64 (.func (.func 41) #[] #[.pointer (some ⟨w1.heap.size, 0, none⟩)]) := by
    have := Boxed.new (w1.alloc (.cells #[.slice (some ⟨w.heap.size, 0, none⟩) 0 34] 29)) 64 (.func (.func 41) #[] #[.pointer (some ⟨w1.heap.size, 0, none⟩)])
    rw [World.size_alloc] at this
    rw [hWL]
    exact this.alloc _
  have hK : WL.cell? ⟨w1.heap.size + 2, 0, none⟩ = some (.string s) := by
    have := Boxed.new ((w1.alloc (.cells #[.slice (some ⟨w.heap.size, 0, none⟩) 0 34] 29)).alloc (.cells #[.func (.func 41) #[] #[.pointer (some ⟨w1.heap.size, 0, none⟩)]] 64)) 9 (.string s)
    rw [World.size_alloc, World.size_alloc] at this
    rw [hWL]
    exact this.cell
  clear hWL hown1 hg1 hb1
  refine wpIn_rangeFunc_ownG rfl h1 (gf := 45) (lb := #[.pointer (some ⟨w1.heap.size + 2, 0, none⟩)]) rfl trivial (enters_of Try.func45 (by kernel_rfl) rfl)
    (each_stops (n - 1) (by omega) (w1.heap.size + 2) s (by omega) WL (by omega) hK) keepB_t (keepB_b (by omega)) (Below.refl _ _) (fun _ => rfl)
    (fun pre W => Coding w.heap.size w1.heap.size w.heap.size (encB (bytesAt s pre)) W ∧ Boxed W (w1.heap.size + 1) 64 (.func (.func 41) #[] #[.pointer (some ⟨w1.heap.size, 0, none⟩)]) ∧ Below w.heap.size w W ∧ WL.heap.size ≤ W.heap.size)
    (fun _ _ _ => False) ?own (fun _ _ _ _ _ h _ _ => h) ⟨hC, hW, hBL, Nat.le_refl _⟩
    (fun x => { tmps := #[.string s, undef, .string ⟨#[]⟩, .int .i64 0, .pointer (some ⟨w1.heap.size, 0, none⟩), .pointer (some ⟨w1.heap.size + 1, 0, none⟩), .int .u8 ((s[x.1]'x.2).toNat : Int), .string s, .int .i64 (s.size : Int), .bool (decide ((16 : Int) < (s.size : Int))), .slice (some ⟨w.heap.size, 0, none⟩) 0 34, .func (.func 41) #[] #[.pointer (some ⟨w1.heap.size, 0, none⟩)], .string s, .func (.func 45) #[] #[.pointer (some ⟨w1.heap.size + 1 + 1, 0, none⟩)], .int .u8 ((s[x.1]'x.2).toNat : Int), undef, undef, undef, undef, undef, undef, undef, undef, undef, undef, undef, undef, undef, undef], defers := [] }) ?assign ?body ?done ?stop
  case own =>
    rintro pre W W' row ⟨h1, h2, h3, h4⟩ hg hr
    exact ⟨h1.grown hg (fun r e => (hr r e).2), boxed_grown h2 hg (fun r e => (hr r e).2), h3.grown hg h3.size (fun r e => by have := (hr r e).1; omega), Nat.le_trans h4 hg.size⟩
  case assign =>
    intro l x W K hK
    gi_wp2
    exact hK
  case body =>
    rintro l pre x W ⟨hCW, hWW, hBW, hSW⟩ hlen
    have hd : 1 ≤ n - 1 - 1 := by omega
    obtain ⟨i, hi'⟩ := x
    obtain ⟨c, hc⟩ : ∃ c, c = s[i] := ⟨_, rfl⟩
    dsimp only
    rw [← hc]
    have HS : Hid (encB (bytesAt s (pre ++ [⟨i, hi'⟩])) = encB (bytesAt s pre) ++ encB [c]) := by show _ = _; rw [bytesAt_snoc, encB_append, hc]
    have cw := hWW.cell
    have HCW := Lib.hid hCW
    have HWW := Lib.hid hWW
    have HBW := Lib.hid hBW
    have hl2 : (encB (bytesAt s pre)).length + 2 ≤ 34 := by
      have h1 := encB_le (bytesAt s pre)
      rw [bytesAt_length] at h1
      omega
    have hend : ∀ W', Kept2 w.heap.size w1.heap.size W W' → Coding w.heap.size w1.heap.size w.heap.size (encB (bytesAt s pre) ++ encB [c]) W' →
        KeepsFrom WL.heap.size W W' ∧ KeepB (w1.heap.size + 2) W W' ∧ Coding w.heap.size w1.heap.size w.heap.size (encB (bytesAt s (pre ++ [⟨i, hi'⟩]))) W' ∧ Boxed W' (w1.heap.size + 1) 64 (.func (.func 41) #[] #[.pointer (some ⟨w1.heap.size, 0, none⟩)]) ∧ Below w.heap.size w W' ∧ WL.heap.size ≤ W'.heap.size := by
      intro W' k1 k2
      have hsz : w1.heap.size + 2 < W.heap.size := by omega
      refine ⟨(HCW.out.others k1).from _, k1.block _ hsz (by omega) (by omega), by rw [HS.out]; exact k2, k1.boxed HWW.out (by omega) (by omega), HBW.out.trans (k1.below (Nat.le_refl _) (by omega) HBW.out.size), Nat.le_trans hSW k1.size⟩
    have HE := Lib.hid hend
    clear hend
    clear hc hC hW hK hBL hCW hWW hBW hSW hlen
    by_cases hz : c = 0
    · have q1 : ((c.toNat : Int) == 0) = true := by rw [hz]; rfl
      have E1 : Hid (encB [c] = [c] ++ [1]) := by show _ = _; simp [encB, hz]
      rw [E1.out] at HE
      clear hz
      gi_wp2_with (refine ⟨trivial, ?_⟩; gi_at_call 41; refine (CallsIn.inRound l (callsIn_wide.2 (write_any w.heap.size w1.heap.size w.heap.size W.heap.size 1 (encB (bytesAt s pre)) [c] _ (HCW.out.alloc _) rfl (by omega) (heap_alloc_new _ _)))).mono ?_; rintro e w2 ⟨rfl, hC2, hK2⟩; have cw2 := (hK2.boxed (HWW.out.alloc _) (by omega) (by omega)).cell)
      have HC2 := Lib.hid hC2
      have HK2 := Lib.hid hK2
      clear hC2 hK2 cw
      have hl3 : (encB (bytesAt s pre) ++ [c]).length + 1 ≤ 34 := by simp; omega
      gi_wp2_with (refine ⟨trivial, ?_⟩; gi_at_call 41; refine (CallsIn.inRound l (callsIn_wide.2 (write_any w.heap.size w1.heap.size w.heap.size w2.heap.size 1 (encB (bytesAt s pre) ++ [c]) [1] _ (HC2.out.alloc _) rfl (by omega) (heap_alloc_new _ _)))).mono ?_; rintro e w3 ⟨rfl, hC3, hK3⟩)
      gi_wp2
      exact HE.out _ ((((Kept2.alloc _ _ _ _).trans HK2.out).trans (Kept2.alloc _ _ _ _)).trans hK3) (by rw [← List.append_assoc]; exact hC3)
    · have q1 : ((c.toNat : Int) == 0) = false := by
        rw [beq_eq_false_iff_ne]; intro e; exact hz (UInt8.toNat.inj (by show c.toNat = 0; omega))
      have E1 : Hid (encB [c] = [c]) := by show _ = _; simp [encB, hz]
      rw [E1.out] at HE
      clear hz
      gi_wp2_with (refine ⟨trivial, ?_⟩; gi_at_call 41; refine (CallsIn.inRound l (callsIn_wide.2 (write_any w.heap.size w1.heap.size w.heap.size W.heap.size 1 (encB (bytesAt s pre)) [c] _ (HCW.out.alloc _) rfl (by omega) (heap_alloc_new _ _)))).mono ?_; rintro e w2 ⟨rfl, hC2, hK2⟩)
      gi_wp2
      exact HE.out _ ((Kept2.alloc _ _ _ _).trans hK2) hC2
  case done =>
    rintro D ys W hD rfl ⟨hCW, hWW, hBW, hSW⟩ hDW
    rw [bytesAt_upTo, List.take_of_length_le (by simp)] at hCW
    have cw := hWW.cell
    have HCW := Lib.hid hCW
    have HWW := Lib.hid hWW
    have HH := Lib.hid (And.intro hBW (And.intro hSW hDW))
    have hl2 : (encB s.data.toList).length + 2 ≤ 34 := by
      have h1 := encB_le s.data.toList
      rw [length_list] at h1
      omega
    have E2 : Hid ((encB s.data.toList ++ [0, 0]).length = (encB s.data.toList).length + 2) := by show _ = _; simp
    clear hCW hWW hBW hSW hC hW hK hBL hDW
    gi_wp2_with (refine ⟨trivial, ?_⟩; gi_at_call 41; refine (callsIn_wide.2 (write_any w.heap.size w1.heap.size w.heap.size W.heap.size 2 (encB s.data.toList) [0, 0] _ (HCW.out.alloc _) rfl (by omega) (heap_alloc_new _ _))).mono ?_; rintro e w2 ⟨rfl, hC2, hK2⟩; have cb := hC2.box.cell; have hcv : (convert 29 9 (.slice (some ⟨w.heap.size, 0, none⟩) ((encB s.data.toList).length + 2) 34)).run Try.prog w2 = .ok (.string (codeOf s)) w2 := (by rw [← E2.out]; exact code_string hC2); rw [E2.out] at cb)
    gi_wp2
    have hDs : D < W.heap.size := (Array.getElem?_eq_some_iff.1 HH.out.2.2).1
    have hK' : w2.heap[D]? = some (.deferred (some [])) := by
      rw [hK2.block D (by simp; omega) (by omega) (by omega), Below.heap_alloc _ _ _ hDs]
      exact HH.out.2.2
    refine ⟨by simp, .inl ⟨_, _, rfl, run_takeDeferred hK', ?_⟩⟩
    have hB2 : Below w.heap.size w w2 := HH.out.1.trans (((Kept2.alloc _ _ _ _).trans hK2).below (Nat.le_refl _) (by omega) HH.out.1.size)
    refine ⟨.tuple #[.string (codeOf s), .int .i64 0], ?_, rfl, ?_⟩
    · simp [results, Try.f36, go_sem]
    · exact hB2.trans (belowK_b (w := w) (Nat.le_refl _) w2 D _ _ (by omega) hK' rfl rfl)
  case stop =>
    rintro D c pre W hD _ h _
    exact h.elim

theorem encode_any (s : ByteArray) (w : World) (hs : s.size ≤ 16) :
    Calls Try.prog 36 #[.string s] w fun e w' => e = .returned (.tuple #[.string (codeOf s), .int .i64 0]) ∧ Below w.heap.size w w' :=
  (callsIn_wide (n := 4)).1 (encode_in 4 (by omega) s hs w)

set_option maxRecDepth 100000 in
set_option maxHeartbeats 1000000 in
theorem encode_long (s : ByteArray) (w : World) (hs : 16 < s.size) (hm : s.size ≤ maxLen) :
    Calls Try.prog 36 #[.string s] w fun e w' => e = .returned (.tuple #[.string ⟨#[]⟩, .int .i64 3]) ∧ Below w.heap.size w w' := by
  unfold maxLen at hm
  have h1 : (16 : Int) < (s.size : Int) := by omega
  go_enter Try.func36, Try.ntmps36
  go_wp2_with fail
  go_ret2
  exact ⟨rfl, Below.refl _ _⟩

end Go.Proofs.Ythkndfammlibpaa
