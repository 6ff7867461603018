/- Texts of stage 9, merged: NdRooms, NdSlice, NdView, NdAll, NdPeopled. -/
import Derived.Test.YtjaijomkdgoenaaDoorKit
import Derived.Lib.LaidTab
import Derived.Lib.AppendIntMem
import Derived.Laws.Cover1
import Derived.Deep.QuietTactic
import Derived.BigQuiet
import Derived.WalkSmall
import Derived.Test.YtjaijomkdgoenaaDoorFr
/- The table of rooms; Room and Of. -/
namespace Go.Proofs.YtjaijomkdgoenaaDoor.Nd
open Go.RowKit
set_option maxRecDepth 1000000
set_option maxHeartbeats 4000000

def roomsL : List Int := [0, 0, 4, 16, 48, 256]
def Rm (w : World) : Prop := Lib.TabIs Tryd.prog w "burgage/node.rooms" .i64 roomsL
theorem Rm.on {w w1 : World} (h : Rm w) (hb : Below w.heap.size w w1) : Rm w1 := Lib.tabBelow_of_tabIs h w1 hb
theorem Rm.cell {w : World} (h : Rm w) (i : Nat) (hi : i < 6) : w.cell? ⟨0, i, none⟩ = some (.int .i64 (roomsL.getD i 0)) :=
  Lib.TabIs.cell h (by kernel_rfl) i hi

/-- The room of a kind. -/
def roomOf (k : Int) : Int := if 0 ≤ k ∧ k < 6 then roomsL.getD k.toNat 0 else 0

theorem room_any (k : Int) (W : World) (h : Rm W) : Calls Tryd.prog 13 #[.int .i64 k] W fun e w' => e = .returned (.int .i64 (roomOf k)) ∧ w' = W := by
  by_cases hlo : k < 0
  · have hr : roomOf k = 0 := by unfold roomOf; rw [if_neg]; omega
    clear h
    have d1 : decide (k < 0) = true := decide_eq_true hlo
    rw [hr]
    go_enter Tryd.func13, Tryd.ntmps13
    go_wp2_with fail
    go_ret
    exact ⟨rfl, rfl⟩
  · by_cases hhi : 6 ≤ k
    · have hr : roomOf k = 0 := by unfold roomOf; rw [if_neg]; omega
      clear h
      have d1 : decide (k < 0) = false := decide_eq_false hlo
      have d2 : decide (6 ≤ k) = true := decide_eq_true hhi
      rw [hr]
      go_enter Tryd.func13, Tryd.ntmps13
      go_wp2_with fail
      go_ret
      exact ⟨rfl, rfl⟩
    · obtain ⟨i, rfl⟩ : ∃ i : Nat, k = i := ⟨k.toNat, by omega⟩
      have hi : i < 6 := by omega
      have hr : roomOf i = roomsL.getD i 0 := by
        unfold roomOf
        rw [if_pos (by omega)]
        simp
      have hcl := h.cell i hi
      have c0 : (0 : Int) ≤ (i : Int) := by omega
      have c1 : (i : Int) < 6 := by omega
      have d1 : decide ((i : Int) < 0) = false := decide_eq_false hlo
      have d2 : decide ((6 : Int) ≤ i) = false := decide_eq_false hhi
      clear h
      rw [hr]
      go_enter Tryd.func13, Tryd.ntmps13
      go_wp2_with fail
      go_ret
      exact ⟨rfl, rfl⟩

/-- The kind of a number of kids. -/
def ofK (n : Int) : Int × Bool := if n < 0 then (0, false) else if n ≤ 4 then (2, true) else if n ≤ 16 then (3, true) else if n ≤ 48 then (4, true) else if n ≤ 256 then (5, true) else (0, false)

theorem of_any (n : Int) (W : World) (h : Rm W) : Calls Tryd.prog 17 #[.int .i64 n] W fun e w' => e = .returned (.tuple #[.int .i64 (ofK n).1, .bool (ofK n).2]) ∧ w' = W := by
  have h2 := h.cell 2 (by decide)
  have h3 := h.cell 3 (by decide)
  have h4 := h.cell 4 (by decide)
  have h5 := h.cell 5 (by decide)
  simp only [roomsL, List.getD_cons_succ, List.getD_cons_zero] at h2 h3 h4 h5
  clear h
  by_cases e0 : n < 0
  · have hr : ofK n = (0, false) := by simp [ofK, e0]
    have d0 : decide (n < 0) = true := decide_eq_true e0
    rw [hr]
    clear h2 h3 h4 h5
    go_enter Tryd.func17, Tryd.ntmps17
    go_wp2_with fail
    go_ret2
    exact ⟨rfl, rfl⟩
  have d0 : decide (n < 0) = false := decide_eq_false e0
  go_enter Tryd.func17, Tryd.ntmps17
  go_wp2_with fail
  go_loopw [4] (fun cv wr => ∃ c : Nat, cv = .int .i64 c ∧ 2 ≤ c ∧ c ≤ 6 ∧ (∀ j : Nat, 2 ≤ j → j < c → roomsL.getD j 0 < n) ∧ wr = W) (fun cv _ => 6 - (intOf cv).toNat)
  case atStart => exact ⟨2, rfl, by omega, by omega, by intro j h1 h2; omega, rfl⟩
  case round =>
    obtain ⟨c, rfl, hc2, hc6, hbef, rfl⟩ := hrel
    have HBF := Lib.hid hbef
    clear hbef
    by_cases hab : c = 6
    · subst hab
      have q := HBF.out 5 (by omega) (by omega)
      have q : (256 : Int) < n := q
      have hr : ofK n = (0, false) := by
        unfold ofK
        rw [if_neg (by omega), if_neg (by omega), if_neg (by omega), if_neg (by omega), if_neg (by omega)]
      clear h2 h3 h4 h5
      go_wp2_with fail
      go_ret2
      rw [hr]
      exact ⟨rfl, rfl⟩
    · have hcl : wr.cell? ⟨0, c, none⟩ = some (.int .i64 (roomsL.getD c 0)) := by
        have : c = 2 ∨ c = 3 ∨ c = 4 ∨ c = 5 := by omega
        rcases this with rfl | rfl | rfl | rfl <;> assumption
      have c1 : (c : Int) ≤ 5 := by omega
      have c0 : (0 : Int) ≤ (c : Int) := by omega
      have c6 : (c : Int) < 6 := by omega
      have d1 : decide ((c : Int) ≤ 5) = true := decide_eq_true c1
      clear h2 h3 h4 h5
      obtain ⟨R, hR⟩ : ∃ R, roomsL.getD c 0 = R := ⟨_, rfl⟩
      have HR := Lib.hid hR
      rw [hR] at hcl
      clear hR
      by_cases hfit : n ≤ R
      · have d2 : decide (n ≤ R) = true := decide_eq_true hfit
        have hr : ofK n = ((c : Int), true) := by
          have : c = 2 ∨ c = 3 ∨ c = 4 ∨ c = 5 := by omega
          rcases this with rfl | rfl | rfl | rfl
          · have q : n ≤ 4 := by rw [← HR.out] at hfit; exact hfit
            unfold ofK; rw [if_neg (by omega), if_pos q]; rfl
          · have q : n ≤ 16 := by rw [← HR.out] at hfit; exact hfit
            have q2 : (4 : Int) < n := HBF.out 2 (by omega) (by omega)
            unfold ofK; rw [if_neg (by omega), if_neg (by omega), if_pos q]; rfl
          · have q : n ≤ 48 := by rw [← HR.out] at hfit; exact hfit
            have q2 : (16 : Int) < n := HBF.out 3 (by omega) (by omega)
            unfold ofK; rw [if_neg (by omega), if_neg (by omega), if_neg (by omega), if_pos q]; rfl
          · have q : n ≤ 256 := by rw [← HR.out] at hfit; exact hfit
            have q2 : (48 : Int) < n := HBF.out 4 (by omega) (by omega)
            unfold ofK; rw [if_neg (by omega), if_neg (by omega), if_neg (by omega), if_neg (by omega), if_pos q]; rfl
        go_wp2_with fail
        go_ret2
        rw [hr]
        exact ⟨rfl, rfl⟩
      · have d2 : decide (n ≤ R) = false := decide_eq_false hfit
        go_wp2_with fail
        go_roundw
        case rel =>
          refine ⟨c + 1, by simp, by omega, by omega, ?_, by first | rfl | trivial⟩
          intro j j1 j2
          rcases Nat.lt_or_ge j c with h | h
          · exact HBF.out j j1 h
          · obtain rfl : j = c := by omega
            rw [HR.out]
            omega
        case measure => simp [intOf]; omega
end Go.Proofs.YtjaijomkdgoenaaDoor.Nd

/- Rows of bytes of a node: slices.Index, slices.Contains. -/
namespace Go.Proofs.YtjaijomkdgoenaaDoor.Nd
open Go.RowKit
set_option maxRecDepth 1000000
set_option maxHeartbeats 4000000

/-- A slice whose elements are the bytes of l. -/
def BR (W : World) (l : List UInt8) (v : Value) : Prop :=
  ∃ ao cap, v = .slice ao l.length cap ∧ ∀ (j : Nat) (k : UInt8), l[j]? = some k → ∃ b o, ao = some ⟨b, o, none⟩ ∧ b < W.heap.size ∧ W.cell? ⟨b, o + j, none⟩ = some (.int .u8 (k.toNat : Int))
theorem BR.nil (W : World) : BR W [] (.slice none 0 0) := ⟨none, 0, rfl, by intro j k h; simp at h⟩
theorem BR.below {W W' : World} {l : List UInt8} {v : Value} (h : BR W l v) (hb : Below W.heap.size W W') : BR W' l v := by
  obtain ⟨ao, cap, h1, h2⟩ := h
  refine ⟨ao, cap, h1, ?_⟩
  intro j k hj
  obtain ⟨b, o, h3, h4, h5⟩ := h2 j k hj
  exact ⟨b, o, h3, Nat.lt_of_lt_of_le h4 hb.size, (hb.cell (p := ⟨b, o + j, none⟩) h4).trans h5⟩

/-- A slice whose elements are the references of l. -/
def RR (W : World) (l : List (Int × Int)) (v : Value) : Prop :=
  ∃ ao cap, v = .slice ao l.length cap ∧ ∀ (j : Nat) (r : Int × Int), l[j]? = some r → ∃ b o, ao = some ⟨b, o, none⟩ ∧ b < W.heap.size ∧ W.cell? ⟨b, o + j * 2, none⟩ = some (.int .i64 r.1) ∧ W.cell? ⟨b, o + j * 2 + 1, none⟩ = some (.int .u32 r.2)
theorem RR.nil (W : World) : RR W [] (.slice none 0 0) := ⟨none, 0, rfl, by intro j k h; simp at h⟩
theorem RR.below {W W' : World} {l : List (Int × Int)} {v : Value} (h : RR W l v) (hb : Below W.heap.size W W') : RR W' l v := by
  obtain ⟨ao, cap, h1, h2⟩ := h
  refine ⟨ao, cap, h1, ?_⟩
  intro j k hj
  obtain ⟨b, o, h3, h4, h5, h6⟩ := h2 j k hj
  exact ⟨b, o, h3, Nat.lt_of_lt_of_le h4 hb.size, (hb.cell (p := ⟨b, o + j * 2, none⟩) h4).trans h5, (hb.cell (p := ⟨b, o + j * 2 + 1, none⟩) h4).trans h6⟩

/-- Where a byte stands first. -/
def ixI (x : UInt8) (l : List UInt8) : Int := if x ∈ l then (l.idxOf x : Int) else -1

theorem index_any {W : World} {l : List UInt8} {v : Value} (h : BR W l v) (hn : l.length < 1000000) (x : UInt8) :
    Calls Tryd.prog 41 #[v, .int .u8 (x.toNat : Int)] W fun e' w' => e' = .returned (.int .i64 (ixI x l)) ∧ Below W.heap.size W w' := by
  obtain ⟨ao, cap, rfl, hc⟩ := h
  have hcell := Lib.hid hc
  obtain ⟨n, hnn⟩ : ∃ n, l.length = n := ⟨_, rfl⟩
  have hget : Hid (∀ j, j < n → ∃ k, l[j]? = some k) := fun j hj => ⟨_, List.getElem?_eq_getElem (by rw [hnn]; exact hj)⟩
  have hbig : Hid (n < 1000000) := by show _ < _; rw [← hnn]; exact hn
  have hend : Hid ((∀ j, j < n → l[j]? ≠ some x) → ixI x l = -1) := by
    intro h
    unfold ixI
    rw [if_neg]
    intro hm
    obtain ⟨j, hj, e⟩ := List.getElem_of_mem hm
    exact h j (by omega) (by rw [List.getElem?_eq_getElem hj, e])
  have hat : Hid (∀ c : Nat, l[c]? = some x → (∀ j, j < c → l[j]? ≠ some x) → ixI x l = (c : Int)) := by
    intro c h1 h2
    unfold ixI
    have hm : x ∈ l := List.mem_of_getElem? h1
    rw [if_pos hm]
    have h3 : l.idxOf x < l.length := List.idxOf_lt_length_of_mem hm
    have h4 : l[l.idxOf x]? = some x := by rw [List.getElem?_eq_getElem h3]; simp
    rcases Nat.lt_trichotomy (l.idxOf x) c with h | h | h
    · exact absurd h4 (h2 _ h)
    · rw [h]
    · exfalso
      have := List.not_of_lt_findIdx (p := fun y => y == x) (xs := l) (i := c) h
      rw [List.getElem?_eq_some_iff] at h1
      obtain ⟨q1, q2⟩ := h1
      simp [q2] at this
  rw [hnn]
  clear hc hn hnn
  go_enter Tryd.func41, Tryd.ntmps41
  go_wp2_with fail
  go_loopw [8] (fun cv wr => ∃ c : Nat, cv = .int .i64 c ∧ c ≤ n ∧ Hid (∀ j, j < c → l[j]? ≠ some x) ∧ Below W.heap.size W wr) (fun cv _ => n - (intOf cv).toNat)
  case atStart => exact ⟨0, rfl, Nat.zero_le _, by intro j hj; omega, Below.refl _ _⟩
  case round =>
    obtain ⟨c, rfl, hcn, hbef, hbw⟩ := hrel
    have n6 := hbig.out
    have HBW := Lib.hid hbw
    by_cases hab : c < n
    · obtain ⟨k, hk⟩ := hget.out c hab
      obtain ⟨blk, off, rfl, hlt, hcl⟩ := hcell.out c k hk
      replace hcl := (hbw.cell (p := ⟨blk, off + c, none⟩) hlt).trans hcl
      have HK := Lib.hid hk
      have c0 : (0 : Int) ≤ (c : Int) := by omega
      have c1 : (c : Int) < (n : Int) := by omega
      have jd : decide (c < n) = true := decide_eq_true hab
      clear hk hbw hlt hcell hget hend
      by_cases hkx : x = k
      · subst hkx
        have hr := hat.out c HK.out hbef.out
        clear hat
        go_wp2_with fail
        go_ret
        exact ⟨by first | rfl | (rw [hr]; rfl) | simp [hr], HBW.out⟩
      · have hne : ((x.toNat : Int) == (k.toNat : Int)) = false := by
          rw [beq_eq_false_iff_ne]
          intro h
          exact hkx (UInt8.toNat_inj.1 (by omega))
        have hne2 : ¬ (x.toNat = k.toNat) := by
          intro h
          exact hkx (UInt8.toNat_inj.1 h)
        clear hat
        go_wp2_with fail
        go_roundw
        case rel =>
          refine ⟨c + 1, by simp, by omega, ?_, HBW.out⟩
          intro j hj
          rcases Nat.lt_or_ge j c with h | h
          · exact hbef.out j h
          · obtain rfl : j = c := by omega
            rw [HK.out]
            intro h
            cases h
            exact hkx rfl
        case measure => simp [intOf]; omega
    · obtain rfl : c = n := by omega
      have c1 : ¬ (c : Int) < (c : Int) := by omega
      have jd : decide (c < c) = false := decide_eq_false hab
      have hr := hend.out hbef.out
      clear hbw hcell hget hend hat
      go_wp2_with fail
      go_ret
      exact ⟨by first | rfl | (rw [hr]; rfl) | simp [hr], HBW.out⟩

theorem contains_any {W : World} {l : List UInt8} {v : Value} (h : BR W l v) (hn : l.length < 1000000) (x : UInt8) :
    Calls Tryd.prog 24 #[v, .int .u8 (x.toNat : Int)] W fun e' w' => e' = .returned (.bool (decide (x ∈ l))) ∧ Below W.heap.size W w' := by
  have H := Lib.hid (index_any h hn x)
  have hx : decide (0 ≤ ixI x l) = decide (x ∈ l) := by
    unfold ixI
    split <;> simp_all
  obtain ⟨ao, cap, rfl, hc⟩ := h
  clear hc
  go_enter Tryd.func24, Tryd.ntmps24
  go_wp2_with (go_at_call 41; refine H.out.mono ?_; rintro e1 w1 ⟨rfl, hb1⟩; have HB1 := Lib.hid hb1; clear hb1)
  go_ret
  exact ⟨by rw [← hx]; rfl, HB1.out⟩
theorem nan1_any (x : UInt8) (w : World) : Calls Tryd.prog 40 #[.int .u8 (x.toNat : Int)] w fun e w' => e = .returned (.bool false) ∧ w' = w := by
  go_enter Tryd.func40, Tryd.ntmps40
  go_wp2_with fail
  go_ret
  simp
theorem nan2_any (x : UInt8) (w : World) : Calls Tryd.prog 53 #[.int .u8 (x.toNat : Int)] w fun e w' => e = .returned (.bool false) ∧ w' = w := by
  go_enter Tryd.func53, Tryd.ntmps53
  go_wp2_with fail
  go_ret
  simp
theorem before_any (x y : UInt8) (w : World) : Calls Tryd.prog 39 #[.int .u8 (x.toNat : Int), .int .u8 (y.toNat : Int)] w fun e w' => e = .returned (.bool (decide (x < y))) ∧ w' = w := by
  have hk : decide ((x.toNat : Int) < (y.toNat : Int)) = decide (x < y) := by
    rw [decide_eq_decide, UInt8.lt_iff_toNat_lt]
    omega
  go_enter Tryd.func39, Tryd.ntmps39
  go_wp2_with (go_at_call 53; refine (nan2_any _ _).mono ?_; rintro e1 w1 ⟨rfl, h1⟩; replace h1 := h1.symm; subst h1)
  go_ret
  exact ⟨by first | rfl | (rw [← hk]; rfl) | simp [← hk], rfl⟩

/-- A binary search, by the place that it must find. -/
theorem search_any {W : World} {l : List UInt8} {v : Value} (h : BR W l v) (hn : l.length < 1000000) (x : UInt8) (A : Nat) (hA : A ≤ l.length)
    (hlo : ∀ (j : Nat) (k : UInt8), j < A → l[j]? = some k → k < x) (hhi : ∀ (j : Nat) (k : UInt8), A ≤ j → l[j]? = some k → ¬ k < x) :
    Calls Tryd.prog 21 #[v, .int .u8 (x.toNat : Int)] W fun e' w' => e' = .returned (.tuple #[.int .i64 (A : Nat), .bool (decide (l[A]? = some x))]) ∧ Below W.heap.size W w' := by
  obtain ⟨ao, cap, rfl, hc⟩ := h
  have hcell := Lib.hid hc
  have hlow := Lib.hid hlo
  have hhigh := Lib.hid hhi
  obtain ⟨n, hnn⟩ : ∃ n, l.length = n := ⟨_, rfl⟩
  have hAn : A ≤ n := by rw [← hnn]; exact hA
  have hget : Hid (∀ j, j < n → ∃ k, l[j]? = some k) := fun j hj => ⟨_, List.getElem?_eq_getElem (by rw [hnn]; exact hj)⟩
  have hbig : Hid (n < 1000000) := by show _ < _; rw [← hnn]; exact hn
  have HLN := Lib.hid hnn
  obtain ⟨r, hr⟩ : ∃ r, decide (l[A]? = some x) = r := ⟨_, rfl⟩
  have HR := Lib.hid hr
  rw [hnn, hr]
  clear hc hn hnn hr hA hlo hhi
  go_enter Tryd.func21, Tryd.ntmps21
  go_wp2_with fail
  go_loopw [7, 8] (fun av bv wr => ∃ a b : Nat, av = .int .i64 a ∧ bv = .int .i64 b ∧ a ≤ A ∧ A ≤ b ∧ b ≤ n ∧ Below W.heap.size W wr) (fun av bv _ => (intOf bv).toNat - (intOf av).toNat)
  case atStart => exact ⟨0, n, rfl, rfl, Nat.zero_le _, hAn, Nat.le_refl _, Below.refl _ _⟩
  case round =>
    obtain ⟨a, b, rfl, rfl, ha, hb, hbn, hbw⟩ := hrel
    have n6 := hbig.out
    by_cases hab : a < b
    · obtain ⟨c, hc⟩ : ∃ c, (a + b) / 2 = c := ⟨_, rfl⟩
      obtain ⟨k, hk⟩ := hget.out c (by omega)
      obtain ⟨blk, off, rfl, hlt, hcl⟩ := hcell.out c k hk
      replace hcl := (hbw.cell (p := ⟨blk, off + c, none⟩) hlt).trans hcl
      have hcI : ((a : Int) + (b : Int)) / 2 = (c : Int) := by omega
      have HBW := Lib.hid hbw
      have HK := Lib.hid hk
      have c0 : (0 : Int) ≤ (c : Int) := by omega
      have c1 : (c : Int) < (n : Int) := by omega
      have jab : (a : Int) < (b : Int) := by omega
      have jd : decide (a < b) = true := decide_eq_true hab
      clear hk hbw hlt
      cases hkx : decide (k < x)
      · have hAc : A ≤ c := by
          rcases Nat.lt_or_ge c A with h | h
          · exact absurd (hlow.out c k h HK.out) (of_decide_eq_false hkx)
          · exact h
        go_wp2_with (go_at_call 39; refine (before_any k x _).mono ?_; rw [hkx]; rintro e1 w1 ⟨rfl, h1⟩; replace h1 := h1.symm; subst h1)
        go_roundw
        case rel => exact ⟨a, c, rfl, rfl, ha, hAc, by omega, HBW.out⟩
        case measure => simp [intOf]; omega
      · have hAc : c + 1 ≤ A := by
          rcases Nat.lt_or_ge c A with h | h
          · exact h
          · exact absurd (of_decide_eq_true hkx) (hhigh.out c k h HK.out)
        go_wp2_with (go_at_call 39; refine (before_any k x _).mono ?_; rw [hkx]; rintro e1 w1 ⟨rfl, h1⟩; replace h1 := h1.symm; subst h1)
        go_roundw
        case rel => exact ⟨c + 1, b, by simp, rfl, hAc, hb, hbn, HBW.out⟩
        case measure => simp [intOf]; omega
    · obtain rfl : a = A := by omega
      obtain rfl : b = a := by omega
      have jab : ¬ (b : Int) < (b : Int) := by omega
      have jd : decide (b < b) = false := decide_eq_false (by omega)
      have HBW := Lib.hid hbw
      clear hbw hb ha
      by_cases hbn2 : b < n
      · obtain ⟨k, hk⟩ := hget.out b hbn2
        obtain ⟨blk, off, rfl, hlt, hcl⟩ := hcell.out b k hk
        replace hcl := (HBW.out.cell (p := ⟨blk, off + b, none⟩) hlt).trans hcl
        have HK := Lib.hid hk
        have c0 : (0 : Int) ≤ (b : Int) := by omega
        have c1 : (b : Int) < (n : Int) := by omega
        have jn : decide (b < n) = true := decide_eq_true hbn2
        clear hk hlt hcell hget hlow hhigh
        by_cases hkx : k = x
        · have hs1 : decide (l[b]? = some x) = true := by rw [HK.out, hkx]; simp
          have heq : ((k.toNat : Int) == (x.toNat : Int)) = true := by rw [hkx]; simp
          have heq2 : k.toNat = x.toNat := by rw [hkx]
          clear hkx
          go_wp2_with (go_at_call 40; refine (nan1_any _ _).mono ?_; rintro e1 w1 ⟨rfl, h1⟩; replace h1 := h1.symm; subst h1)
          go_ret2
          exact ⟨by rw [← HR.out, hs1]; first | done | simp [*], HBW.out⟩
        · have hs1 : decide (l[b]? = some x) = false := by rw [HK.out]; simpa using hkx
          have heq : ((k.toNat : Int) == (x.toNat : Int)) = false := by
            rw [beq_eq_false_iff_ne]
            intro h
            exact hkx (UInt8.toNat_inj.1 (by omega))
          have heq2 : ¬ (k.toNat = x.toNat) := fun h => hkx (UInt8.toNat_inj.1 h)
          clear hkx
          go_wp2_with (go_at_call 40; refine (nan1_any _ _).mono ?_; rintro e1 w1 ⟨rfl, h1⟩; replace h1 := h1.symm; subst h1)
          go_ret2
          exact ⟨by rw [← HR.out, hs1]; first | done | simp [*], HBW.out⟩
      · have hs1 : decide (l[b]? = some x) = false := by
          rw [List.getElem?_eq_none (by rw [HLN.out]; omega)]
          simp
        have c1 : ¬ (b : Int) < (n : Int) := by omega
        have jn : decide (b < n) = false := decide_eq_false hbn2
        clear hcell hget hlow hhigh
        go_wp2_with fail
        go_ret2
        exact ⟨by rw [← HR.out, hs1]; first | done | simp [*], HBW.out⟩
end Go.Proofs.YtjaijomkdgoenaaDoor.Nd

/- A node as a value, and what the plain methods of a view of it answer (printed by mkndview.py). -/
namespace Go.Proofs.YtjaijomkdgoenaaDoor.Nd
open Go.RowKit
set_option maxRecDepth 1000000
set_option maxHeartbeats 4000000

/-- The cells of a node. -/
def ndv (k : Int) (c v p : ByteArray) (ba : Option Addr) (bn bc : Nat) (ka : Option Addr) (kn kc : Nat) : Value :=
  .agg #[.int .i64 k, .string c, .string v, .string p, .slice ba bn bc, .slice ka kn kc]

section
variable (k : Int) (c v p : ByteArray) (ba : Option Addr) (bn bc : Nat) (ka : Option Addr) (kn kc : Nat) (W : World)

theorem leaf_any : Calls Tryd.prog 32 #[ndv k c v p ba bn bc ka kn kc] W fun e w' => e = .returned (.bool (decide (k = 1))) ∧ Below W.heap.size W w' := by
  unfold ndv
  go_enter Tryd.func32, Tryd.ntmps32
  go_wp2_with fail
  all_goals
    go_ret
    exact ⟨by first | rfl | (simp [*, Bool.beq_eq_decide_eq]; done) | (simp [*, Bool.beq_eq_decide_eq, List.isEmpty_iff]; try (rw [Bool.eq_iff_iff]; simp; try omega)), Below.new (Below.refl _ _) _⟩

theorem short_any : Calls Tryd.prog 33 #[ndv k c v p ba bn bc ka kn kc] W fun e w' => e = .returned (.bool (decide ((v.size : Int) ≤ 32))) ∧ Below W.heap.size W w' := by
  unfold ndv
  go_enter Tryd.func33, Tryd.ntmps33
  go_wp2_with fail
  all_goals
    go_ret
    exact ⟨by first | rfl | (simp [*, Bool.beq_eq_decide_eq]; done) | (simp [*, Bool.beq_eq_decide_eq, List.isEmpty_iff]; try (rw [Bool.eq_iff_iff]; simp; try omega)), Below.new (Below.refl _ _) _⟩

theorem bare_any : Calls Tryd.prog 34 #[ndv k c v p ba bn bc ka kn kc] W fun e w' => e = .returned (.bool (decide (p.toList = []) && (decide (bn = 0) && decide (kn = 0)))) ∧ Below W.heap.size W w' := by
  unfold ndv
  go_enter Tryd.func34, Tryd.ntmps34
  go_wp2_with fail
  all_goals
    go_ret
    exact ⟨by first | rfl | (simp [*, Bool.beq_eq_decide_eq]; done) | (simp [*, Bool.beq_eq_decide_eq, List.isEmpty_iff]; try (rw [Bool.eq_iff_iff]; simp; try omega)), Below.new (Below.refl _ _) _⟩

theorem keyless_any : Calls Tryd.prog 47 #[ndv k c v p ba bn bc ka kn kc] W fun e w' => e = .returned (.bool (decide (c.toList = []) && decide (v.toList = []))) ∧ Below W.heap.size W w' := by
  unfold ndv
  go_enter Tryd.func47, Tryd.ntmps47
  go_wp2_with fail
  all_goals
    go_ret
    exact ⟨by first | rfl | (simp [*, Bool.beq_eq_decide_eq]; done) | (simp [*, Bool.beq_eq_decide_eq, List.isEmpty_iff]; try (rw [Bool.eq_iff_iff]; simp; try omega)), Below.new (Below.refl _ _) _⟩

theorem near_any : Calls Tryd.prog 48 #[ndv k c v p ba bn bc ka kn kc] W fun e w' => e = .returned (.bool (decide ((p.size : Int) ≤ 34))) ∧ Below W.heap.size W w' := by
  unfold ndv
  go_enter Tryd.func48, Tryd.ntmps48
  go_wp2_with fail
  all_goals
    go_ret
    exact ⟨by first | rfl | (simp [*, Bool.beq_eq_decide_eq]; done) | (simp [*, Bool.beq_eq_decide_eq, List.isEmpty_iff]; try (rw [Bool.eq_iff_iff]; simp; try omega)), Below.new (Below.refl _ _) _⟩

theorem paired_any : Calls Tryd.prog 49 #[ndv k c v p ba bn bc ka kn kc] W fun e w' => e = .returned (.bool (decide ((bn : Int) = kn))) ∧ Below W.heap.size W w' := by
  unfold ndv
  go_enter Tryd.func49, Tryd.ntmps49
  go_wp2_with fail
  all_goals
    go_ret
    exact ⟨by first | rfl | (simp [*, Bool.beq_eq_decide_eq]; done) | (simp [*, Bool.beq_eq_decide_eq, List.isEmpty_iff]; try (rw [Bool.eq_iff_iff]; simp; try omega)), Below.new (Below.refl _ _) _⟩

theorem shared_any : Calls Tryd.prog 36 #[ndv k c v p ba bn bc ka kn kc] W fun e w' => e = .returned (.bool (decide (1 < (bn : Int)))) ∧ Below W.heap.size W w' := by
  unfold ndv
  go_enter Tryd.func36, Tryd.ntmps36
  go_wp2_with fail
  all_goals
    go_ret
    exact ⟨by first | rfl | (simp [*, Bool.beq_eq_decide_eq]; done) | (simp [*, Bool.beq_eq_decide_eq, List.isEmpty_iff]; try (rw [Bool.eq_iff_iff]; simp; try omega)), Below.new (Below.refl _ _) _⟩

theorem first_any : Calls Tryd.prog 44 #[ndv k c v p ba bn bc ka kn kc] W fun e w' => e = .returned (.bool (decide (k = 5) && decide (p.toList = []))) ∧ Below W.heap.size W w' := by
  unfold ndv
  go_enter Tryd.func44, Tryd.ntmps44
  go_wp2_with fail
  all_goals
    go_ret
    exact ⟨by first | rfl | (simp [*, Bool.beq_eq_decide_eq]; done) | (simp [*, Bool.beq_eq_decide_eq, List.isEmpty_iff]; try (rw [Bool.eq_iff_iff]; simp; try omega)), Below.new (Below.refl _ _) _⟩

theorem inner_any (h : Rm W) : Calls Tryd.prog 46 #[ndv k c v p ba bn bc ka kn kc] W fun e w' => e = .returned (.bool (decide (0 < roomOf k))) ∧ Below W.heap.size W w' := by
  have H := Lib.hid h
  clear h
  unfold ndv
  go_enter Tryd.func46, Tryd.ntmps46
  go_wp2_with (go_at_call 13; refine (room_any k _ (H.out.on (Below.new (Below.refl _ _) _))).mono ?_; rintro e1 w1 ⟨rfl, h1⟩; replace h1 := h1.symm; subst h1)
  all_goals
    go_ret
    exact ⟨by first | rfl | (simp [*, Bool.beq_eq_decide_eq]; done) | (simp [*, Bool.beq_eq_decide_eq, List.isEmpty_iff]; try (rw [Bool.eq_iff_iff]; simp; try omega)), Below.new (Below.refl _ _) _⟩

theorem within_any (h : Rm W) : Calls Tryd.prog 50 #[ndv k c v p ba bn bc ka kn kc] W fun e w' => e = .returned (.bool (decide ((bn : Int) ≤ roomOf k))) ∧ Below W.heap.size W w' := by
  have H := Lib.hid h
  clear h
  unfold ndv
  go_enter Tryd.func50, Tryd.ntmps50
  go_wp2_with fail
  go_quiet ((go_at_call 13; exact Calls.quiet_of_same (room_any k _ (H.out.on (below_drewN (Below.new (Below.refl _ _) _) _)))))
  go_wp2_with fail
  go_ret
  exact ⟨by first | rfl | (simp [*, Bool.beq_eq_decide_eq]; done) | (simp [*, Bool.beq_eq_decide_eq, List.isEmpty_iff]; try (rw [Bool.eq_iff_iff]; simp; try omega)), below_drewN (Below.new (Below.refl _ _) _) _⟩

theorem full_any (h : Rm W) : Calls Tryd.prog 25 #[ndv k c v p ba bn bc ka kn kc] W fun e w' => e = .returned (.bool (decide ((bn : Int) = roomOf k))) ∧ Below W.heap.size W w' := by
  have H := Lib.hid h
  clear h
  unfold ndv
  go_enter Tryd.func25, Tryd.ntmps25
  go_wp2_with fail
  go_quiet ((go_at_call 13; exact Calls.quiet_of_same (room_any k _ (H.out.on (below_drewN (Below.new (Below.refl _ _) _) _)))))
  go_wp2_with fail
  go_ret
  exact ⟨by first | rfl | (simp [*, Bool.beq_eq_decide_eq]; done) | (simp [*, Bool.beq_eq_decide_eq, List.isEmpty_iff]; try (rw [Bool.eq_iff_iff]; simp; try omega)), below_drewN (Below.new (Below.refl _ _) _) _⟩

end
end Go.Proofs.YtjaijomkdgoenaaDoor.Nd

/- All of some conditions hold. -/
namespace Go.Proofs.YtjaijomkdgoenaaDoor.Nd
open Go.RowKit
set_option maxRecDepth 1000000
set_option maxHeartbeats 4000000

/-- What a bound method answers, in every later world. -/
def Cond (W0 : World) (v : Value) (x : Nat × Bool) : Prop := (∀ w : World, (callFunc x.1 #[v]).run Tryd.prog w = .ok (.enter x.1 #[v]) w) ∧ ∀ W, Below W0.heap.size W0 W → Calls Tryd.prog x.1 #[v] W fun e w' => e = .returned (.bool x.2) ∧ Below W.heap.size W w'
/-- A bound method. -/
def condV (v : Value) (x : Nat × Bool) : Value := .func (.func x.1) #[v] #[]

theorem enter_leaf (v : Value) (w : World) : (callFunc 32 #[v]).run Tryd.prog w = .ok (.enter 32 #[v]) w := by kernel_rfl

theorem all_any {W : World} {B : Nat} {v : Value} {fs : List (Nat × Bool)} {cap : Nat} (h : ∀ (j : Nat) (x : Nat × Bool), fs[j]? = some x → B < W.heap.size ∧ W.cell? ⟨B, j, none⟩ = some (.func (.func x.1) #[v] #[]) ∧ Cond W v x) (hn : fs.length < 1000000) :
    Calls Tryd.prog 31 #[.slice (some ⟨B, 0, none⟩) fs.length cap] W fun e w' => e = .returned (.bool (fs.all (·.2))) ∧ Below W.heap.size W w' := by
  have hcell := Lib.hid h
  obtain ⟨n, hnn⟩ : ∃ n, fs.length = n := ⟨_, rfl⟩
  have hget : Hid (∀ j, j < n → ∃ k, fs[j]? = some k) := fun j hj => ⟨_, List.getElem?_eq_getElem (by rw [hnn]; exact hj)⟩
  have hbig : Hid (n < 1000000) := by show _ < _; rw [← hnn]; exact hn
  have hend : Hid ((∀ j, j < n → ∀ x, fs[j]? = some x → x.2 = true) → fs.all (·.2) = true) := by
    intro h
    rw [List.all_eq_true]
    intro r hr
    obtain ⟨j, hj, e⟩ := List.getElem_of_mem hr
    exact h j (by omega) r (by rw [List.getElem?_eq_getElem hj, e])
  have hat : Hid (∀ (c : Nat) (x : Nat × Bool), fs[c]? = some x → x.2 = false → fs.all (·.2) = false) := by
    intro c r h1 h2
    rw [List.all_eq_false]
    exact ⟨r, List.mem_of_getElem? h1, by rw [h2]; simp⟩
  rw [hnn]
  clear h hn hnn
  go_enter Tryd.func31, Tryd.ntmps31
  go_wp2_with fail
  go_loopw [7] (fun cv wr => ∃ c : Nat, cv = .int .i64 c ∧ c ≤ n ∧ Hid (∀ j, j < c → ∀ x, fs[j]? = some x → x.2 = true) ∧ Below W.heap.size W wr) (fun cv _ => n - (intOf cv).toNat)
  case atStart => exact ⟨0, rfl, Nat.zero_le _, by intro j hj; omega, Below.refl _ _⟩
  case round =>
    obtain ⟨c, rfl, hcn, hbef, hbw⟩ := hrel
    have n6 := hbig.out
    have HBW := Lib.hid hbw
    by_cases hab : c < n
    · obtain ⟨⟨f, r⟩, hk⟩ := hget.out c hab
      obtain ⟨hlt, hcl, hrun, hcond⟩ := hcell.out c _ hk
      replace hcl := (hbw.cell (p := ⟨B, c, none⟩) hlt).trans hcl
      dsimp only at hcl
      replace hrun := hrun wr
      dsimp only at hrun
      have HK := Lib.hid hk
      have c0 : (0 : Int) ≤ (c : Int) := by omega
      have c1 : (c : Int) < (n : Int) := by omega
      have jd : decide (c < n) = true := decide_eq_true hab
      have HI := Lib.hid (hcond wr hbw)
      dsimp only at HI
      cases r
      · have hr := hat.out c _ HK.out rfl
        clear hk hbw hlt hcell hget hend hat hcond
        go_wp2_with (refine HI.out.mono ?_; rintro e1 w1 ⟨rfl, hb1⟩; have HB1 := Lib.hid hb1; clear hb1)
        go_ret
        exact ⟨by first | (rw [hr]; first | done | rfl | simp; done) | simp, Below.step HBW.out HB1.out⟩
      · clear hk hbw hlt hcell hget hend hat hcond
        go_wp2_with (refine HI.out.mono ?_; rintro e1 w1 ⟨rfl, hb1⟩; have HB1 := Lib.hid hb1; clear hb1)
        go_roundw
        case rel =>
          refine ⟨c + 1, by simp, by omega, ?_, Below.step HBW.out HB1.out⟩
          intro j hj r hr
          rcases Nat.lt_or_ge j c with h | h
          · exact hbef.out j h r hr
          · obtain rfl : j = c := by omega
            rw [HK.out] at hr
            cases hr
            rfl
        case measure => simp [intOf]; omega
    · obtain rfl : c = n := by omega
      have c1 : ¬ (c : Int) < (c : Int) := by omega
      have jd : decide (c < c) = false := decide_eq_false hab
      have hr := hend.out hbef.out
      clear hbw hcell hget hend hat
      go_wp2_with fail
      go_ret
      exact ⟨by first | (rw [hr]; first | done | rfl | simp; done) | simp, HBW.out⟩
/-- The conditions of a slice that was just laid. -/
theorem all_lay {W : World} {v : Value} {o : Obj} {cells : Array Value} {T : TypeId} {B m : Nat} (fs : List (Nat × Bool)) (n : Nat) (hn : fs.length = n) (hm : n < 1000000) (hcs : cells = (fs.map (condV v)).toArray) (hB : B = W.heap.size + 1) (hmn : m = n)
    (hc : ∀ W1, Below W.heap.size W W1 → ∀ (j : Nat) (x : Nat × Bool), fs[j]? = some x → Cond W1 v x) :
    Calls Tryd.prog 31 #[.slice (some ⟨B, 0, none⟩) m m] ((W.alloc o).alloc (.cells cells T)) fun e w' => e = .returned (.bool (fs.all (·.2))) ∧ Below W.heap.size W w' := by
  subst hn hB hmn
  have hlow : Below W.heap.size W ((W.alloc o).alloc (.cells cells T)) := Below.new (Below.new (Below.refl _ _) _) _
  have hf : Fresh ((W.alloc o).alloc (.cells cells T)) (W.heap.size + 1) cells T := Fresh.new _ _ _ _ (by simp)
  refine (all_any (v := v) (fs := fs) ?_ hm).mono ?_
  · intro j x hx
    refine ⟨hf.lt, ?_, hc _ hlow j x hx⟩
    rw [hf.cell j, hcs]
    simp [hx, condV]
  · rintro e w' ⟨he, hb⟩
    exact ⟨he, Below.step hlow hb⟩
end Go.Proofs.YtjaijomkdgoenaaDoor.Nd

/- References that cannot be: impossible, and the search for one among the kids. -/
namespace Go.Proofs.YtjaijomkdgoenaaDoor.Nd
open Go.RowKit
set_option maxRecDepth 1000000
set_option maxHeartbeats 4000000

def impR (s g : Int) : Bool := decide (s < 0) || (decide (4096 ≤ s) || decide (g < 1))
theorem impossible_any (s g : Int) (W : World) : Calls Tryd.prog 23 #[.agg #[.int .i64 s, .int .u32 g]] W fun e w' => e = .returned (.bool (impR s g)) ∧ Below W.heap.size W w' := by
  unfold impR
  by_cases h1 : s < 0
  · have d1 : decide (s < 0) = true := decide_eq_true h1
    rw [d1]
    go_enter Tryd.func23, Tryd.ntmps23
    go_wp2_with fail
    go_ret
    exact ⟨by first | rfl | simp, Below.new (Below.refl _ _) _⟩
  have d1 : decide (s < 0) = false := decide_eq_false h1
  by_cases h2 : 4096 ≤ s
  · have d2 : decide (4096 ≤ s) = true := decide_eq_true h2
    rw [d1, d2]
    go_enter Tryd.func23, Tryd.ntmps23
    go_wp2_with fail
    go_ret
    exact ⟨by first | rfl | simp, Below.new (Below.refl _ _) _⟩
  have d2 : decide (4096 ≤ s) = false := decide_eq_false h2
  rw [d1, d2]
  go_enter Tryd.func23, Tryd.ntmps23
  go_wp2_with fail
  go_ret
  exact ⟨by first | rfl | simp, Below.new (Below.refl _ _) _⟩

/-- Some kid cannot be. -/
def impL (l : List (Int × Int)) : Bool := l.any fun r => impR r.1 r.2

theorem indexfunc_any {W : World} {l : List (Int × Int)} {v : Value} (h : RR W l v) (hn : l.length < 1000000) :
    Calls Tryd.prog 57 #[v, .func (.func 23) #[] #[]] W fun e' w' => (∃ i : Int, e' = .returned (.int .i64 i) ∧ decide (0 ≤ i) = impL l) ∧ Below W.heap.size W w' := by
  obtain ⟨ao, cap, rfl, hc⟩ := h
  have hcell := Lib.hid hc
  obtain ⟨n, hnn⟩ : ∃ n, l.length = n := ⟨_, rfl⟩
  have hget : Hid (∀ j, j < n → ∃ k, l[j]? = some k) := fun j hj => ⟨_, List.getElem?_eq_getElem (by rw [hnn]; exact hj)⟩
  have hbig : Hid (n < 1000000) := by show _ < _; rw [← hnn]; exact hn
  have hend : Hid ((∀ j, j < n → ∀ r, l[j]? = some r → impR r.1 r.2 = false) → impL l = false) := by
    intro h
    unfold impL
    rw [List.any_eq_false]
    intro r hr
    obtain ⟨j, hj, e⟩ := List.getElem_of_mem hr
    rw [h j (by omega) r (by rw [List.getElem?_eq_getElem hj, e])]
    simp
  have hat : Hid (∀ (c : Nat) (r : Int × Int), l[c]? = some r → impR r.1 r.2 = true → impL l = true) := by
    intro c r h1 h2
    unfold impL
    rw [List.any_eq_true]
    exact ⟨r, List.mem_of_getElem? h1, h2⟩
  rw [hnn]
  clear hc hn hnn
  go_enter Tryd.func57, Tryd.ntmps57
  go_wp2_with fail
  go_loopw [8] (fun cv wr => ∃ c : Nat, cv = .int .i64 c ∧ c ≤ n ∧ Hid (∀ j, j < c → ∀ r, l[j]? = some r → impR r.1 r.2 = false) ∧ Below W.heap.size W wr) (fun cv _ => n - (intOf cv).toNat)
  case atStart => exact ⟨0, rfl, Nat.zero_le _, by intro j hj; omega, Below.refl _ _⟩
  case round =>
    obtain ⟨c, rfl, hcn, hbef, hbw⟩ := hrel
    have n6 := hbig.out
    have HBW := Lib.hid hbw
    by_cases hab : c < n
    · obtain ⟨⟨rs, rg⟩, hk⟩ := hget.out c hab
      obtain ⟨blk, off, rfl, hlt, hcl, hcg⟩ := hcell.out c _ hk
      replace hcl := (hbw.cell (p := ⟨blk, off + c * 2, none⟩) hlt).trans hcl
      replace hcg := (hbw.cell (p := ⟨blk, off + c * 2 + 1, none⟩) hlt).trans hcg
      dsimp only at hcl hcg
      have HK := Lib.hid hk
      have c0 : (0 : Int) ≤ (c : Int) := by omega
      have c1 : (c : Int) < (n : Int) := by omega
      have jd : decide (c < n) = true := decide_eq_true hab
      have HI := Lib.hid (fun w => impossible_any rs rg w)
      cases hkx : impR rs rg
      · rw [hkx] at HI
        clear hk hbw hlt hcell hget hend
        clear hat
        go_wp2_with (refine (HI.out _).mono ?_; rintro e1 w1 ⟨rfl, hb1⟩; have HB1 := Lib.hid hb1; clear hb1)
        go_roundw
        case rel =>
          refine ⟨c + 1, by simp, by omega, ?_, Below.step HBW.out HB1.out⟩
          intro j hj r hr
          rcases Nat.lt_or_ge j c with h | h
          · exact hbef.out j h r hr
          · obtain rfl : j = c := by omega
            rw [HK.out] at hr
            cases hr
            exact hkx
        case measure => simp [intOf]; omega
      · rw [hkx] at HI
        have hr := hat.out c _ HK.out hkx
        clear hk hbw hlt hcell hget hend hat
        go_wp2_with (refine (HI.out _).mono ?_; rintro e1 w1 ⟨rfl, hb1⟩; have HB1 := Lib.hid hb1; clear hb1)
        go_ret
        exact ⟨⟨_, rfl, by first | (rw [hr]; simp; done) | (simp [hr]; done) | omega⟩, Below.step HBW.out HB1.out⟩
    · obtain rfl : c = n := by omega
      have c1 : ¬ (c : Int) < (c : Int) := by omega
      have jd : decide (c < c) = false := decide_eq_false hab
      have hr := hend.out hbef.out
      clear hbw hcell hget hend hat
      go_wp2_with fail
      go_ret
      exact ⟨⟨_, rfl, by first | exact hr.symm | decide | omega⟩, HBW.out⟩

theorem containsfunc_any {W : World} {l : List (Int × Int)} {v : Value} (h : RR W l v) (hn : l.length < 1000000) :
    Calls Tryd.prog 55 #[v, .func (.func 23) #[] #[]] W fun e' w' => e' = .returned (.bool (impL l)) ∧ Below W.heap.size W w' := by
  have H := Lib.hid (indexfunc_any h hn)
  obtain ⟨ao, cap, rfl, hc⟩ := h
  clear hc
  obtain ⟨r, hr⟩ : ∃ r, impL l = r := ⟨_, rfl⟩
  rw [hr] at H ⊢
  clear hr
  go_enter Tryd.func55, Tryd.ntmps55
  go_wp2_with (go_at_call 57; refine H.out.mono ?_; rintro e1 w1 ⟨⟨i, rfl, hi⟩, hb1⟩; have HB1 := Lib.hid hb1; have HI := Lib.hid hi; clear hb1 hi)
  go_ret
  exact ⟨by have h := HI.out; first | (rw [← h]; rfl) | (simp [h]; done) | exact (0 : Nat), HB1.out⟩

theorem peopled_any (k : Int) (c v p : ByteArray) (ba : Option Addr) (bn bc : Nat) (ka : Option Addr) (kn kc : Nat) (W : World) (rs : List (Int × Int)) (h : RR W rs (.slice ka kn kc)) (hl : rs.length < 1000000) :
    Calls Tryd.prog 52 #[ndv k c v p ba bn bc ka kn kc] W fun e w' => e = .returned (.bool (!impL rs)) ∧ Below W.heap.size W w' := by
  have B0 := Lib.hid (Below.new (Below.refl W.heap.size W) (.cells #[.int .i64 k, .string c, .string v, .string p, .slice ba bn bc, .slice ka kn kc] 49))
  have H := Lib.hid (containsfunc_any (h.below B0.out) hl)
  clear h hl
  unfold ndv
  obtain ⟨r, hr⟩ : ∃ r, impL rs = r := ⟨_, rfl⟩
  rw [hr] at H ⊢
  clear hr
  go_enter Tryd.func52, Tryd.ntmps52
  go_wp2_with (go_at_call 55; refine H.out.mono ?_; rintro e1 w1 ⟨rfl, hb1⟩; have HB1 := Lib.hid hb1; clear hb1)
  go_ret
  exact ⟨by first | rfl | simp, Below.step B0.out HB1.out⟩
end Go.Proofs.YtjaijomkdgoenaaDoor.Nd
