/- The parts of handle.Read: cutting, numbers, rights. -/
import Derived.Test.YtcfkaginjcgmhaaDoorShow
import Derived.WalkSmall
namespace Go.Proofs.YtcfkaginjcgmhaaDoor
open Go.RowKit
set_option maxRecDepth 100000
set_option maxHeartbeats 2000000

/-- The library's two error variables hold errors. -/
def Errs (w : World) : Prop := (∃ tp p, w.var? Tryd.prog "strconv.ErrSyntax" = some #[.iface tp p]) ∧ (∃ tp p, w.var? Tryd.prog "strconv.ErrRange" = some #[.iface tp p])

theorem var_on {w w1 : World} (hb : Below w.heap.size w w1) {n : String} {cs : Array Value} (h : w.var? Tryd.prog n = some cs) : w1.var? Tryd.prog n = some cs := by
  unfold World.var? at *
  cases hg : Tryd.prog.globalNamed n with
  | none => simp [hg] at h
  | some g =>
    simp only [hg, Option.bind_some] at h ⊢
    have hlt : g < w.heap.size := by
      rcases Nat.lt_or_ge g w.heap.size with h1 | h1
      · exact h1
      · rw [Array.getElem?_eq_none h1] at h; simp at h
    rw [hb.block g hlt]; exact h

theorem Errs.on {w w1 : World} (h : Errs w) (hb : Below w.heap.size w w1) : Errs w1 := by
  obtain ⟨⟨a, b, h1⟩, ⟨c, d, h2⟩⟩ := h
  exact ⟨⟨a, b, var_on hb h1⟩, ⟨c, d, var_on hb h2⟩⟩

theorem pu_ok (s : ByteArray) (hb : s.size ≤ 281474976710656) (u : Nat) (h : Lib.parseUintB 32 s.data.toList = .ok u) (w : World) :
    Calls Tryd.prog 38 #[.string s, .int .i64 10, .int .i64 32] w fun e w' => e = .returned (.tuple #[.int .u64 u, .nilIface]) ∧ Below w.heap.size w w' := by
  refine (Tryd.strconv_ParseUint_10_at32_ok s (by omega) u h w).mono ?_
  rintro e w' ⟨rfl, rfl | rfl⟩
  · exact ⟨rfl, Below.refl _ _⟩
  · exact ⟨rfl, rfl, rfl, rfl, by rw [Lib.bytesWorld_size]; omega, fun k hk => Lib.bytesWorld_at_old _ _ _ _ hk⟩

theorem pu_bad (s : ByteArray) (hb : s.size ≤ 281474976710656) (h : ∀ u, Lib.parseUintB 32 s.data.toList ≠ .ok u) (w : World) (he : Errs w) :
    Calls Tryd.prog 38 #[.string s, .int .i64 10, .int .i64 32] w fun e w' => ∃ (x : Int) (N : Nat), e = .returned (.tuple #[.int .u64 x, .iface 80 (.pointer (some ⟨N, 0, none⟩))]) ∧ Below w.heap.size w w' := by
  obtain ⟨⟨a, b, h1⟩, ⟨c, d, h2⟩⟩ := he
  cases hp : Lib.parseUintB 32 s.data.toList
  case ok u => exact absurd hp (h u)
  case range =>
    refine (Tryd.strconv_ParseUint_10_at32_range_var s hb hp c d w h2).mono ?_
    rintro e w' ⟨N, rfl, _, _, hbw⟩
    exact ⟨_, N, rfl, hbw⟩
  · refine (Any.strconv_ParseUint_10_at32_syntax_var Tryd.laysPu14 s hb hp a b w h1).mono ?_
    rintro e w' ⟨N, rfl, _, _, hbw⟩
    exact ⟨_, N, rfl, hbw⟩

theorem number_any (s : ByteArray) (hb : s.size ≤ 281474976710656) (w : World) (he : Errs w) :
    Calls Tryd.prog 28 #[.string s] w fun e w' => e = .returned (.int .i64 (numN s.data.toList)) ∧ Below w.heap.size w w' := by
  have HE := Lib.hid he
  have HS := Lib.hid hb
  obtain ⟨n, hn⟩ : ∃ n, numN s.data.toList = n := ⟨_, rfl⟩
  have hlt := numN_lt s.data.toList
  rw [hn] at hlt
  have HN := Lib.hid hn
  by_cases hp : ∃ u, Lib.parseUintB 32 s.data.toList = .ok u
  · obtain ⟨u, hu⟩ := hp
    have HU := Lib.hid hu
    obtain rfl : u = n := by unfold numN at hn; rw [hu] at hn; exact hn
    clear hu hn he hb
    go_enter Tryd.func28, Tryd.ntmps28
    go_wp2_with fail
    refine (pu_ok s HS.out u HU.out _).mono ?_
    rintro e w1 ⟨rfl, hb1⟩
    go_wp2_with fail
    go_ret
    exact ⟨ret_int (by rw [HN.out]), hb1⟩
  · have P : Hid (∀ u, Lib.parseUintB 32 s.data.toList ≠ .ok u) := fun u hu => hp ⟨u, hu⟩
    obtain rfl : n = 0 := by
      rw [← hn]
      unfold numN
      split
      · rename_i u hu; exact absurd ⟨u, hu⟩ hp
      · rfl
    clear hp hn he hb
    go_enter Tryd.func28, Tryd.ntmps28
    go_wp2_with fail
    refine (pu_bad s HS.out P.out _ HE.out).mono ?_
    rintro e w1 ⟨x, N, rfl, hb1⟩
    go_wp2_with fail
    go_ret
    exact ⟨ret_int (by rw [HN.out]; rfl), hb1⟩

theorem indexByte_lt (l : List UInt8) (c : UInt8) : Lib.indexByte l c < l.length ∨ Lib.indexByte l c = -1 := by
  induction l with
  | nil => right; rfl
  | cons b l ih =>
    unfold Lib.indexByte
    simp only [List.length_cons]
    split
    · left; omega
    · split
      · right; rfl
      · rename_i h; simp at h; left; omega

theorem below_drewN (w : World) (n : Nat) : Below w.heap.size w (w.drewN n) := ⟨rfl, rfl, rfl, by simp, fun j hj => by simp⟩

theorem icut_any (s : ByteArray) (w : World) (hs : s.size ≤ 1000) :
    Calls Tryd.prog 37 #[.string s, .string (one 46)] w fun e w' => e = .returned (.tuple #[.string ⟨(cutP s.data.toList).1.toArray⟩, .string ⟨(cutP s.data.toList).2.toArray⟩, .bool (decide (0 ≤ Lib.indexByte s.data.toList 46))]) ∧ Below w.heap.size w w' := by
  obtain ⟨i, hi⟩ : ∃ i : Int, Lib.indexByte s.data.toList 46 = i := ⟨_, rfl⟩
  have hlt := indexByte_lt s.data.toList 46
  rw [hi, length_list] at hlt
  have hge := Lib.indexByte_ge s.data.toList 46
  rw [hi] at hge
  have HI := Lib.hid hi
  by_cases h0 : 0 ≤ i
  · obtain ⟨n, rfl⟩ : ∃ n : Nat, i = n := ⟨i.toNat, by omega⟩
    have HP : Hid (cutP s.data.toList = (s.data.toList.take n, s.data.toList.drop (n + 1))) := by show _ = _; unfold cutP; rw [hi, if_pos h0]; simp
    have HD : Hid (decide (0 ≤ Lib.indexByte s.data.toList 46) = true) := by show _ = _; rw [hi]; simp
    have e1 : Hid (s.extract 0 n = (⟨(s.data.toList.take n).toArray⟩ : ByteArray)) := bytes_ext (by rw [extract_list]; simp)
    have e2 : Hid (s.extract (n + 1) s.size = (⟨(s.data.toList.drop (n + 1)).toArray⟩ : ByteArray)) := bytes_ext (by
      rw [extract_list, List.take_of_length_le (by rw [List.length_drop, length_list]; exact Nat.le_refl _)])
    have hn : n < s.size := by omega
    have o1 : (one 46).size = 1 := rfl
    have hw : IntKind.i64.wrap ((n : Int) + 1) = (n : Int) + 1 := IntWalk.i64_in _ (by omega)
    have b1 : (0 : Int) ≤ (n : Int) := by omega
    have b2 : (n : Int) ≤ (s.size : Int) := by omega
    have b3 : (n : Int) + 1 ≤ (s.size : Int) := by omega
    clear hi hlt hge h0
    go_enter Tryd.func37, Tryd.ntmps37
    go_wp2_with fail
    refine (Tryd.stringslite_Index_one s 46 _).mono ?_
    rw [HI.out]
    rintro e w1 ⟨rfl, rfl⟩
    go_wp2_with fail
    go_quiet (fail)
    go_wp2_with fail
    go_ret3
    exact ⟨by rw [HP.out, HD.out, ← e1.out, ← e2.out]; rfl, below_drewN _ _⟩
  · obtain rfl : i = -1 := by omega
    have HP : Hid (cutP s.data.toList = (s.data.toList, [])) := by show _ = _; unfold cutP; rw [hi]; rfl
    have HD : Hid (decide (0 ≤ Lib.indexByte s.data.toList 46) = false) := by show _ = _; rw [hi]; rfl
    clear hi hlt hge h0
    go_enter Tryd.func37, Tryd.ntmps37
    go_wp2_with fail
    refine (Tryd.stringslite_Index_one s 46 _).mono ?_
    rw [HI.out]
    rintro e w1 ⟨rfl, rfl⟩
    go_wp2_with fail
    go_ret3
    exact ⟨by rw [HP.out, HD.out]; rfl, Below.refl _ _⟩

theorem cut_any (s A B : ByteArray) (b : Bool) (w : World) (hs : s.size ≤ 1000) (hA : (⟨(cutP s.data.toList).1.toArray⟩ : ByteArray) = A) (hB : (⟨(cutP s.data.toList).2.toArray⟩ : ByteArray) = B) (hb : decide (0 ≤ Lib.indexByte s.data.toList 46) = b) :
    Calls Tryd.prog 27 #[.string s, .string (one 46)] w fun e w' => e = .returned (.tuple #[.string A, .string B, .bool b]) ∧ Below w.heap.size w w' := by
  have HC := Lib.hid (icut_any s w hs)
  have HA := Lib.hid hA
  have HB := Lib.hid hB
  have Hb := Lib.hid hb
  clear hb hs hA hB
  go_enter Tryd.func27, Tryd.ntmps27
  go_wp2_with fail
  refine HC.out.mono ?_
  rw [HA.out, HB.out, Hb.out]
  rintro e w1 ⟨rfl, hb1⟩
  go_wp2_with fail
  go_ret3
  exact ⟨rfl, hb1⟩

theorem cutP_len (l : List UInt8) : (cutP l).1.length ≤ l.length ∧ (cutP l).2.length ≤ l.length := by
  unfold cutP
  split
  · simp; omega
  · simp

theorem rights_any (s : ByteArray) (w : World) :
    Calls Tryd.prog 29 #[.string s] w fun e w' => e = .returned (.int .u8 (rightsN s.data.toList)) ∧ w' = w := by
  obtain ⟨b0, hb0⟩ : ∃ b : Bool, decide (0 ≤ Lib.indexByte s.data.toList 114) = b := ⟨_, rfl⟩
  obtain ⟨b1, hb1⟩ : ∃ b : Bool, decide (0 ≤ Lib.indexByte s.data.toList 119) = b := ⟨_, rfl⟩
  obtain ⟨b2, hb2⟩ : ∃ b : Bool, decide (0 ≤ Lib.indexByte s.data.toList 115) = b := ⟨_, rfl⟩
  have H0 := Lib.hid hb0
  have H1 := Lib.hid hb1
  have H2 := Lib.hid hb2
  have HR : Hid (rightsN s.data.toList = (if b0 then 1 else 0) + (if b1 then 2 else 0) + (if b2 then 4 else 0)) := by
    show _ = _; unfold rightsN; rw [← hb0, ← hb1, ← hb2]; simp
  clear hb0 hb1 hb2
  have q1 : bits .or .u8 0 1 = 1 := by decide
  have q2 : bits .or .u8 0 2 = 2 := by decide
  have q3 : bits .or .u8 1 2 = 3 := by decide
  have q4 : bits .or .u8 0 4 = 4 := by decide
  have q5 : bits .or .u8 1 4 = 5 := by decide
  have q6 : bits .or .u8 2 4 = 6 := by decide
  have q7 : bits .or .u8 3 4 = 7 := by decide
  go_enter Tryd.func29, Tryd.ntmps29
  go_wp2_with fail
  go_loop [3, 4, 5] (fun x y i => ∃ k : Nat, k ≤ 3 ∧ i = .int .i64 k ∧ x = .int .u8 (((if 0 < k ∧ b0 = true then 1 else 0) + (if 1 < k ∧ b1 = true then 2 else 0) + (if 2 < k ∧ b2 = true then 4 else 0) : Nat) : Int)) (fun x y i => 3 - (intOf i).toNat)
  case atStart => exact ⟨0, by omega, rfl, by simp⟩
  case round =>
    obtain ⟨k, hk, rfl, rfl⟩ := hrel
    rcases (show k = 0 ∨ k = 1 ∨ k = 2 ∨ k = 3 from by omega) with rfl | rfl | rfl | rfl
    · cases b0
      all_goals
        go_wp2_with (first | (go_at_call 40; refine (letter_any 0 (by omega) _).mono ?_; rintro e w1 ⟨rfl, rfl⟩) | (go_at_call 39; refine (Tryd.strings_Contains_one s 114 _).mono ?_; rw [H0.out]; rintro e w1 ⟨rfl, rfl⟩))
        exact ⟨⟨1, by omega, rfl, by simp⟩, by simp [intOf]⟩
    · cases b0 <;> cases b1
      all_goals
        go_wp2_with (first | (go_at_call 40; refine (letter_any 1 (by omega) _).mono ?_; rintro e w1 ⟨rfl, rfl⟩) | (go_at_call 39; refine (Tryd.strings_Contains_one s 119 _).mono ?_; rw [H1.out]; rintro e w1 ⟨rfl, rfl⟩))
        exact ⟨⟨2, by omega, rfl, by simp⟩, by simp [intOf]⟩
    · cases b0 <;> cases b1 <;> cases b2
      all_goals
        go_wp2_with (first | (go_at_call 40; refine (letter_any 2 (by omega) _).mono ?_; rintro e w1 ⟨rfl, rfl⟩) | (go_at_call 39; refine (Tryd.strings_Contains_one s 115 _).mono ?_; rw [H2.out]; rintro e w1 ⟨rfl, rfl⟩))
        exact ⟨⟨3, by omega, rfl, by simp⟩, by simp [intOf]⟩
    · cases b0 <;> cases b1 <;> cases b2
      all_goals
        go_wp2_with fail
        go_ret
        exact ⟨ret_int (by rw [HR.out]; rfl), rfl⟩

end Go.Proofs.YtcfkaginjcgmhaaDoor
