/- The walk of HandleReads. -/
import Derived.Test.YtcfkaginjcgmhaaDoorRefs4
namespace Go.Proofs.YtcfkaginjcgmhaaDoor
open Go.RowKit
set_option maxRecDepth 100000
set_option maxHeartbeats 4000000

theorem reads_any (s : ByteArray) (w : World) (hs : s.size ≤ 1000) (htab : Tab w) (herr : Errs w) :
    Calls Tryd.prog 11 #[.string s] w fun e w' => e = .returned (.bool true) ∧ Below w.heap.size w w' := by
  have H1 := Lib.hid (read_any s w hs htab herr)
  have H2 := Lib.hid (fun w => rread_any s w hs)
  obtain ⟨o, ho⟩ : ∃ o, readZ s.data.toList = o := ⟨_, rfl⟩
  have HO := Lib.hid ho
  clear htab herr hs ho
  obtain ⟨T, G, R, E, hv4⟩ : ∃ T G R E : Int, readV o = .tuple #[hv T G R, .int .i64 E] := by
    rcases o with _ | ⟨t, g, r⟩
    · exact ⟨0, 0, 0, 7, rfl⟩
    · exact ⟨t, g, r, 0, rfl⟩
  have HV := Lib.hid hv4
  clear hv4
  go_enter Tryd.func11, Tryd.ntmps11
  go_wp2_with fail
  refine H1.out.mono ?_
  rw [HO.out, HV.out]
  rintro e w1 ⟨rfl, hb1⟩
  have HB1 := Lib.hid (Below.new hb1 (.cells #[.int .i64 T, .int .u32 G, .int .u8 R] 25))
  have HF1 := Lib.hid (Fresh.new w1 _ #[.int .i64 T, .int .u32 G, .int .u8 R] 25 rfl)
  clear hb1
  go_wp2_with fail
  refine (H2.out _).mono ?_
  rw [HO.out, HV.out]
  rintro e w2 ⟨rfl, hb2⟩
  have HB2 := Lib.hid (Below.step HB1.out hb2)
  have F2 := HF1.out.below hb2
  have l1 := F2.lt
  have c0 := F2.cell 0
  have c1 := F2.cell 1
  have c2 := F2.cell 2
  simp only [List.getElem?_toArray, List.getElem?_cons_zero, List.getElem?_cons_succ] at c0 c1 c2
  clear hb2 F2
  go_wp2_with fail
  go_ret
  exact ⟨rfl, Below.new HB2.out _⟩

theorem handleReads_walk (s : ByteArray) (w : World) (hw : Tab w ∧ Errs w) :
    Calls Tryd.prog 4 #[.string s] w fun e w' => e = .returned (.bool true) ∧ Below w.heap.size w w' := by
  have HT := Lib.hid hw.1
  have HE := Lib.hid hw.2
  clear hw
  rcases Nat.lt_or_ge 300 s.size with h | h
  · go_enter Tryd.func4, Tryd.ntmps4
    go_wp2_with fail
    refine (awake_any _ HT.out HE.out).mono ?_
    rintro e w1 ⟨rfl, hb1⟩
    go_wp2_with fail
    go_ret
    exact ⟨rfl, hb1⟩
  · have HS := Lib.hid (show s.size ≤ 1000 from by omega)
    have h' : ¬ 300 < s.size := by omega
    go_enter Tryd.func4, Tryd.ntmps4
    go_wp2_with fail
    refine (reads_any s _ HS.out HT.out HE.out).mono ?_
    rintro e w1 ⟨rfl, hb1⟩
    go_wp2_with fail
    refine (awake_any _ (HT.out.on hb1) (HE.out.on hb1)).mono ?_
    rintro e w2 ⟨rfl, hb2⟩
    go_wp2_with fail
    go_ret
    exact ⟨rfl, Below.step hb1 hb2⟩

end Go.Proofs.YtcfkaginjcgmhaaDoor
