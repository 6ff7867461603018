/- A table of locks: Begin. -/
import Derived.Test.YthhmbmeajgjhcaaLk
import Derived.Test.YthhmbmeajgjhcaaTurns
namespace Go.Proofs.Ythhmbmeajgjhcaa
open Go.RowKit
set_option maxRecDepth 100000
set_option maxHeartbeats 4000000

def stN (n : Int) : Int := if (n / 2 % 2 != 0) = true then 2 else if (n % 2 != 0) = true then 1 else 0
def stOf (o : Option Wd) : Int := match o with | some t => stN t.w | none => 2
theorem begin_any {W : World} {p a m : Nat} {s : Lk} (h : At W p a m s) (x g : Int) (hr : RefOk x g) (hw : ∀ t ∈ s.l, W64 t.w) :
    Calls Try.prog 12 #[.pointer (some ⟨p, 0, none⟩), refV x g] W fun e w' => e = .returned (.tuple #[.int .u64 (zeroW (getW s.l x g)), .int .i64 (stOf (getW s.l x g))]) ∧ Below W.heap.size W w' := by
  have B1 := Below.new (Below.refl W.heap.size W) (.cells #[.int .i64 x, .int .u32 g] 33)
  have F1 := Fresh.new W W.heap.size #[.int .i64 x, .int .u32 g] 33 rfl
  have A1 := h.below B1
  obtain ⟨W1, hW1⟩ : ∃ W1, W1 = W.alloc (.cells #[.int .i64 x, .int .u32 g] 33) := ⟨_, rfl⟩
  rw [← hW1] at B1 F1 A1
  have HI := Lib.hid (isNil_any A1)
  have A1d : At W1.drew p a m s := ⟨A1.hp.drew, A1.ha.drew, by obtain ⟨es, c, hb, hi⟩ := A1.hm; exact ⟨es, c, hb, hi⟩, A1.uniq⟩
  have hl := A1d.look x g hr
  have hl0 := A1.look x g hr
  obtain ⟨c, c0, c1, c2⟩ := A1.cells
  have r0 := F1.cell 0
  have r1 := F1.cell 1
  simp only [List.getElem?_toArray, List.getElem?_cons_zero, List.getElem?_cons_succ] at r0 r1
  have HB := Lib.hid B1
  have HW := Lib.hid hW1
  have hwo : ∀ t, getW s.l x g = some t → W64 t.w := fun t ht => hw t (List.mem_of_find?_eq_some ht)
  obtain ⟨o, ho⟩ : ∃ o, o = getW s.l x g := ⟨_, rfl⟩
  rw [← ho] at hl hl0 hwo ⊢
  clear h B1 F1 A1 A1d hW1 ho hw
  cases o with
  | none =>
    simp only [zeroW, Option.isSome_none] at hl hl0
    show Calls _ _ _ _ fun e w' => e = .returned (.tuple #[.int .u64 0, .int .i64 2]) ∧ _
    clear hwo
    go_enter Try.func12, Try.ntmps12
    go_upto_region 1 with fail
    rw [← HW.out]
    go_wp2_with fail
    refine HI.out.mono ?_
    rintro e w1 ⟨rfl, rfl⟩
    go_wp2_with fail
    go_region
    go_wp2_with fail
    go_ret2
    exact ⟨rfl, HB.out.drew⟩
  | some t =>
    have hw64 := hwo t rfl
    obtain ⟨n, hn⟩ : ∃ n, t.w = n := ⟨_, rfl⟩
    simp only [zeroW, Option.isSome_some, hn] at hl hl0
    rw [hn] at hw64
    show Calls _ _ _ _ fun e w' => e = .returned (.tuple #[.int .u64 t.w, .int .i64 (stN t.w)]) ∧ _
    rw [hn]
    have HD := Lib.hid (fun w => dead_any n w hw64)
    have HL := Lib.hid (fun w => locked_any n w hw64)
    have HS : Hid (stN n = if (n / 2 % 2 != 0) = true then 2 else if (n % 2 != 0) = true then 1 else 0) := rfl
    obtain ⟨d, hd⟩ : ∃ d, (n / 2 % 2 != 0) = d := ⟨_, rfl⟩
    obtain ⟨l, hl'⟩ : ∃ l, (n % 2 != 0) = l := ⟨_, rfl⟩
    rw [hd] at HD HS
    rw [hl'] at HL HS
    rw [HS.out]
    clear hwo hw64 hn hd hl' HS
    cases d <;> cases l
    all_goals
      go_enter Try.func12, Try.ntmps12
      go_upto_region 1 with fail
      rw [← HW.out]
      go_wp2_with fail
      refine HI.out.mono ?_
      rintro e w1 ⟨rfl, rfl⟩
      go_wp2_with fail
      go_region
      go_wp2_with fail
      refine (HD.out _).mono ?_
      rintro e w2 ⟨rfl, hb2⟩
      have HB2 := Lib.hid (Below.step HB.out.drew hb2)
      clear hb2
      go_wp2_with fail
      first
        | (go_ret2; exact ⟨rfl, HB2.out⟩)
        | (refine (HL.out _).mono ?_
           rintro e w3 ⟨rfl, hb3⟩
           have HB3 := Lib.hid (Below.step HB2.out hb3)
           clear hb3
           go_wp2_with fail
           go_ret2
           exact ⟨rfl, HB3.out⟩)
end Go.Proofs.Ythhmbmeajgjhcaa
