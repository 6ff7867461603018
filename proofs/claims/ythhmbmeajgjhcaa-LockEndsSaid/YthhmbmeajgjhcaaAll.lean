/- A table of locks: a contract for each method, whatever its state; Copy. -/
import Derived.Test.YthhmbmeajgjhcaaUnl
import Derived.Laws.Externs
import Derived.MapKept
namespace Go.Proofs.Ythhmbmeajgjhcaa
open Go.RowKit
set_option maxRecDepth 100000
set_option maxHeartbeats 4000000

theorem add_any {W : World} {p a m : Nat} {s : Lk} (h : At W p a m s) (x g : Int) (hr : RefOk x g) :
    Calls Try.prog 13 #[.pointer (some ⟨p, 0, none⟩), refV x g] W fun e w' => e = .returned (.int .i64 (addS s x g).2) ∧ Turned [a, m] W w' ∧ At w' p a m (addS s x g).1 := by
  unfold addS
  split
  · rename_i h1
    cases hg : getW s.l x g with
    | some t => exact add_twice h x g hr h1 t hg
    | none => exact add_yes h x g hr h1 hg
  · rename_i h1
    exact add_arg h x g h1
theorem gone_any {W : World} {p a m : Nat} {s : Lk} {N : Int} (h : At W p a m s) (ho : s.Ok N) (hN : N ≤ 1000000) (x g : Int) (hr : RefOk x g) :
    Calls Try.prog 14 #[.pointer (some ⟨p, 0, none⟩), refV x g] W fun e w' => e = .returned (.int .i64 (goneS s x g).2) ∧ Turned [a, m] W w' ∧ At w' p a m (goneS s x g).1 := by
  unfold goneS
  cases hg : getW s.l x g with
  | none => exact gone_none h x g hr hg
  | some t => exact gone_some h x g hr t hg (ho.w t (mem_get hg).1) (by have := ho.h; omega)
theorem lock_any {W : World} {p a m : Nat} {s : Lk} {N : Int} (h : At W p a m s) (ho : s.Ok N) (hN : N ≤ 1000000) (x g w : Int) (hr : RefOk x g) :
    Calls Try.prog 16 #[.pointer (some ⟨p, 0, none⟩), refV x g, .int .u64 w] W fun e w' => e = .returned (.bool (lockB s x g w)) ∧ Turned [a, m] W w' ∧ At w' p a m (lockS s x g w) := by
  cases hc : (getW s.l x g).isSome && (zeroW (getW s.l x g) == w) with
  | false =>
    have e : lockB s x g w = false := by unfold lockB; rw [hc]; rfl
    unfold lockS
    rw [e, if_neg (by decide)]
    exact lock_false h x g w hr hc
  | true =>
    obtain ⟨t, hg⟩ : ∃ t, getW s.l x g = some t := by
      cases hg : getW s.l x g with
      | none => rw [hg] at hc; simp at hc
      | some t => exact ⟨t, rfl⟩
    have hw : t.w = w := by rw [hg] at hc; simpa [zeroW] using hc
    have h64 := ho.w t (mem_get hg).1
    have hh := ho.h
    have t0 := ho.t0
    have t1 := ho.t1
    have e : lockB s x g w = (w % 4 == 0) := by unfold lockB; rw [hc]; rfl
    unfold lockS
    by_cases h4 : w % 4 = 0
    · have e2 : (w % 4 == 0) = true := by simpa using h4
      rw [e, e2, if_pos rfl]
      refine lock_true h x g w hr hc true fun W hA => ?_
      rw [← hw]
      exact locklock_yes hA x g hr t hg h64 (by rw [hw]; exact h4) (by omega) (by omega)
    · have e2 : (w % 4 == 0) = false := by simpa using h4
      rw [e, e2, if_neg (by decide)]
      exact lock_true h x g w hr hc false fun W hA => locklock_no hA x g hr t hg h64 (by rw [hw]; exact h4)

theorem drop_any {W : World} {p a m : Nat} {s : Lk} {N : Int} (h : At W p a m s) (ho : s.Ok N) (hN : N ≤ 1000000) (x g : Int) (hr : RefOk x g) :
    Calls Try.prog 17 #[.pointer (some ⟨p, 0, none⟩), refV x g] W fun e w' => e = .returned (.int .i64 (relS (fun n => n - 1) s x g).2) ∧ Turned [a, m] W w' ∧ At w' p a m (relS (fun n => n - 1) s x g).1 := by
  have HU : Hid (∀ W, At W p a m s → Calls Try.prog 38 #[.pointer (some ⟨p, 0, none⟩), refV x g, .func (.func 39) #[] #[]] W fun e w' => e = .returned (.int .i64 (relS (fun n => n - 1) s x g).2) ∧ Turned [a, m] W w' ∧ At w' p a m (relS (fun n => n - 1) s x g).1) := by
    intro W hA
    refine unlock_any hA x g fun W b1 b2 hA hc => ?_
    unfold relS
    cases hg : getW s.l x g with
    | none => exact rel_none hA hc x g hr hg
    | some t =>
      have h64 := ho.w t (mem_get hg).1
      have hh := ho.h
      dsimp only
      by_cases h4 : t.w % 4 = 1
      · rw [if_pos h4]
        exact rel_ok1 hA hc (by simp) x g hr t hg (t.w - 1) (by omega) fun w => drop_yes t.w w h64 h4
      · rw [if_neg h4]
        exact rel_state hA hc (by simp) x g hr t hg fun w => drop_no t.w w h64 h4
  obtain ⟨r, hr'⟩ : ∃ r, relS (fun n => n - 1) s x g = r := ⟨_, rfl⟩
  rw [hr'] at HU ⊢
  obtain ⟨W1, hx⟩ := h.boxed x g
  have HX := Lib.hid hx
  have HW := Lib.hid hx.is
  obtain ⟨r0, r1⟩ := hx.ref
  clear h ho hN hr hr' hx
  go_enter Try.func17, Try.ntmps17
  go_upto_region 1 with fail
  rw [← HW.out]
  go_wp2_with fail
  refine (HU.out _ HX.out.at').mono ?_
  rintro e w2 ⟨rfl, ht2, ha2⟩
  have HT := Lib.hid ht2
  have HA := Lib.hid ha2
  clear ht2 ha2 r0 r1
  go_wp2_with fail
  go_ret
  exact ⟨rfl, (Turned.of_below HX.out.low).trans HT.out, HA.out⟩
theorem done_any {W : World} {p a m : Nat} {s : Lk} {N : Int} (h : At W p a m s) (ho : s.Ok N) (hN : N ≤ 1000000) (x g : Int) (hr : RefOk x g) :
    Calls Try.prog 18 #[.pointer (some ⟨p, 0, none⟩), refV x g] W fun e w' => e = .returned (.int .i64 (relS doneV s x g).2) ∧ Turned [a, m] W w' ∧ At w' p a m (relS doneV s x g).1 := by
  have HU : Hid (∀ W, At W p a m s → Calls Try.prog 38 #[.pointer (some ⟨p, 0, none⟩), refV x g, .func (.func 40) #[] #[]] W fun e w' => e = .returned (.int .i64 (relS doneV s x g).2) ∧ Turned [a, m] W w' ∧ At w' p a m (relS doneV s x g).1) := by
    intro W hA
    refine unlock_any hA x g fun W b1 b2 hA hc => ?_
    unfold relS
    cases hg : getW s.l x g with
    | none => exact rel_none hA hc x g hr hg
    | some t =>
      have h64 := ho.w t (mem_get hg).1
      have hh := ho.h
      dsimp only
      by_cases h4 : t.w % 4 = 1
      · rw [if_pos h4]
        exact rel_ok1 hA hc (by simp) x g hr t hg (doneV t.w) (by omega) fun w => done_yes t.w w h64 h4
      · rw [if_neg h4]
        exact rel_state hA hc (by simp) x g hr t hg fun w => done_no t.w w h64 h4
  obtain ⟨r, hr'⟩ : ∃ r, relS doneV s x g = r := ⟨_, rfl⟩
  rw [hr'] at HU ⊢
  obtain ⟨W1, hx⟩ := h.boxed x g
  have HX := Lib.hid hx
  have HW := Lib.hid hx.is
  obtain ⟨r0, r1⟩ := hx.ref
  clear h ho hN hr hr' hx
  go_enter Try.func18, Try.ntmps18
  go_upto_region 1 with fail
  rw [← HW.out]
  go_wp2_with fail
  refine (HU.out _ HX.out.at').mono ?_
  rintro e w2 ⟨rfl, ht2, ha2⟩
  have HT := Lib.hid ht2
  have HA := Lib.hid ha2
  clear ht2 ha2 r0 r1
  go_wp2_with fail
  go_ret
  exact ⟨rfl, (Turned.of_below HX.out.low).trans HT.out, HA.out⟩
theorem kill_any {W : World} {p a m : Nat} {s : Lk} {N : Int} (h : At W p a m s) (ho : s.Ok N) (hN : N ≤ 1000000) (x g : Int) (hr : RefOk x g) :
    Calls Try.prog 19 #[.pointer (some ⟨p, 0, none⟩), refV x g] W fun e w' => e = .returned (.int .i64 (relS killV s x g).2) ∧ Turned [a, m] W w' ∧ At w' p a m (relS killV s x g).1 := by
  have HU : Hid (∀ W, At W p a m s → Calls Try.prog 38 #[.pointer (some ⟨p, 0, none⟩), refV x g, .func (.func 41) #[] #[]] W fun e w' => e = .returned (.int .i64 (relS killV s x g).2) ∧ Turned [a, m] W w' ∧ At w' p a m (relS killV s x g).1) := by
    intro W hA
    refine unlock_any hA x g fun W b1 b2 hA hc => ?_
    unfold relS
    cases hg : getW s.l x g with
    | none => exact rel_none hA hc x g hr hg
    | some t =>
      have h64 := ho.w t (mem_get hg).1
      have hh := ho.h
      dsimp only
      by_cases h4 : t.w % 4 = 1
      · rw [if_pos h4]
        exact rel_ok1 hA hc (by simp) x g hr t hg (killV t.w) (by omega) fun w => kill_yes t.w w h64 h4
      · rw [if_neg h4]
        exact rel_state hA hc (by simp) x g hr t hg fun w => kill_no t.w w h64 h4
  obtain ⟨r, hr'⟩ : ∃ r, relS killV s x g = r := ⟨_, rfl⟩
  rw [hr'] at HU ⊢
  obtain ⟨W1, hx⟩ := h.boxed x g
  have HX := Lib.hid hx
  have HW := Lib.hid hx.is
  obtain ⟨r0, r1⟩ := hx.ref
  clear h ho hN hr hr' hx
  go_enter Try.func19, Try.ntmps19
  go_upto_region 1 with fail
  rw [← HW.out]
  go_wp2_with fail
  refine (HU.out _ HX.out.at').mono ?_
  rintro e w2 ⟨rfl, ht2, ha2⟩
  have HT := Lib.hid ht2
  have HA := Lib.hid ha2
  clear ht2 ha2 r0 r1
  go_wp2_with fail
  go_ret
  exact ⟨rfl, (Turned.of_below HX.out.low).trans HT.out, HA.out⟩

theorem run_clone {W : World} {r : Nat} {es : Array MapEntry} {c : Nat} (t : TypeId) (hb : W.heap[r]? = some (.map es c)) :
    (callFunc 60 #[.iface t (.map (some r))]).run Try.prog W = .ok (.value (.iface t (.map (some W.heap.size)))) (W.alloc (.map es c)) := by
  rw [run_callFunc_extern Try.func60 (by kernel_rfl) (by kernel_rfl) (by kernel_rfl) (e := Extern.MapsClone.clone) (by kernel_rfl)]
  have e : Extern.MapsClone.clone #[.iface t (.map (some r))] = (getObj r >>= fun o => match o with
      | .map entries clock => (newObj (.map entries clock) >>= fun n => pure (.iface t (.map (some n))))
      | _ => stuck "maps.clone: a map expected") := rfl
  rw [e]
  simp [MapKept.run_getObj_map hb, Result.andThen]

theorem run_mnil (W : World) (m : Nat) : (binOp .eql 59 (.map (some m)) (.map none)).run Try.prog W = .ok (.bool false) W := by kernel_rfl
theorem run_mas (W : World) (m : Nat) : (Instr.typeAssert (.iface 59 (.map (some m))) 20 59 false).run Try.prog W = .ok (.map (some m)) W := by kernel_rfl
theorem clone_any {W : World} {m : Nat} {l : List Wd} (h : MapAt W m l) :
    Calls Try.prog 42 #[.map (some m)] W fun e w' => e = .returned (.map (some W.heap.size)) ∧ Below W.heap.size W w' ∧ MapAt w' W.heap.size l := by
  obtain ⟨es, c, hb, hi⟩ := h
  have hm := run_mnil W m
  have ha := run_mas
  have hc := run_clone 59 hb
  go_enter Try.func42, Try.ntmps42
  go_wp2_with fail
  go_ret
  exact ⟨rfl, Below.new (Below.refl _ _) _, es, c, heap_alloc_new W _, hi⟩

theorem copy_any {W : World} {p a m : Nat} {s : Lk} (h : At W p a m s) :
    Calls Try.prog 23 #[.pointer (some ⟨p, 0, none⟩)] W fun e w' => ∃ p' a' m', W.heap.size ≤ p' ∧ W.heap.size ≤ a' ∧ W.heap.size ≤ m' ∧ e = .returned (.pointer (some ⟨p', 0, none⟩)) ∧ Below W.heap.size W w' ∧ At w' p' a' m' s := by
  have HI := Lib.hid (isNil_any h)
  have HC := Lib.hid (clone_any (W := W.drew) (m := m) (l := s.l) h.drew.hm)
  have HA := Lib.hid h
  have BD : Hid (Below W.heap.size W W.drew) := (Below.refl _ _).drew
  obtain ⟨c, c0, c1, c2⟩ := h.cells
  have KS : Hid (∀ W', Below W.heap.size W W' → W'.cell? ⟨p, 0, none⟩ = some (.pointer (some ⟨a, 0, none⟩)) ∧ W'.cell? ⟨a, 0, none⟩ = some (.map (some m)) ∧ W'.cell? ⟨a, 1, none⟩ = some (.int .i64 s.held) ∧ W'.cell? ⟨a, 2, none⟩ = some (.int .i64 s.taken)) := fun W' hb => (HA.out.below hb).cells
  clear h
  go_enter Try.func23, Try.ntmps23
  go_wp2_with fail
  refine HI.out.mono ?_
  rintro e w1 ⟨rfl, hw1⟩
  obtain rfl := hw1
  go_wp2_with fail
  go_region_held3 (fun W' => W'.cell? ⟨p, 0, none⟩ = some (.pointer (some ⟨a, 0, none⟩)) ∧ W'.cell? ⟨a, 0, none⟩ = some (.map (some m)) ∧ W'.cell? ⟨a, 1, none⟩ = some (.int .i64 s.held) ∧ W'.cell? ⟨a, 2, none⟩ = some (.int .i64 s.taken))
    (first | go_keep | exact KS.out _ hq2)
    (first
      | (go_at_call 42
         refine HC.out.mono ?_
         rintro e w2 ⟨rfl, hb2, hm2⟩
         have hq2 := Below.step BD.out hb2))
  all_goals
    have hs := hq2.size
    have hlm : w1.heap.size < w2.heap.size := hm2.lt
    have BE : Hid (Below w1.heap.size w1 w2 ∧ MapAt w2 w1.heap.size s.l) := ⟨hq2, hm2⟩
    clear hb2 hm2 c c0 c1 c2
    go_wp2_with fail
    go_ret
    refine ⟨w2.heap.size + 1, w2.heap.size, w1.heap.size, by omega, by omega, by omega, rfl, Below.new (Below.new BE.out.1 _) _, ?_, ?_, ?_, HA.out.uniq⟩
    · exact Fresh.new _ _ _ _ (by simp)
    · exact (Fresh.new _ _ _ _ rfl).alloc _
    · exact BE.out.2.turned (S := []) (.of_below (Below.new (Below.new (Below.refl _ _) _) _)) (by simp)

theorem run_mlen {W : World} {m : Nat} {l : List Wd} {es : Array MapEntry} {c : Nat} (h : MapIs l es) (hb : W.heap[m]? = some (.map es c)) (ty : TypeId) :
    (Builtin.len_ #[59] ty #[.map (some m)]).run Try.prog W = .ok (.int .i64 (l.length : Int)) W := by
  simp [Builtin.len_, run_underlying Try.underlying59, MapKept.run_getObj_map hb, Result.andThen, goInt, h.size]
theorem len_any {W : World} {p a m : Nat} {s : Lk} (h : At W p a m s) :
    Calls Try.prog 22 #[.pointer (some ⟨p, 0, none⟩)] W fun e w' => e = .returned (.int .i64 (s.l.length : Int)) ∧ w' = W := by
  have HI := Lib.hid (isNil_any h)
  obtain ⟨c, c0, c1, c2⟩ := h.cells
  obtain ⟨es, cc, hb, hi⟩ := h.hm
  have hlen := fun ty => run_mlen hi hb ty
  clear h hb hi
  go_enter Try.func22, Try.ntmps22
  go_wp2_with fail
  refine HI.out.mono ?_
  rintro e w1 ⟨rfl, rfl⟩
  go_wp2_with fail
  go_ret
  exact ⟨rfl, rfl⟩
end Go.Proofs.Ythhmbmeajgjhcaa
