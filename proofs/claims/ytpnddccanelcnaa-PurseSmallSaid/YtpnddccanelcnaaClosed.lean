/- A purse: closing a ticket. -/
import Derived.Test.YtpnddccanelcnaaPu
namespace Go.Proofs.Ytpnddccanelcnaa
open Go.RowKit
set_option maxRecDepth 100000
set_option maxHeartbeats 4000000

/-- The map of a purse's open tickets. -/
def MapAt (W : World) (m : Nat) (l : List Tk) : Prop := ∃ es c, W.heap[m]? = some (.map es c) ∧ MapIs l es
theorem MapAt.lt {W : World} {m : Nat} {l : List Tk} (h : MapAt W m l) : m < W.heap.size := by
  obtain ⟨es, c, h, _⟩ := h; exact (Array.getElem?_eq_some_iff.1 h).1
theorem MapAt.turned {S : List Nat} {W W' : World} {m : Nat} {l : List Tk} (h : MapAt W m l) (ht : Turned S W W') (hn : m ∉ S) : MapAt W' m l := by
  have hl := h.lt
  obtain ⟨es, c, h1, h2⟩ := h
  exact ⟨es, c, (ht.block m hl hn).trans h1, h2⟩
theorem MapAt.ne {W : World} {m p : Nat} {l : List Tk} {cs : Array Value} {t : TypeId} (h : MapAt W m l) (hf : Fresh W p cs t) : p ≠ m := by
  obtain ⟨es, c, h1, _⟩ := h
  rintro rfl
  unfold Fresh at hf
  rw [hf] at h1
  cases h1

theorem closed_any (s : Pu) (a m : Nat) (n : Int) (w : World) (h : Fresh w a (accCells s m) 60) (hm : MapAt w m s.tk) (hu : Uniq s.tk) :
    Calls Try.prog 47 #[.pointer (some ⟨a, 0, none⟩), .int .i64 n] w fun e w' => e = .returned (getV s.tk n) ∧ Turned [m] w w' ∧ MapAt w' m (delT s.tk n) := by
  have ham := hm.ne h
  have hl := h.lt
  have hml := hm.lt
  obtain ⟨es, c, hb, hi⟩ := hm
  obtain ⟨x, y, b, hv1⟩ : ∃ x y b, getV s.tk n = .tuple #[lim x y, .bool b] := by
    unfold getV
    cases getT s.tk n with
    | some t => exact ⟨t.k, t.b, true, rfl⟩
    | none => exact ⟨0, 0, false, rfl⟩
  -- the worlds
  have b1 : (w.alloc (.cells #[.int .u64 0, .int .u64 0] 24)).heap[m]? = some (.map es c) := (((Below.refl w.heap.size w).alloc (Nat.le_refl _) (.cells #[.int .u64 0, .int .u64 0] 24)).block m hml).trans hb
  have hlook := run_look (W := w.alloc (.cells #[.int .u64 0, .int .u64 0] 24)) hi hu b1 n
  rw [hv1] at hlook
  have B2 := (((Below.refl w.heap.size w).alloc (Nat.le_refl _) (.cells #[.int .u64 0, .int .u64 0] 24)).alloc (by simp) (.cells #[.int .u64 x, .int .u64 y] 24))
  obtain ⟨es', hi', hdel⟩ := run_del (W := (w.alloc (.cells #[.int .u64 0, .int .u64 0] 24)).alloc (.cells #[.int .u64 x, .int .u64 y] 24)) hi hu ((B2.block m hml).trans hb) n
  have R2 := ((Fresh.new w w.heap.size #[.int .u64 0, .int .u64 0] 24 rfl).alloc (.cells #[.int .u64 x, .int .u64 y] 24)).setObj (m := m) (by omega) (.map es' c)
  have X2 := (Fresh.new (w.alloc (.cells #[.int .u64 0, .int .u64 0] 24)) (w.heap.size + 1) #[.int .u64 x, .int .u64 y] 24 (by simp)).setObj (m := m) (by omega) (.map es' c)
  have HT2 := Lib.hid ((Turned.of_below (S := [m]) B2).setObj (m := m) (by simp) (.map es' c))
  have HA2 : Hid (MapAt (setObj ((w.alloc (.cells #[.int .u64 0, .int .u64 0] 24)).alloc (.cells #[.int .u64 x, .int .u64 y] 24)) m (.map es' c)) m (delT s.tk n)) := ⟨es', c, setObj_at (Nat.lt_of_lt_of_le hml B2.size) _, hi'⟩
  obtain ⟨W3, hW3⟩ : ∃ W3, W3 = setObj ((w.alloc (.cells #[.int .u64 0, .int .u64 0] 24)).alloc (.cells #[.int .u64 x, .int .u64 y] 24)) m (.map es' c) := ⟨_, rfl⟩
  rw [← hW3] at R2 X2 HT2 HA2 hdel
  have HR2 := Lib.hid R2
  have c6 := (acc_cells h).2.2.2.2.2.2.1
  have r0 := R2.cell 0
  have r1 := R2.cell 1
  have x0 := X2.cell 0
  have x1 := X2.cell 1
  simp only [List.getElem?_toArray, List.getElem?_cons_zero, List.getElem?_cons_succ] at r0 r1 x0 x1
  have z0 := R2.thawed 0
  have z1 := R2.thawed 1
  have HV := Lib.hid hv1
  clear hv1 b1 B2 R2 X2 hi hi' hb hu h hW3 ham
  go_enter Try.func47, Try.ntmps47
  go_wp2_with fail
  obtain ⟨W9, hW9⟩ : ∃ W9, W9 = ((W3.setCell ⟨w.heap.size, 0, none⟩ (.int .u64 x)).setCell ⟨w.heap.size, 1, none⟩ (.int .u64 y)) := ⟨_, rfl⟩
  rw [← hW9]
  have R9 : Fresh W9 w.heap.size #[.int .u64 x, .int .u64 y] 24 := by rw [hW9]; exact (HR2.out.set 0 _).set 1 _
  have T9 : Turned [m] w W9 := by rw [hW9]; exact (HT2.out.setCell (.inr (Nat.le_refl _)) _ _).setCell (.inr (Nat.le_refl _)) _ _
  have M9 : MapAt W9 m (delT s.tk n) := by
    obtain ⟨e1, c1, h1, h2⟩ := HA2.out
    refine ⟨e1, c1, ?_, h2⟩
    have hmw : m ≠ w.heap.size := by omega
    rw [hW9, Below.heap_setCell _ ⟨w.heap.size, 1, none⟩ _ m hmw, Below.heap_setCell _ ⟨w.heap.size, 0, none⟩ _ m hmw]
    exact h1
  clear hW9 r0 r1 x0 x1 z0 z1
  have d0 := R9.cell 0
  have d1 := R9.cell 1
  simp only [List.getElem?_toArray, List.getElem?_cons_zero, List.getElem?_cons_succ] at d0 d1
  refine bodyPost_ret (v := .tuple #[lim x y, .bool b]) ?_ rfl ⟨by rw [HV.out], T9, M9⟩
  simp [results, Try.results47, go_sem, d0, d1]

end Go.Proofs.Ytpnddccanelcnaa
