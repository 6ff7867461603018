/- The map of values: what a look, a change and a removal make of it. -/
import Derived.Test.YtcpmnkihhenbgaaRowS
import Derived.Maps.Own
import Derived.Maps.OwnOps
namespace Go.Proofs.Ytcpmnkihhenbgaa
open Go.RowKit Go.Maps
set_option maxRecDepth 100000

/-- A key and its value. -/
abbrev Pr := ByteArray × ByteArray
def Pr.e (t : Pr) : Value × Value := (.string t.1, .string t.2)
def MapIs (l : List Pr) (es : Array MapEntry) : Prop := es.toList.map (fun e => (e.key, e.val)) = l.map Pr.e
def Uniq (l : List Pr) : Prop := (l.map Prod.fst).Nodup
def getT (l : List Pr) (n : ByteArray) : Option Pr := l.find? (fun t => decide (t.1 = n))
def delT (l : List Pr) (n : ByteArray) : List Pr := l.filter (fun t => !decide (t.1 = n))
def getV (l : List Pr) (n : ByteArray) : Value := match getT l n with | some t => .tuple #[.string t.2, .bool true] | none => .tuple #[.string ⟨#[]⟩, .bool false]
theorem MapIs.at {l : List Pr} {es : Array MapEntry} (h : MapIs l es) {j : Nat} {e : MapEntry} (he : es.toList[j]? = some e) : ∃ t, l[j]? = some t ∧ e.key = (.string t.1) ∧ e.val = (.string t.2) := by
  have h1 : (es.toList.map (fun e => (e.key, e.val)))[j]? = some (e.key, e.val) := by rw [List.getElem?_map, he]; rfl
  rw [show es.toList.map (fun e => (e.key, e.val)) = l.map Pr.e from h, List.getElem?_map] at h1
  obtain ⟨t, ht, h2⟩ := Option.map_eq_some_iff.1 h1
  simp only [Pr.e, Prod.mk.injEq] at h2
  exact ⟨t, ht, h2.1.symm, h2.2.symm⟩
theorem MapIs.keys {l : List Pr} {es : Array MapEntry} (h : MapIs l es) : ∀ x ∈ es.toList, MapKept.IsKey .string x.key := by
  intro x hx
  obtain ⟨j, hj⟩ := List.getElem?_of_mem hx
  obtain ⟨t, _, hk, _⟩ := h.at hj
  rw [hk]; trivial
theorem MapIs.size {l : List Pr} {es : Array MapEntry} (h : MapIs l es) : es.size = l.length := by
  have := congrArg List.length (show es.toList.map (fun e => (e.key, e.val)) = l.map Pr.e from h)
  simpa using this

theorem map_erase {α β : Type} (f : α → β) : ∀ (l : List α) (j : Nat), (l.eraseIdx j).map f = (l.map f).eraseIdx j
  | [], _ => rfl
  | _ :: _, 0 => rfl
  | x :: l, j + 1 => by simp [map_erase f l j]
theorem find_at : ∀ (l : List Pr) (n : ByteArray) (j : Nat) (t : Pr), Uniq l → l[j]? = some t → t.1 = n → getT l n = some t ∧ l.eraseIdx j = delT l n
  | [], _, _, _, _, h, _ => by simp at h
  | x :: l, n, 0, t, hu, h, hn => by
    simp at h
    subst h
    subst hn
    refine ⟨by simp [getT], ?_⟩
    have hnot : ∀ y ∈ l, y.1 ≠ x.1 := by
      intro y hy e
      have := (List.nodup_cons.1 (show (x.1 :: l.map Prod.fst).Nodup from hu)).1
      exact this (by rw [← e]; exact List.mem_map_of_mem hy)
    rw [List.eraseIdx_cons_zero]
    unfold delT
    rw [List.filter_cons_of_neg (by simp)]
    exact (List.filter_eq_self.2 (fun y hy => by simpa using hnot y hy)).symm
  | x :: l, n, j + 1, t, hu, h, hn => by
    have hu' := List.nodup_cons.1 (show (x.1 :: l.map Prod.fst).Nodup from hu)
    have h' : l[j]? = some t := by simpa using h
    obtain ⟨a, b⟩ := find_at l n j t hu'.2 h' hn
    have hx : x.1 ≠ n := by
      intro e
      refine hu'.1 ?_
      rw [e, ← hn]
      exact List.mem_map_of_mem (List.mem_of_getElem? h')
    refine ⟨?_, ?_⟩
    · unfold getT at a ⊢
      rw [List.find?_cons_of_neg (by simpa using hx)]
      exact a
    · rw [List.eraseIdx_cons_succ, b]
      unfold delT
      rw [List.filter_cons_of_pos (by simpa using hx)]

theorem find_map {l : List Pr} {es : Array MapEntry} (h : MapIs l es) (hu : Uniq l) (n : ByteArray) :
    (getT l n = none ∧ delT l n = l ∧ Instr.findNow .string (.string n) es.toList 0 = some none) ∨
    ∃ t j, getT l n = some t ∧ t.1 = n ∧ l.eraseIdx j = delT l n ∧ Instr.findNow .string (.string n) es.toList 0 = some (some (j, (.string t.2))) := by
  rcases MapKept.findNow_spec (d := .string) (k := .string n) trivial es.toList 0 h.keys with ⟨h1, h2⟩ | ⟨j, e, h1, h2, h3⟩
  · left
    have hno : ∀ t ∈ l, t.1 ≠ n := by
      intro t ht e
      obtain ⟨j, hj⟩ := List.getElem?_of_mem ht
      have hlt : j < es.toList.length := by
        have := (List.getElem?_eq_some_iff.1 hj).1
        have hs := h.size
        simpa [hs] using this
      obtain ⟨t', ht', hk, _⟩ := h.at (j := j) (e := es.toList[j]) (by simp)
      rw [hj] at ht'
      cases ht'
      exact h2 es.toList[j] (List.getElem_mem hlt) (by rw [hk, e])
    refine ⟨?_, ?_, h1⟩
    · unfold getT
      rw [List.find?_eq_none]
      intro t ht
      simpa using hno t ht
    · unfold delT
      exact List.filter_eq_self.2 (fun t ht => by simpa using hno t ht)
  · right
    obtain ⟨t, ht, hk, hv⟩ := h.at h2
    rw [h3] at hk
    have hn : t.1 = n := by
      simp only [Value.string.injEq] at hk
      exact hk.symm
    obtain ⟨a, b⟩ := find_at l n j t hu ht hn
    exact ⟨t, j, a, hn, b, by rw [h1, hv, Nat.zero_add]⟩

/-- The object of a block that is a map, changed. -/
def setObj (W : World) (m : Nat) (o : Obj) : World := { heap := W.heap.setIfInBounds m o, tape := W.tape, drawn := W.drawn, os := W.os, output := W.output }

section
variable {l : List Pr} {es : Array MapEntry} {c m : Nat} {W : World}
theorem run_look (h : MapIs l es) (hu : Uniq l) (hb : W.heap[m]? = some (.map es c)) (n : ByteArray) :
    (Instr.lookup 68 (.map (some m)) (.string n) true).run Try.prog W = .ok (getV l n) W := by
  have hk : Try.prog.underlying 9 = some .string := Try.underlying9
  have hc : (Instr.checkKey es.isEmpty 10000 9 (.string n)).run Try.prog W = .ok () W := MapKept.run_checkKey hk (show MapKept.IsKey .string (.string n) from trivial) _ 9999
  rcases find_map h hu n with ⟨h1, _, h2⟩ | ⟨t, j, h1, _, _, h2⟩
  · have hz : (zeroValue 9).run Try.prog W = .ok ((.string ⟨#[]⟩)) W := by kernel_rfl
    unfold getV
    rw [h1]
    simp [Instr.lookup, run_underlying Try.underlying68, MapKept.run_getObj_map hb, hc, MapKept.run_findKey hk h2, Result.andThen, hz]
  · unfold getV
    rw [h1]
    simp [Instr.lookup, run_underlying Try.underlying68, MapKept.run_getObj_map hb, hc, MapKept.run_findKey hk h2, Result.andThen]

theorem run_del (h : MapIs l es) (hu : Uniq l) (hb : W.heap[m]? = some (.map es c)) (n : ByteArray) :
    ∃ es', MapIs (delT l n) es' ∧ ∀ ty : TypeId, (Builtin.delete_ #[68, 9] ty #[.map (some m), .string n]).run Try.prog W = .ok (.tuple #[]) (setObj W m (.map es' c)) := by
  have hk : Try.prog.underlying 9 = some .string := Try.underlying9
  have hc : (Instr.checkKey es.isEmpty 10000 9 (.string n)).run Try.prog W = .ok () W := MapKept.run_checkKey hk (show MapKept.IsKey .string (.string n) from trivial) _ 9999
  rcases find_map h hu n with ⟨_, h1, h2⟩ | ⟨t, j, _, _, h1, h2⟩
  · refine ⟨es, by rw [h1]; exact h, fun ty => ?_⟩
    simp [Builtin.delete_, run_underlying Try.underlying68, MapKept.run_getObj_map hb, hc, MapKept.run_findKey hk h2, MapKept.run_setObj_map _ hb, Result.andThen, setObj]
  · refine ⟨es.eraseIdxIfInBounds j, ?_, ?_⟩
    · unfold MapIs at h ⊢
      rw [Array.toList_eraseIdxIfInBounds, ← h1, map_erase, map_erase, h]
    · intro ty
      simp [Builtin.delete_, run_underlying Try.underlying68, MapKept.run_getObj_map hb, hc, MapKept.run_findKey hk h2, MapKept.run_setObj_map _ hb, Result.andThen, setObj]

theorem run_put (h : MapIs l es) (hu : Uniq l) (hb : W.heap[m]? = some (.map es c)) (n k : ByteArray) (hn : getT l n = none) :
    ∃ es', MapIs (l ++ [(n, k)]) es' ∧ (Instr.mapUpdate 68 (.map (some m)) (.string n) (.string k)).run Try.prog W = .ok () (setObj W m (.map es' (c + 1))) := by
  have hk : Try.prog.underlying 9 = some .string := Try.underlying9
  have hc : (Instr.checkKey false 10000 9 (.string n)).run Try.prog W = .ok () W := MapKept.run_checkKey hk (show MapKept.IsKey .string (.string n) from trivial) _ 9999
  rcases find_map h hu n with ⟨_, _, h2⟩ | ⟨t, j, h1, _, _, _⟩
  · refine ⟨es.push { key := .string n, val := .string k, born := c }, ?_, ?_⟩
    · unfold MapIs at h ⊢
      rw [Array.toList_push, List.map_append, List.map_append, h]
      rfl
    · simp [Instr.mapUpdate, run_underlying Try.underlying68, MapKept.run_getObj_map hb, hc, MapKept.run_findKey hk h2, MapKept.run_setObj_map _ hb, Result.andThen, setObj]
  · rw [hn] at h1; cases h1

theorem run_mlen (h : MapIs l es) (hb : W.heap[m]? = some (.map es c)) (ty : TypeId) :
    (Builtin.len_ #[68] ty #[.map (some m)]).run Try.prog W = .ok (.int .i64 (l.length : Int)) W := by
  simp [Builtin.len_, run_underlying Try.underlying68, MapKept.run_getObj_map hb, Result.andThen, goInt, h.size]
end


theorem Fresh.setObj {W : World} {p m : Nat} {cs : Array Value} {t : TypeId} (h : Fresh W p cs t) (hn : p ≠ m) (o : Obj) : Fresh (setObj W m o) p cs t := by
  unfold Fresh Go.Proofs.Ytcpmnkihhenbgaa.setObj at *
  show (W.heap.setIfInBounds m o)[p]? = _
  rw [Array.getElem?_setIfInBounds, if_neg (fun e => hn e.symm)]
  exact h
theorem Turned.setObj {S : List Nat} {W W' : World} (h : Turned S W W') {m : Nat} (hm : m ∈ S) (o : Obj) : Turned S W (setObj W' m o) := by
  refine ⟨h.os, h.tape, h.output, by show _ ≤ (W'.heap.setIfInBounds m o).size; rw [Array.size_setIfInBounds]; exact h.size, fun k hk hn => ?_⟩
  show (W'.heap.setIfInBounds m o)[k]? = _
  rw [Array.getElem?_setIfInBounds, if_neg (by rintro rfl; exact hn hm)]
  exact h.block k hk hn
theorem setObj_at {W : World} {m : Nat} (h : m < W.heap.size) (o : Obj) : (setObj W m o).heap[m]? = some o := by
  show (W.heap.setIfInBounds m o)[m]? = _
  rw [Array.getElem?_setIfInBounds, if_pos rfl, if_pos h]

end Go.Proofs.Ytcpmnkihhenbgaa
