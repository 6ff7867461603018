/- The map of words: what a look, a change and a removal make of it. The keys are structs. -/
import Derived.Test.YthhmbmeajgjhcaaKit
import Derived.WideKeyMaps
import Derived.DeepKeys3
namespace Go.Proofs.Ythhmbmeajgjhcaa
open Go.RowKit
set_option maxRecDepth 100000

abbrev refV (s g : Int) : Value := .agg #[.int .i64 s, .int .u32 g]
structure Wd where
  s : Int
  g : Int
  w : Int
def Wd.e (t : Wd) : Value × Value := (refV t.s t.g, .int .u64 t.w)
def Wd.is (t : Wd) (s g : Int) : Bool := t.s == s && t.g == g
def RefOk (s g : Int) : Prop := (Lit.int .i64 s).wf = true ∧ (Lit.int .u32 g).wf = true
def MapIs (l : List Wd) (es : Array MapEntry) : Prop := es.toList.map (fun e => (e.key, e.val)) = l.map Wd.e ∧ ∀ t ∈ l, RefOk t.s t.g
def getW (l : List Wd) (s g : Int) : Option Wd := l.find? (fun t => t.is s g)

theorem refLaw : WideMaps.KeyLaw Try.prog 33 := deep_law (m := 3) (by omega) (by kernel_rfl) (by kernel_rfl) (by kernel_rfl)
theorem litsRef (s g : Int) (h : RefOk s g) : Try.prog.keyLits (Try.prog.types.size + 1) 33 [.int .i64 s, .int .u32 g] = some [.int .i64 s, .int .u32 g] := by
  obtain ⟨h1, h2⟩ := h
  have c1 : Try.prog.cellsOf 3 = 1 := by kernel_rfl
  have c2 : Try.prog.cellsOf 31 = 1 := by kernel_rfl
  have c3 : Try.prog.cellsOf 33 = 2 := by kernel_rfl
  have n0 : Try.prog.types.size = (Try.prog.types.size - 1) + 1 := by kernel_rfl
  rw [n0]
  unfold Program.keyLits
  rw [Try.underlying33]
  simp only []
  unfold Program.keyLits
  simp [Try.underlying3, Try.underlying31, c1, c2, c3, h1, h2]
theorem keyRef (s g : Int) (h : RefOk s g) : ∃ l, keyOf Try.prog 33 (refV s g) = some l := by
  unfold keyOf
  rw [Try.underlying33]
  have h1 : Try.prog.keyType 33 = true := by kernel_rfl
  have h2 : (refV s g).formed Try.prog 33 = true := by kernel_rfl
  have h3 := litsRef s g h
  have h4 : (refV s g).cells.toList = [.int .i64 s, .int .u32 g] := rfl
  simp only [h1, h2, h4, h3, Bool.and_self, if_true, Option.map_some]
  exact ⟨_, rfl⟩
theorem is_iff (t : Wd) (s g : Int) : t.is s g = true ↔ t.s = s ∧ t.g = g := by simp [Wd.is]
theorem refV_inj {s g s' g' : Int} (h : refV s g = refV s' g') : s = s' ∧ g = g' := by simpa using h
theorem MapIs.at {l : List Wd} {es : Array MapEntry} (h : MapIs l es) {j : Nat} {e : MapEntry} (he : es.toList[j]? = some e) : ∃ t, l[j]? = some t ∧ e.key = refV t.s t.g ∧ e.val = .int .u64 t.w := by
  have h1 : (es.toList.map (fun e => (e.key, e.val)))[j]? = some (e.key, e.val) := by rw [List.getElem?_map, he]; rfl
  rw [h.1, List.getElem?_map] at h1
  obtain ⟨t, ht, h2⟩ := Option.map_eq_some_iff.1 h1
  simp only [Wd.e, Prod.mk.injEq] at h2
  exact ⟨t, ht, h2.1.symm, h2.2.symm⟩
theorem MapIs.size {l : List Wd} {es : Array MapEntry} (h : MapIs l es) : es.size = l.length := by
  have := congrArg List.length h.1
  simpa using this
theorem MapIs.keys {l : List Wd} {es : Array MapEntry} (h : MapIs l es) : ∀ e ∈ es.toList, ∃ x, keyOf Try.prog 33 e.key = some x := by
  intro e he
  obtain ⟨j, hj⟩ := List.getElem?_of_mem he
  obtain ⟨t, ht, hk, _⟩ := h.at hj
  rw [hk]
  exact keyRef _ _ (h.2 t (List.mem_of_getElem? ht))
/-- What a look for a key comes to: there is none, or it stands at number j. -/
theorem find_run {l : List Wd} {es : Array MapEntry} (h : MapIs l es) (s g : Int) (hr : RefOk s g) (w : World) :
    (getW l s g = none ∧ (Instr.findKey 33 (refV s g) es.toList).run Try.prog w = .ok none w) ∨
    ∃ t j, l[j]? = some t ∧ t.s = s ∧ t.g = g ∧ (Instr.findKey 33 (refV s g) es.toList).run Try.prog w = .ok (some (j, .int .u64 t.w)) w := by
  obtain ⟨x, hx⟩ := keyRef s g hr
  rcases refLaw.find w hx es.toList h.keys with ⟨h1, h2⟩ | ⟨j, e, h1, h2, h3⟩
  · refine .inl ⟨?_, h1⟩
    unfold getW
    rw [List.find?_eq_none]
    intro t ht hh
    obtain ⟨a, b⟩ := (is_iff t s g).1 hh
    obtain ⟨j, hj⟩ := List.getElem?_of_mem ht
    have hlt : j < es.toList.length := by
      have := (List.getElem?_eq_some_iff.1 hj).1
      have hs := h.size
      simpa [hs] using this
    obtain ⟨t', ht', hk, _⟩ := h.at (j := j) (e := es.toList[j]) (by simp)
    rw [hj] at ht'
    cases ht'
    exact h2 es.toList[j] (List.getElem_mem hlt) (by rw [hk, a, b])
  · obtain ⟨t, ht, hk, hv⟩ := h.at h2
    rw [h3] at hk
    obtain ⟨a, b⟩ := refV_inj hk
    exact .inr ⟨t, j, ht, a.symm, b.symm, by rw [h1, hv]⟩
def Uniq (l : List Wd) : Prop := l.Pairwise (fun a b => ¬ (a.s = b.s ∧ a.g = b.g))
def delW (l : List Wd) (s g : Int) : List Wd := l.filter (fun t => !t.is s g)
theorem get_at : ∀ (l : List Wd) (j : Nat) (t : Wd), Uniq l → l[j]? = some t → getW l t.s t.g = some t
  | [], _, _, _, h => by simp at h
  | x :: l, 0, t, _, h => by
    simp at h
    subst h
    unfold getW
    rw [List.find?_cons_of_pos (by simp [Wd.is])]
  | x :: l, j + 1, t, hu, h => by
    have h' : l[j]? = some t := by simpa using h
    obtain ⟨h1, h2⟩ := List.pairwise_cons.1 hu
    have hne := h1 t (List.mem_of_getElem? h')
    unfold getW
    rw [List.find?_cons_of_neg (by intro e; exact hne ((is_iff x t.s t.g).1 e))]
    exact get_at l j t h2 h'
def zeroW (o : Option Wd) : Int := match o with | some t => t.w | none => 0
def lookV (c : Bool) (o : Option Wd) : Value := if c then .tuple #[.int .u64 (zeroW o), .bool o.isSome] else .int .u64 (zeroW o)
theorem run_look {l : List Wd} {es : Array MapEntry} {cl m : Nat} {W : World} (h : MapIs l es) (hu : Uniq l) (hb : W.heap[m]? = some (.map es cl)) (s g : Int) (hr : RefOk s g) (c : Bool) :
    (Instr.lookup 59 (.map (some m)) (refV s g) c).run Try.prog W = .ok (lookV c (getW l s g)) W := by
  obtain ⟨x, hx⟩ := keyRef s g hr
  have hc := refLaw.check W es.isEmpty hx
  have hz : (zeroValue 35).run Try.prog W = .ok (.int .u64 0) W := by kernel_rfl
  rcases find_run h s g hr W with ⟨h1, h2⟩ | ⟨t, j, h1, rfl, rfl, h2⟩
  · rw [h1]
    cases c <;> simp [Instr.lookup, run_underlying Try.underlying59, MapKept.run_getObj_map hb, hc, h2, Result.andThen, hz, lookV, zeroW]
  · rw [get_at l j t hu h1]
    cases c <;> simp [Instr.lookup, run_underlying Try.underlying59, MapKept.run_getObj_map hb, hc, h2, Result.andThen, lookV, zeroW]
/-- The object of a block that is a map, changed. -/
def setObj (W : World) (m : Nat) (o : Obj) : World := { heap := W.heap.setIfInBounds m o, tape := W.tape, drawn := W.drawn, os := W.os, output := W.output }
def putW (l : List Wd) (s g w : Int) : List Wd := if (getW l s g).isSome then l.map (fun t => if t.is s g then { t with w := w } else t) else l ++ [⟨s, g, w⟩]
theorem modify_map : ∀ (l : List Wd) (j : Nat) (t : Wd) (w : Int), Uniq l → l[j]? = some t → l.modify j (fun u => { u with w := w }) = l.map (fun u => if u.is t.s t.g then { u with w := w } else u)
  | [], _, _, _, _, h => by simp at h
  | x :: l, 0, t, w, hu, h => by
    simp at h
    subst h
    obtain ⟨h1, _⟩ := List.pairwise_cons.1 hu
    have hm : l.map (fun u => if u.is x.s x.g then { u with w := w } else u) = l := by
      conv => rhs; rw [← List.map_id l]
      refine List.map_congr_left fun u hh => ?_
      have : ¬ u.is x.s x.g = true := fun e => h1 u hh (by obtain ⟨a, b⟩ := (is_iff u x.s x.g).1 e; exact ⟨a.symm, b.symm⟩)
      simp [this]
    rw [List.map_cons, hm]
    simp [Wd.is]
  | x :: l, j + 1, t, w, hu, h => by
    have h' : l[j]? = some t := by simpa using h
    obtain ⟨h1, h2⟩ := List.pairwise_cons.1 hu
    have hne : ¬ x.is t.s t.g = true := fun e => h1 t (List.mem_of_getElem? h') ((is_iff x t.s t.g).1 e)
    rw [List.modify_succ_cons, List.map_cons, if_neg hne, modify_map l j t w h2 h']
theorem erase_del : ∀ (l : List Wd) (j : Nat) (t : Wd), Uniq l → l[j]? = some t → l.eraseIdx j = delW l t.s t.g
  | [], _, _, _, h => by simp at h
  | x :: l, 0, t, hu, h => by
    simp at h
    subst h
    obtain ⟨h1, _⟩ := List.pairwise_cons.1 hu
    rw [List.eraseIdx_cons_zero]
    unfold delW
    rw [List.filter_cons_of_neg (by simp [Wd.is])]
    exact (List.filter_eq_self.2 (fun u hh => by
      have : ¬ u.is x.s x.g = true := fun e => h1 u hh (by obtain ⟨a, b⟩ := (is_iff u x.s x.g).1 e; exact ⟨a.symm, b.symm⟩)
      simpa using this)).symm
  | x :: l, j + 1, t, hu, h => by
    have h' : l[j]? = some t := by simpa using h
    obtain ⟨h1, h2⟩ := List.pairwise_cons.1 hu
    have hne : ¬ x.is t.s t.g = true := fun e => h1 t (List.mem_of_getElem? h') ((is_iff x t.s t.g).1 e)
    rw [List.eraseIdx_cons_succ, erase_del l j t h2 h']
    unfold delW
    rw [List.filter_cons_of_pos (by simpa using hne)]
theorem map_erase {α β : Type} (f : α → β) : ∀ (l : List α) (j : Nat), (l.eraseIdx j).map f = (l.map f).eraseIdx j
  | [], _ => rfl
  | _ :: _, 0 => rfl
  | x :: l, j + 1 => by simp [map_erase f l j]
theorem run_del {l : List Wd} {es : Array MapEntry} {cl m : Nat} {W : World} (h : MapIs l es) (hu : Uniq l) (hb : W.heap[m]? = some (.map es cl)) (s g : Int) (hr : RefOk s g) :
    ∃ es', MapIs (delW l s g) es' ∧ ∀ ty : TypeId, (Builtin.delete_ #[59, 33] ty #[.map (some m), refV s g]).run Try.prog W = .ok (.tuple #[]) (setObj W m (.map es' cl)) := by
  obtain ⟨x, hx⟩ := keyRef s g hr
  have hc := refLaw.check W es.isEmpty hx
  rcases find_run h s g hr W with ⟨h1, h2⟩ | ⟨t, j, h1, rfl, rfl, h2⟩
  · have e : delW l s g = l := by
      unfold delW
      unfold getW at h1
      rw [List.find?_eq_none] at h1
      exact List.filter_eq_self.2 (fun u hh => by simpa using h1 u hh)
    refine ⟨es, by rw [e]; exact h, fun ty => ?_⟩
    simp [Builtin.delete_, run_underlying Try.underlying59, MapKept.run_getObj_map hb, hc, h2, MapKept.run_setObj_map _ hb, Result.andThen, setObj]
  · refine ⟨es.eraseIdxIfInBounds j, ⟨?_, fun t ht => h.2 t (List.mem_filter.1 ht).1⟩, ?_⟩
    · rw [Array.toList_eraseIdxIfInBounds, ← erase_del l j t hu h1, map_erase, map_erase, h.1]
    · intro ty
      simp [Builtin.delete_, run_underlying Try.underlying59, MapKept.run_getObj_map hb, hc, h2, MapKept.run_setObj_map _ hb, Result.andThen, setObj]
theorem run_put {l : List Wd} {es : Array MapEntry} {cl m : Nat} {W : World} (h : MapIs l es) (hu : Uniq l) (hb : W.heap[m]? = some (.map es cl)) (s g w : Int) (hr : RefOk s g) :
    ∃ es' cl', MapIs (putW l s g w) es' ∧ (Instr.mapUpdate 59 (.map (some m)) (refV s g) (.int .u64 w)).run Try.prog W = .ok () (setObj W m (.map es' cl')) := by
  obtain ⟨x, hx⟩ := keyRef s g hr
  have hc := refLaw.check W false hx
  have hs := refLaw.stays W hx
  rcases find_run h s g hr W with ⟨h1, h2⟩ | ⟨t, j, h1, rfl, rfl, h2⟩
  · refine ⟨es.push { key := refV s g, val := .int .u64 w, born := cl }, cl + 1, ⟨?_, ?_⟩, ?_⟩
    · unfold putW
      rw [h1]
      simp only [Option.isSome_none, Bool.false_eq_true, if_false]
      rw [Array.toList_push, List.map_append, List.map_append, h.1]
      rfl
    · unfold putW
      rw [h1]
      simp only [Option.isSome_none, Bool.false_eq_true, if_false]
      intro t ht
      rcases List.mem_append.1 ht with ht | ht
      · exact h.2 t ht
      · simp at ht; subst ht; exact hr
    · simp [Instr.mapUpdate, run_underlying Try.underlying59, MapKept.run_getObj_map hb, hc, h2, MapKept.run_setObj_map _ hb, Result.andThen, setObj]
  · obtain ⟨e, he⟩ : ∃ e, es[j]? = some e := by
      have h3 : j < es.size := by rw [h.size]; exact (List.getElem?_eq_some_iff.1 h1).1
      exact ⟨es[j], Array.getElem?_eq_getElem h3⟩
    have hk : e.key = refV t.s t.g := by
      obtain ⟨t', ht', hk, _⟩ := h.at (j := j) (e := e) (by simpa using he)
      rw [h1] at ht'
      cases ht'
      exact hk
    refine ⟨es.modify j fun e => { e with key := refV t.s t.g, val := .int .u64 w }, cl, ⟨?_, ?_⟩, ?_⟩
    · unfold putW
      rw [get_at l j t hu h1]
      simp only [Option.isSome_some, if_true]
      rw [← modify_map l j t w hu h1]
      apply List.ext_getElem?
      intro i
      have hi := congrArg (fun q => q[i]?) h.1
      simp only [List.getElem?_map, Array.getElem?_toList, Array.getElem?_modify, List.getElem?_modify] at hi ⊢
      by_cases hij : j = i
      · subst hij
        rw [he] at hi ⊢
        rw [h1] at hi ⊢
        simp [Wd.e]
      · simp only [hij, if_false]
        cases hq : es[i]? with
        | none => rw [hq] at hi; cases hl : l[i]? with
          | none => simp
          | some u => rw [hl] at hi; simp at hi
        | some q => rw [hq] at hi; cases hl : l[i]? with
          | none => rw [hl] at hi; simp at hi
          | some u => rw [hl] at hi; simpa using hi
    · unfold putW
      rw [get_at l j t hu h1]
      simp only [Option.isSome_some, if_true]
      intro u hh
      obtain ⟨u', hu', rfl⟩ := List.mem_map.1 hh
      split
      · exact h.2 u' hu'
      · exact h.2 u' hu'
    · simp [Instr.mapUpdate, run_underlying Try.underlying59, MapKept.run_getObj_map hb, hc, h2, he, hk, hs, MapKept.run_setObj_map _ hb, Result.andThen, setObj]
end Go.Proofs.Ythhmbmeajgjhcaa
