/- A table of locks: Add. -/
import Derived.Test.YthhmbmeajgjhcaaLk
namespace Go.Proofs.Ythhmbmeajgjhcaa
open Go.RowKit
set_option maxRecDepth 100000
set_option maxHeartbeats 4000000

theorem setObj_at {W : World} {m : Nat} (h : m < W.heap.size) (o : Obj) : (setObj W m o).heap[m]? = some o := by
  show (W.heap.setIfInBounds m o)[m]? = _
  rw [Array.getElem?_setIfInBounds, if_pos rfl, if_pos h]
theorem Fresh.setObj {W : World} {p m : Nat} {cs : Array Value} {t : TypeId} (h : Fresh W p cs t) (hn : p ≠ m) (o : Obj) : Fresh (setObj W m o) p cs t := by
  unfold Fresh Go.Proofs.Ythhmbmeajgjhcaa.setObj at *
  show (W.heap.setIfInBounds m o)[p]? = _
  rw [Array.getElem?_setIfInBounds, if_neg (fun e => hn e.symm)]
  exact h
theorem Turned.setObj {S : List Nat} {W W' : World} (h : Turned S W W') {m : Nat} (hm : m ∈ S) (o : Obj) : Turned S W (setObj W' m o) := by
  refine ⟨h.os, h.tape, h.output, by show _ ≤ (W'.heap.setIfInBounds m o).size; rw [Array.size_setIfInBounds]; exact h.size, fun k hk hn => ?_⟩
  show (W'.heap.setIfInBounds m o)[k]? = _
  rw [Array.getElem?_setIfInBounds, if_neg (by rintro rfl; exact hn hm)]
  exact h.block k hk hn
theorem MapAt.ne {W : World} {m p : Nat} {l : List Wd} {cs : Array Value} {t : TypeId} (h : MapAt W m l) (hf : Fresh W p cs t) : p ≠ m := by
  rintro rfl
  obtain ⟨es, c, hb, _⟩ := h
  unfold Fresh at hf
  rw [hf] at hb
  cases hb
theorem is_mem {l : List Wd} {s g : Int} (h : getW l s g = none) : ∀ t ∈ l, ¬ (t.s = s ∧ t.g = g) := by
  intro t ht e
  unfold getW at h
  rw [List.find?_eq_none] at h
  exact h t ht ((is_iff t s g).2 e)
theorem uniq_put {l : List Wd} (h : Uniq l) (s g w : Int) : Uniq (putW l s g w) := by
  unfold putW
  split
  · unfold Uniq
    rw [List.pairwise_map]
    refine h.imp ?_
    intro a b hab
    split <;> split <;> exact hab
  · rename_i hn
    have h0 : getW l s g = none := by simpa using hn
    unfold Uniq
    rw [List.pairwise_append]
    refine ⟨h, List.pairwise_singleton _ _, fun a ha b hb => ?_⟩
    simp at hb
    subst hb
    exact is_mem h0 a ha
theorem uniq_del {l : List Wd} (h : Uniq l) (s g : Int) : Uniq (delW l s g) := h.sublist List.filter_sublist
end Go.Proofs.Ythhmbmeajgjhcaa
