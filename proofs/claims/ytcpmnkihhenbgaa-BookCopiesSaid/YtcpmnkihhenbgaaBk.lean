/- The book's pairs, in the order of their keys. -/
import Derived.Test.YtcpmnkihhenbgaaMapS
import Derived.Test.YtcpmnkihhenbgaaVar
import Derived.Test.YtcpmnkihhenbgaaDelK
import Derived.Test.YtcpmnkihhenbgaaSearch
namespace Go.Proofs.Ytcpmnkihhenbgaa
open Go.RowKit
set_option maxRecDepth 100000

def keys (l : List Pr) : List ByteArray := l.map Prod.fst
def SrtP (l : List Pr) : Prop := SrtK (keys l)
def dropP (x : ByteArray) (l : List Pr) : List Pr := delT l x
def insP (x y : ByteArray) (l : List Pr) : List Pr := l.take (atK x (keys l)) ++ (x, y) :: l.drop (atK x (keys l))
def putP (x y : ByteArray) (l : List Pr) : List Pr := insP x y (dropP x l)
def lenP (l : List Pr) : Nat := (l.map fun t => t.1.size + t.2.size).sum
theorem keys_len (l : List Pr) : (keys l).length = l.length := by simp [keys]
theorem srt_uniq {l : List Pr} (h : SrtP l) : Uniq l := by
  unfold Uniq List.Nodup
  exact List.Pairwise.imp (fun hab => kl_ne hab) h
theorem mem_drop {x : ByteArray} {l : List Pr} {z : Pr} : z ∈ dropP x l ↔ z ∈ l ∧ z.1 ≠ x := by
  unfold dropP delT
  rw [List.mem_filter]
  simp
theorem mem_ins {x y : ByteArray} {l : List Pr} {z : Pr} : z ∈ insP x y l ↔ z = (x, y) ∨ z ∈ l := by
  unfold insP
  rw [List.mem_append, List.mem_cons]
  constructor
  · rintro (h | h | h)
    · exact .inr (List.mem_of_mem_take h)
    · exact .inl h
    · exact .inr (List.mem_of_mem_drop h)
  · rintro (h | h)
    · exact .inr (.inl h)
    · rw [← List.take_append_drop (atK x (keys l)) l, List.mem_append] at h
      rcases h with h | h
      · exact .inl h
      · exact .inr (.inr h)
theorem mem_put {x y : ByteArray} {l : List Pr} {z : Pr} : z ∈ putP x y l ↔ z = (x, y) ∨ (z ∈ l ∧ z.1 ≠ x) := by
  unfold putP
  rw [mem_ins, mem_drop]
theorem keys_ins (x y : ByteArray) (l : List Pr) : keys (insP x y l) = (keys l).take (atK x (keys l)) ++ x :: (keys l).drop (atK x (keys l)) := by
  unfold insP keys
  simp [List.map_take, List.map_drop]
theorem keys_drop (x : ByteArray) (l : List Pr) : keys (dropP x l) = (keys l).filter (fun k => !decide (k = x)) := by
  unfold dropP delT keys
  rw [List.filter_map]
  rfl
theorem drop_srt {x : ByteArray} {l : List Pr} (h : SrtP l) : SrtP (dropP x l) := by
  unfold SrtP at h ⊢
  rw [keys_drop]
  exact List.Pairwise.filter _ h
theorem not_mem_drop (x : ByteArray) (l : List Pr) : x ∉ keys (dropP x l) := by
  rw [keys_drop]
  simp
theorem ins_srtK {x : ByteArray} {ks : List ByteArray} (h : SrtK ks) (hx : x ∉ ks) : SrtK (ks.take (atK x ks) ++ x :: ks.drop (atK x ks)) := by
  have hlow : ∀ k ∈ ks.take (atK x ks), kl k x = true := by
    intro k hk
    obtain ⟨t, ht⟩ := List.getElem?_of_mem hk
    have hl := (List.getElem?_eq_some_iff.1 ht).1
    have hl2 : t < atK x ks := by simp at hl; omega
    rw [List.getElem?_take_of_lt hl2] at ht
    exact atK_below ks x k t hl2 ht
  have hhigh : ∀ k ∈ ks.drop (atK x ks), kl x k = true := by
    intro k hk
    obtain ⟨t, ht⟩ := List.getElem?_of_mem hk
    rw [List.getElem?_drop] at ht
    have h1 := atK_above ks x k _ h (Nat.le_add_right _ _) ht
    cases e : kl x k
    · exact absurd (kl_tri h1 e ▸ List.mem_of_getElem? ht) hx
    · rfl
  have hs : SrtK (ks.take (atK x ks) ++ ks.drop (atK x ks)) := by rw [List.take_append_drop]; exact h
  unfold SrtK at hs ⊢
  rw [List.pairwise_append] at hs ⊢
  refine ⟨hs.1, List.pairwise_cons.2 ⟨hhigh, hs.2.1⟩, fun a ha b hb => ?_⟩
  rcases List.mem_cons.1 hb with rfl | hb
  · exact hlow a ha
  · exact hs.2.2 a ha b hb
theorem ins_srt {x y : ByteArray} {l : List Pr} (h : SrtP l) (hx : x ∉ keys l) : SrtP (insP x y l) := by
  unfold SrtP
  rw [keys_ins]
  exact ins_srtK h hx
theorem put_srt {x y : ByteArray} {l : List Pr} (h : SrtP l) : SrtP (putP x y l) := ins_srt (drop_srt h) (not_mem_drop x l)
theorem eraseK : ∀ {ks : List ByteArray} {x : ByteArray}, SrtK ks → x ∈ ks → ks.take (atK x ks) ++ ks.drop (atK x ks + 1) = ks.filter (fun k => !decide (k = x))
  | [], _, _, h => by simp at h
  | k :: ks, x, hs, h => by
    have hs' := List.pairwise_cons.1 hs
    rw [atK_cons]
    by_cases hk : kl k x = true
    · rw [if_pos hk]
      have hne := kl_ne hk
      rw [List.take_succ_cons, List.drop_succ_cons, List.cons_append, List.filter_cons_of_pos (by simpa using hne)]
      rw [eraseK hs'.2 (by rcases List.mem_cons.1 h with h | h; exact absurd h.symm hne; exact h)]
    · rw [if_neg hk]
      obtain rfl : x = k := by
        rcases List.mem_cons.1 h with h | h
        · exact h
        · exact absurd (hs'.1 x h) hk
      rw [List.filter_cons_of_neg (by simp)]
      simp only [List.take_zero, List.nil_append, Nat.zero_add, List.drop_succ_cons, List.drop_zero]
      exact (List.filter_eq_self.2 (fun y hy => by simpa using (kl_ne (hs'.1 y hy)).symm)).symm
theorem filterK_none {ks : List ByteArray} {x : ByteArray} (h : x ∉ ks) : ks.filter (fun k => !decide (k = x)) = ks :=
  List.filter_eq_self.2 (fun y hy => by
    have : y ≠ x := by rintro rfl; exact h hy
    simpa using this)
theorem drop_none {x : ByteArray} {l : List Pr} (h : getT l x = none) : dropP x l = l := by
  unfold getT at h
  rw [List.find?_eq_none] at h
  unfold dropP delT
  exact List.filter_eq_self.2 (fun t ht => by simpa using h t ht)
theorem get_mem {x : ByteArray} {l : List Pr} {t : Pr} (h : getT l x = some t) : t ∈ l ∧ t.1 = x := by
  unfold getT at h
  exact ⟨List.mem_of_find?_eq_some h, by simpa using List.find?_some h⟩
theorem get_of_mem {x y : ByteArray} {l : List Pr} (hu : Uniq l) (h : (x, y) ∈ l) : getT l x = some (x, y) := by
  obtain ⟨j, hj⟩ := List.getElem?_of_mem h
  exact (find_at l x j (x, y) hu hj rfl).1
theorem get_none_iff {x : ByteArray} {l : List Pr} : getT l x = none ↔ x ∉ keys l := by
  unfold getT keys
  rw [List.find?_eq_none]
  simp only [List.mem_map]
  constructor
  · rintro h ⟨t, ht, rfl⟩; exact h t ht (by simp)
  · intro h t ht e; exact h ⟨t, ht, by simpa using e⟩
theorem get_same {ms l : List Pr} (hu : Uniq ms) (_ : Uniq l) (hm : ∀ z, z ∈ ms ↔ z ∈ l) (x : ByteArray) : getT ms x = getT l x := by
  cases h : getT l x with
  | none =>
    rw [get_none_iff] at h ⊢
    intro hx
    obtain ⟨t, ht, rfl⟩ := List.mem_map.1 hx
    exact h (List.mem_map_of_mem ((hm t).1 ht))
  | some t =>
    obtain ⟨h1, rfl⟩ := get_mem h
    exact get_of_mem hu ((hm _).2 h1)
theorem lenP_drop : ∀ {l : List Pr} {x y : ByteArray}, Uniq l → getT l x = some (x, y) → lenP l = lenP (dropP x l) + (x.size + y.size) ∧ l.length = (dropP x l).length + 1
  | [], _, _, _, h => by simp [getT] at h
  | t :: l, x, y, hu, h => by
    have hu' := List.nodup_cons.1 (show (t.1 :: l.map Prod.fst).Nodup from hu)
    by_cases e : t.1 = x
    · have h1 : t = (x, y) := by
        unfold getT at h
        rw [List.find?_cons_of_pos (by simpa using e)] at h
        simpa using h
      subst h1
      have h2 : dropP x ((x, y) :: l) = l := by
        unfold dropP delT
        rw [List.filter_cons_of_neg (by simp)]
        refine List.filter_eq_self.2 (fun z hz => ?_)
        have : z.1 ≠ x := fun e => hu'.1 (show x ∈ l.map Prod.fst from by rw [← e]; exact List.mem_map_of_mem hz)
        simpa using this
      rw [h2]
      refine ⟨?_, rfl⟩
      unfold lenP
      simp only [List.map_cons, List.sum_cons]
      omega
    · have h1 : getT l x = some (x, y) := by
        unfold getT at h ⊢
        rwa [List.find?_cons_of_neg (by simpa using e)] at h
      have h2 : dropP x (t :: l) = t :: dropP x l := by
        unfold dropP delT
        rw [List.filter_cons_of_pos (by simpa using e)]
      obtain ⟨a, b⟩ := lenP_drop hu'.2 h1
      rw [h2]
      unfold lenP at a ⊢
      simp only [List.map_cons, List.sum_cons, List.length_cons]
      omega
theorem lenP_ins (x y : ByteArray) (l : List Pr) : lenP (insP x y l) = lenP l + (x.size + y.size) ∧ (insP x y l).length = l.length + 1 := by
  have e : lenP l = lenP (l.take (atK x (keys l))) + lenP (l.drop (atK x (keys l))) := by
    conv => lhs; rw [← List.take_append_drop (atK x (keys l)) l]
    unfold lenP
    rw [List.map_append, List.sum_append]
  have e2 : l.length = (l.take (atK x (keys l))).length + (l.drop (atK x (keys l))).length := by
    conv => lhs; rw [← List.take_append_drop (atK x (keys l)) l]
    rw [List.length_append]
  unfold insP
  refine ⟨?_, by rw [List.length_append, List.length_cons]; omega⟩
  rw [e]
  unfold lenP
  rw [List.map_append, List.sum_append, List.map_cons, List.sum_cons]
  show _ + (x.size + y.size + _) = _
  omega
/-- No text is too long. -/
def TxtP (l : List Pr) : Prop := ∀ t ∈ l, t.1.size ≤ 16 ∧ t.2.size ≤ 32
theorem lenP_le : ∀ {l : List Pr}, TxtP l → lenP l ≤ l.length * 48
  | [], _ => by simp [lenP]
  | t :: l, h => by
    have h1 := h t (by simp)
    have h2 := lenP_le (l := l) (fun z hz => h z (by simp [hz]))
    unfold lenP at h2 ⊢
    simp only [List.map_cons, List.sum_cons, List.length_cons]
    omega
theorem drop_len (x : ByteArray) (l : List Pr) : (dropP x l).length ≤ l.length := by unfold dropP delT; exact List.length_filter_le _ _
theorem drop_txt {x : ByteArray} {l : List Pr} (h : TxtP l) : TxtP (dropP x l) := fun t ht => h t (mem_drop.1 ht).1
theorem put_txt {x y : ByteArray} {l : List Pr} (h : TxtP l) (hx : x.size ≤ 16) (hy : y.size ≤ 32) : TxtP (putP x y l) := by
  intro t ht
  rcases mem_put.1 ht with rfl | ht
  · exact ⟨hx, hy⟩
  · exact h t ht.1
end Go.Proofs.Ytcpmnkihhenbgaa
