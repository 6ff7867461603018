/- Texts of stage 12, merged: Bk, Keys, Store, Art, Art2. -/
import Derived.Test.YtfffifmpfkkgbaaGRw
import Derived.Test.YtfffifmpfkkgbaaGCd
import Derived.Deep.RegionHeld3
import Derived.Deep.MidRow
import Derived.Laws.Externs
import Derived.MapKept
/- The book's pairs, in the order of their keys. -/
namespace Go.Proofs.Ytfffifmpfkkgbaa
open Go.RowKit
set_option maxRecDepth 100000

def keys (l : List Pr) : List ByteArray := l.map Prod.fst
def SrtP (l : List Pr) : Prop := SrtK (keys l)
def dropP (x : ByteArray) (l : List Pr) : List Pr := delT l x
def insP (x y : ByteArray) (l : List Pr) : List Pr := l.take (atK x (keys l)) ++ (x, y) :: l.drop (atK x (keys l))
def putP (x y : ByteArray) (l : List Pr) : List Pr := insP x y (dropP x l)
theorem keys_len (l : List Pr) : (keys l).length = l.length := by simp [keys]
theorem srt_uniq {l : List Pr} (h : SrtP l) : Uniq l := by
  unfold Uniq List.Nodup
  exact List.Pairwise.imp (fun hab => kl_ne hab) h
theorem mem_drop {x : ByteArray} {l : List Pr} {z : Pr} : z ∈ dropP x l ↔ z ∈ l ∧ z.1 ≠ x := by
  unfold dropP delT
  rw [List.mem_filter]
  simp
theorem mem_ins {x y : ByteArray} {l : List Pr} {z : Pr} : z ∈ insP x y l ↔ z = (x, y) ∨ z ∈ l := by
  unfold insP
  rw [List.mem_append, List.mem_cons]
  constructor
  · rintro (h | h | h)
    · exact .inr (List.mem_of_mem_take h)
    · exact .inl h
    · exact .inr (List.mem_of_mem_drop h)
  · rintro (h | h)
    · exact .inr (.inl h)
    · rw [← List.take_append_drop (atK x (keys l)) l, List.mem_append] at h
      rcases h with h | h
      · exact .inl h
      · exact .inr (.inr h)
theorem mem_put {x y : ByteArray} {l : List Pr} {z : Pr} : z ∈ putP x y l ↔ z = (x, y) ∨ (z ∈ l ∧ z.1 ≠ x) := by
  unfold putP
  rw [mem_ins, mem_drop]
theorem keys_ins (x y : ByteArray) (l : List Pr) : keys (insP x y l) = (keys l).take (atK x (keys l)) ++ x :: (keys l).drop (atK x (keys l)) := by
  unfold insP keys
  simp [List.map_take, List.map_drop]
theorem keys_drop (x : ByteArray) (l : List Pr) : keys (dropP x l) = (keys l).filter (fun k => !decide (k = x)) := by
  unfold dropP delT keys
  rw [List.filter_map]
  rfl
theorem drop_srt {x : ByteArray} {l : List Pr} (h : SrtP l) : SrtP (dropP x l) := by
  unfold SrtP at h ⊢
  rw [keys_drop]
  exact List.Pairwise.filter _ h
theorem not_mem_drop (x : ByteArray) (l : List Pr) : x ∉ keys (dropP x l) := by
  rw [keys_drop]
  simp
theorem ins_srtK {x : ByteArray} {ks : List ByteArray} (h : SrtK ks) (hx : x ∉ ks) : SrtK (ks.take (atK x ks) ++ x :: ks.drop (atK x ks)) := by
  have hlow : ∀ k ∈ ks.take (atK x ks), kl k x = true := by
    intro k hk
    obtain ⟨t, ht⟩ := List.getElem?_of_mem hk
    have hl := (List.getElem?_eq_some_iff.1 ht).1
    have hl2 : t < atK x ks := by simp at hl; omega
    rw [List.getElem?_take_of_lt hl2] at ht
    exact atK_below ks x k t hl2 ht
  have hhigh : ∀ k ∈ ks.drop (atK x ks), kl x k = true := by
    intro k hk
    obtain ⟨t, ht⟩ := List.getElem?_of_mem hk
    rw [List.getElem?_drop] at ht
    have h1 := atK_above ks x k _ h (Nat.le_add_right _ _) ht
    cases e : kl x k
    · exact absurd (kl_tri h1 e ▸ List.mem_of_getElem? ht) hx
    · rfl
  have hs : SrtK (ks.take (atK x ks) ++ ks.drop (atK x ks)) := by rw [List.take_append_drop]; exact h
  unfold SrtK at hs ⊢
  rw [List.pairwise_append] at hs ⊢
  refine ⟨hs.1, List.pairwise_cons.2 ⟨hhigh, hs.2.1⟩, fun a ha b hb => ?_⟩
  rcases List.mem_cons.1 hb with rfl | hb
  · exact hlow a ha
  · exact hs.2.2 a ha b hb
theorem ins_srt {x y : ByteArray} {l : List Pr} (h : SrtP l) (hx : x ∉ keys l) : SrtP (insP x y l) := by
  unfold SrtP
  rw [keys_ins]
  exact ins_srtK h hx
theorem put_srt {x y : ByteArray} {l : List Pr} (h : SrtP l) : SrtP (putP x y l) := ins_srt (drop_srt h) (not_mem_drop x l)
theorem eraseK : ∀ {ks : List ByteArray} {x : ByteArray}, SrtK ks → x ∈ ks → ks.take (atK x ks) ++ ks.drop (atK x ks + 1) = ks.filter (fun k => !decide (k = x))
  | [], _, _, h => by simp at h
  | k :: ks, x, hs, h => by
    have hs' := List.pairwise_cons.1 hs
    rw [atK_cons]
    by_cases hk : kl k x = true
    · rw [if_pos hk]
      have hne := kl_ne hk
      rw [List.take_succ_cons, List.drop_succ_cons, List.cons_append, List.filter_cons_of_pos (by simpa using hne)]
      rw [eraseK hs'.2 (by rcases List.mem_cons.1 h with h | h; exact absurd h.symm hne; exact h)]
    · rw [if_neg hk]
      obtain rfl : x = k := by
        rcases List.mem_cons.1 h with h | h
        · exact h
        · exact absurd (hs'.1 x h) hk
      rw [List.filter_cons_of_neg (by simp)]
      simp only [List.take_zero, List.nil_append, Nat.zero_add, List.drop_succ_cons, List.drop_zero]
      exact (List.filter_eq_self.2 (fun y hy => by simpa using (kl_ne (hs'.1 y hy)).symm)).symm
theorem filterK_none {ks : List ByteArray} {x : ByteArray} (h : x ∉ ks) : ks.filter (fun k => !decide (k = x)) = ks :=
  List.filter_eq_self.2 (fun y hy => by
    have : y ≠ x := by rintro rfl; exact h hy
    simpa using this)
theorem drop_none {x : ByteArray} {l : List Pr} (h : getT l x = none) : dropP x l = l := by
  unfold getT at h
  rw [List.find?_eq_none] at h
  unfold dropP delT
  exact List.filter_eq_self.2 (fun t ht => by simpa using h t ht)
theorem get_mem {x : ByteArray} {l : List Pr} {t : Pr} (h : getT l x = some t) : t ∈ l ∧ t.1 = x := by
  unfold getT at h
  exact ⟨List.mem_of_find?_eq_some h, by simpa using List.find?_some h⟩
theorem get_of_mem {x y : ByteArray} {l : List Pr} (hu : Uniq l) (h : (x, y) ∈ l) : getT l x = some (x, y) := by
  obtain ⟨j, hj⟩ := List.getElem?_of_mem h
  exact (find_at l x j (x, y) hu hj rfl).1
theorem get_none_iff {x : ByteArray} {l : List Pr} : getT l x = none ↔ x ∉ keys l := by
  unfold getT keys
  rw [List.find?_eq_none]
  simp only [List.mem_map]
  constructor
  · rintro h ⟨t, ht, rfl⟩; exact h t ht (by simp)
  · intro h t ht e; exact h ⟨t, ht, by simpa using e⟩
theorem get_same {ms l : List Pr} (hu : Uniq ms) (_ : Uniq l) (hm : ∀ z, z ∈ ms ↔ z ∈ l) (x : ByteArray) : getT ms x = getT l x := by
  cases h : getT l x with
  | none =>
    rw [get_none_iff] at h ⊢
    intro hx
    obtain ⟨t, ht, rfl⟩ := List.mem_map.1 hx
    exact h (List.mem_map_of_mem ((hm t).1 ht))
  | some t =>
    obtain ⟨h1, rfl⟩ := get_mem h
    exact get_of_mem hu ((hm _).2 h1)
theorem drop_len (x : ByteArray) (l : List Pr) : (dropP x l).length ≤ l.length := by unfold dropP delT; exact List.length_filter_le _ _
/-- A code, as the layer code says. -/
def CodeP (x : ByteArray) : Prop := Cd.isCode x.data.toList = true
def TxtP (l : List Pr) : Prop := ∀ t ∈ l, CodeP t.1 ∧ t.2.size ≤ 32
theorem drop_txt {x : ByteArray} {l : List Pr} (h : TxtP l) : TxtP (dropP x l) := fun t ht => h t (mem_drop.1 ht).1
theorem put_txt {x y : ByteArray} {l : List Pr} (h : TxtP l) (hx : CodeP x) (hy : y.size ≤ 32) : TxtP (putP x y l) := by
  intro t ht
  rcases mem_put.1 ht with rfl | ht
  · exact ⟨hx, hy⟩
  · exact h t ht.1
theorem atK_filter {ks : List ByteArray} {x : ByteArray} (hs : SrtK ks) (hx : x ∈ ks) : atK x (ks.filter fun k => !decide (k = x)) = atK x ks := by
  have e := eraseK hs hx
  have hat := (atK_mem hs x).1 hx
  rw [← e]
  unfold atK
  have h1 : ks.take (ks.takeWhile fun k => kl k x).length = ks.takeWhile fun k => kl k x := (List.prefix_iff_eq_take.1 (List.takeWhile_prefix _)).symm
  rw [h1, List.takeWhile_append_of_pos (fun a ha => List.all_eq_true.1 List.all_takeWhile a ha)]
  have h2 : (ks.drop (atK x ks + 1)).takeWhile (fun k => kl k x) = [] := by
    cases hc : ks.drop (atK x ks + 1) with
    | nil => rfl
    | cons c cs =>
      have hcg : ks[atK x ks + 1]? = some c := by
        have := congrArg (fun l => l[0]?) hc
        simpa [List.getElem?_drop] using this
      have := atK_above ks x c (atK x ks + 1) hs (by omega) hcg
      rw [List.takeWhile_cons, this]
      rfl
  unfold atK at h2
  rw [h2, List.append_nil]
theorem atK_drop {x : ByteArray} {l : List Pr} (h : SrtP l) : atK x (keys (dropP x l)) = atK x (keys l) := by
  by_cases hx : x ∈ keys l
  · rw [keys_drop]; exact atK_filter h hx
  · rw [drop_none (get_none_iff.2 hx)]
theorem keys_put_has {x y : ByteArray} {l : List Pr} (h : SrtP l) (hx : x ∈ keys l) : keys (putP x y l) = keys l := by
  have hs : SrtK (keys l) := h
  have hat := (atK_mem hs x).1 hx
  have hlt := (List.getElem?_eq_some_iff.1 hat).1
  unfold putP
  rw [keys_ins, atK_drop h, keys_drop, ← eraseK hs hx]
  have l1 : ((keys l).take (atK x (keys l))).length = atK x (keys l) := by rw [List.length_take]; omega
  rw [List.take_append_of_le_length (by omega), List.drop_append_of_le_length (by omega), List.take_of_length_le (by omega), List.drop_of_length_le (by omega), List.nil_append]
  obtain ⟨hl', hv⟩ := List.getElem?_eq_some_iff.1 hat
  have := List.drop_eq_getElem_cons hl'
  rw [hv] at this
  rw [← this, List.take_append_drop]
theorem put_len_has {x y : ByteArray} {l : List Pr} (h : SrtP l) (hx : x ∈ keys l) : (putP x y l).length = l.length := by
  rw [← keys_len, keys_put_has h hx, keys_len]
end Go.Proofs.Ytfffifmpfkkgbaa

/- The keys of a store: insert, remove. -/
namespace Go.Proofs.Ytfffifmpfkkgbaa
open Go.RowKit
set_option maxRecDepth 1000000
set_option maxHeartbeats 4000000

/-- A store's box: whatever it holds besides its keys. -/
structure KeyAt (W : World) (q e : Nat) (ks : List ByteArray) (cs : Array Value) (v : Value) : Prop where
  box : Fresh W q cs 62
  size : cs.size = 2
  v0 : cs[0]? = some v
  row : RowS W e ks v
  ety : e = q ∨ ∃ cur, Fresh W e cur 9
theorem KeyAt.lt {W : World} {q e : Nat} {ks : List ByteArray} {cs : Array Value} {v : Value} (h : KeyAt W q e ks cs v) : q < W.heap.size ∧ e < W.heap.size := by
  refine ⟨h.box.lt, ?_⟩
  rcases h.ety with h1 | ⟨cur, h1⟩
  · rw [h1]; exact h.box.lt
  · exact h1.lt
theorem KeyAt.same {W W' : World} {q e : Nat} {ks : List ByteArray} {cs : Array Value} {v : Value} (h : KeyAt W q e ks cs v) (hq : W'.heap[q]? = W.heap[q]?) (he : W'.heap[e]? = W.heap[e]?) : KeyAt W' q e ks cs v :=
  ⟨hq.trans h.box, h.size, h.v0, h.row.same he, by
    rcases h.ety with h1 | ⟨cur, h1⟩
    · exact .inl h1
    · exact .inr ⟨cur, he.trans h1⟩⟩
theorem KeyAt.below {W W' : World} {q e : Nat} {ks : List ByteArray} {cs : Array Value} {v : Value} (h : KeyAt W q e ks cs v) (hb : Below W.heap.size W W') : KeyAt W' q e ks cs v :=
  h.same (hb.block q h.lt.1) (hb.block e h.lt.2)
theorem fresh_ty {W : World} {p : Nat} {cs cs' : Array Value} {t t' : TypeId} (h : Fresh W p cs t) (h' : Fresh W p cs' t') : t = t' := by
  unfold Fresh at h h'
  rw [h] at h'
  cases h'
  rfl

theorem KeyAt.ne {W : World} {q e : Nat} {ks : List ByteArray} {cs : Array Value} {v : Value} (h : KeyAt W q e ks cs v) (hl : 0 < ks.length) : q ≠ e := by
  rintro rfl
  rcases h.row.form with ⟨_, h2⟩ | ⟨cap, cur, _, hf, _⟩
  · rw [h2] at hl; cases hl
  · exact absurd (fresh_ty h.box hf) (by decide)
theorem KeyAt.one {W : World} {q e : Nat} {ks : List ByteArray} {cs : Array Value} {v : Value} (h : KeyAt W q e ks cs v) : q ≠ e ∨ v = .slice none 0 0 := by
  rcases h.row.form with ⟨h1, _⟩ | ⟨cap, cur, _, hf, _⟩
  · exact .inr h1
  · left
    rintro rfl
    exact absurd (fresh_ty h.box hf) (by decide)
theorem KeyAt.back {W : World} {q e : Nat} {ks : List ByteArray} {cs : Array Value} {v : Value} (h : KeyAt W q e ks cs v) : cs.setIfInBounds 0 v = cs := by
  apply Array.ext_getElem?
  intro i
  by_cases hi : i = 0
  · subst hi
    rw [Array.getElem?_setIfInBounds_self_of_lt (by rw [h.size]; decide), h.v0]
  · rw [Array.getElem?_setIfInBounds_ne (fun e => hi e.symm)]
/-- What a change of the row makes of the store, once it is stored. -/
theorem KeyAt.put {W w1 w2 : World} {q e e2 : Nat} {ks ks2 : List ByteArray} {cs : Array Value} {v v2 : Value} (hb1 : Below W.heap.size W w1) (h : KeyAt w1 q e ks cs v) (hql : q < W.heap.size) (_ : e < W.heap.size) (hq : q ≠ e ∨ w2.heap[q]? = w1.heap[q]?) (ht : Turned [e] w1 w2) (_ : e2 = e ∨ W.heap.size ≤ e2) (hr : RowS w2 e2 ks2 v2) (hf : ∃ cur, Fresh w2 e2 cur 9) :
    Turned [q, e] W (w2.setCell ⟨q, 0, none⟩ v2) ∧ KeyAt (w2.setCell ⟨q, 0, none⟩ v2) q e2 ks2 (cs.setIfInBounds 0 v2) v2 := by
  have hbx : Fresh w2 q cs 62 := by
    rcases hq with hq | hq
    · exact ht.other h.box (by simpa using hq)
    · exact hq.trans h.box
  obtain ⟨cur, hf⟩ := hf
  have hne : e2 ≠ q := by
    rintro rfl
    exact absurd (fresh_ty hbx hf) (by decide)
  have hk := Below.heap_setCell w2 ⟨q, 0, none⟩ v2 e2 hne
  refine ⟨(((Turned.of_below hb1).trans (ht.wide (by simp))).setCell (.inl (by simp)) 0 v2), hbx.set 0 v2, by simp [h.size], by rw [Array.getElem?_setIfInBounds_self_of_lt (by rw [h.size]; decide)], hr.same hk, .inr ⟨cur, hk.trans hf⟩⟩

theorem remove_any {W : World} {q e : Nat} {ks : List ByteArray} {cs : Array Value} {v : Value} (h : KeyAt W q e ks cs v) (hs : SrtK ks) (hn : ks.length < 1000000) (x : ByteArray) :
    Calls Try.prog 49 #[.pointer (some ⟨q, 0, none⟩), .string x] W fun e' w' => (∃ u, e' = .returned u) ∧ ∃ v', Turned [q, e] W w' ∧ KeyAt w' q e (ks.filter fun k => !decide (k = x)) (cs.setIfInBounds 0 v') v' := by
  have c0 := (h.box.cell 0).trans h.v0
  have f0 := h.box.thawed 0
  have HS := Lib.hid hs
  have HH := Lib.hid h
  obtain ⟨r, hr⟩ : ∃ r, hasK x ks = r := ⟨_, rfl⟩
  have HR := Lib.hid hr
  obtain ⟨a, ha⟩ : ∃ a, atK x ks = a := ⟨_, rfl⟩
  have HA := Lib.hid ha
  have hql := h.lt.1
  have hel := h.lt.2
  clear h hs hr ha
  go_enter Try.func49, Try.ntmps49
  cases r
  · have e1 : Hid ((ks.filter fun k => !decide (k = x)) = ks) := by
      refine filterK_none (fun hx => ?_)
      rw [← hasK_iff, HR.out] at hx
      cases hx
    go_wp2_with (go_at_call 61; refine (search_any HH.out.row HS.out hn x).mono ?_; rw [HR.out, HA.out]; rintro e1 w1 ⟨rfl, hb1⟩)
    go_end0
    refine ⟨⟨_, rfl⟩, v, Turned.of_below hb1, ?_⟩
    rw [e1.out]
    have h1 := HH.out.below hb1
    rw [h1.back]
    exact h1
  · have hal : a < ks.length := by
      have := (atK_mem HS.out x).1 ((hasK_iff x ks).1 HR.out)
      rw [HA.out] at this
      exact (List.getElem?_eq_some_iff.1 this).1
    have e1 : Hid (ks.take a ++ ks.drop (a + 1) = ks.filter fun k => !decide (k = x)) := by
      have := eraseK HS.out ((hasK_iff x ks).1 HR.out)
      rw [HA.out] at this
      exact this
    have HL := Lib.hid hal
    have NE : Hid (q ≠ e) := HH.out.ne (by omega)
    have hw : IntKind.i64.wrap ((a : Int) + 1) = (a : Int) + 1 := by rw [IntKind.wrap_i64]; omega
    clear hal
    go_wp2_with (first
      | (go_at_call 61; refine (search_any HH.out.row HS.out hn x).mono ?_; rw [HR.out, HA.out]; rintro e1 w1 ⟨rfl, hb1⟩; have H1 := Lib.hid (HH.out.below hb1); have c1 := (H1.out.box.cell 0).trans H1.out.v0; have f1 := H1.out.box.thawed 0)
      | (go_at_call 64; refine (delete_any H1.out.row HL.out).mono ?_; rintro e2 w2 ⟨v2, rfl, ht2, hr2, hf2⟩; obtain ⟨a2, n2, m2, rfl⟩ := hr2.slice'; have F2 := (ht2.other H1.out.box (by simpa using NE.out)); have g2 := F2.cell 0; have k2 := F2.thawed 0; rw [H1.out.v0] at g2))
    go_end0
    have := KeyAt.put hb1 H1.out hql hel (.inl NE.out) ht2 (.inl rfl) hr2 hf2
    rw [e1.out] at this
    exact ⟨⟨_, rfl⟩, _, this⟩

theorem insert_key {W : World} {q e : Nat} {ks : List ByteArray} {cs : Array Value} {v : Value} (h : KeyAt W q e ks cs v) (hs : SrtK ks) (hn : ks.length < 999999) (x : ByteArray) (hx : x ∉ ks) :
    Calls Try.prog 44 #[.pointer (some ⟨q, 0, none⟩), .string x] W fun e' w' => (∃ u, e' = .returned u) ∧ ∃ v' e2, (e2 = e ∨ W.heap.size ≤ e2) ∧ Turned [q, e] W w' ∧ KeyAt w' q e2 (ks.take (atK x ks) ++ x :: ks.drop (atK x ks)) (cs.setIfInBounds 0 v') v' := by
  have c0 := (h.box.cell 0).trans h.v0
  have f0 := h.box.thawed 0
  have HS := Lib.hid hs
  have HH := Lib.hid h
  have HR : Hid (hasK x ks = false) := by
    show _ = _
    cases e : hasK x ks
    · rfl
    · exact absurd ((hasK_iff x ks).1 e) hx
  have hal := atK_le x ks
  obtain ⟨a, ha⟩ : ∃ a, atK x ks = a := ⟨_, rfl⟩
  have HA := Lib.hid ha
  rw [ha] at hal ⊢
  have HL := Lib.hid hal
  have hql := h.lt.1
  have hel := h.lt.2
  clear h hs ha hal hx
  go_enter Try.func44, Try.ntmps44
  go_wp2_with (first
    | (go_at_call 61; refine (search_any HH.out.row HS.out (by omega) x).mono ?_; rw [HR.out, HA.out]; rintro e1 w1 ⟨rfl, hb1⟩; have H1 := Lib.hid (HH.out.below hb1); have c1 := (H1.out.box.cell 0).trans H1.out.v0; have f1 := H1.out.box.thawed 0)
    | (go_at_call 62
       have B2 := Below.new (Below.refl w1.heap.size w1) (.cells #[.string x] 9)
       have H2 := Lib.hid (H1.out.below B2)
       refine (insert_any H2.out.row x HL.out (by omega) (Fresh.new w1 w1.heap.size _ _ rfl) (Nat.ne_of_gt H1.out.lt.2)).mono ?_
       rintro e2 w2 ⟨v2, e3, rfl, he3, ht2, hr2, hz2, hf2⟩
       have hq2 : w2.heap[q]? = (w1.alloc (.cells #[.string x] 9)).heap[q]? := by
         rcases H2.out.one with h1 | h1
         · exact ht2.block q H2.out.lt.1 (by simpa using h1)
         · exact (hz2 h1).block q H2.out.lt.1 (by simp)
       obtain ⟨a2, n2, m2, rfl⟩ := hr2.slice'
       have F2 := hq2.trans H2.out.box
       have g2 := Fresh.cell F2 0
       have k2 := Fresh.thawed F2 0
       rw [H1.out.v0] at g2))
  go_end0
  have hb2 := Below.step hb1 B2
  have hs2 := hb2.size
  have := KeyAt.put hb2 H2.out hql hel (.inr hq2) ht2 (he3.imp id (fun h => Nat.le_trans hs2 h)) hr2 hf2
  exact ⟨⟨_, rfl⟩, _, e3, he3.imp id (fun h => Nat.le_trans hs2 h), this⟩
theorem insert_has {W : World} {q e : Nat} {ks : List ByteArray} {cs : Array Value} {v : Value} (h : KeyAt W q e ks cs v) (hs : SrtK ks) (hn : ks.length < 999999) (x : ByteArray) (hx : x ∈ ks) :
    Calls Try.prog 44 #[.pointer (some ⟨q, 0, none⟩), .string x] W fun e' w' => (∃ u, e' = .returned u) ∧ Below W.heap.size W w' := by
  have c0 := (h.box.cell 0).trans h.v0
  have f0 := h.box.thawed 0
  have HS := Lib.hid hs
  have HH := Lib.hid h
  have HR : Hid (hasK x ks = true) := (hasK_iff x ks).2 hx
  obtain ⟨a, ha⟩ : ∃ a, atK x ks = a := ⟨_, rfl⟩
  have HA := Lib.hid ha
  clear h hs ha hx
  go_enter Try.func44, Try.ntmps44
  go_wp2_with (go_at_call 61; refine (search_any HH.out.row HS.out (by omega) x).mono ?_; rw [HR.out, HA.out]; rintro e1 w1 ⟨rfl, hb1⟩)
  go_end0
  exact ⟨⟨_, rfl⟩, hb1⟩
end Go.Proofs.Ytfffifmpfkkgbaa

/- The store of an art. -/
namespace Go.Proofs.Ytfffifmpfkkgbaa
open Go.RowKit
set_option maxRecDepth 1000000
set_option maxHeartbeats 4000000

abbrev sCells (v : Value) (m : Nat) : Array Value := #[v, .map (some m)]
structure MapHas (W : World) (m : Nat) (l : List Pr) : Prop where
  is : ∃ ms es c, W.heap[m]? = some (.map es c) ∧ MapIs ms es ∧ Uniq ms ∧ ∀ z, z ∈ ms ↔ z ∈ l
theorem MapHas.same {W W' : World} {m : Nat} {l : List Pr} (h : MapHas W m l) (hm : W'.heap[m]? = W.heap[m]?) : MapHas W' m l := by
  obtain ⟨ms, es, c, h1, h2⟩ := h.is
  exact ⟨ms, es, c, hm.trans h1, h2⟩
theorem MapHas.lt {W : World} {m : Nat} {l : List Pr} (h : MapHas W m l) : m < W.heap.size := by
  obtain ⟨ms, es, c, h1, h2⟩ := h.is
  exact (Array.getElem?_eq_some_iff.1 h1).1
theorem MapHas.ne {W : World} {m p : Nat} {l : List Pr} {cs : Array Value} {t : TypeId} (h : MapHas W m l) (hf : Fresh W p cs t) : m ≠ p := by
  rintro rfl
  obtain ⟨ms, es, c, h1, h2⟩ := h.is
  unfold Fresh at hf
  rw [hf] at h1
  cases h1
structure StAt (W : World) (q e m : Nat) (l : List Pr) (v : Value) : Prop where
  key : KeyAt W q e (keys l) (sCells v m) v
  map : MapHas W m l
  srt : SrtP l
  txt : TxtP l
theorem StAt.lt {W : World} {q e m : Nat} {l : List Pr} {v : Value} (h : StAt W q e m l v) : q < W.heap.size ∧ e < W.heap.size ∧ m < W.heap.size := ⟨h.key.lt.1, h.key.lt.2, h.map.lt⟩
theorem KeyAt.me {W : World} {q e m : Nat} {ks : List ByteArray} {cs : Array Value} {v : Value} {l : List Pr} (h : KeyAt W q e ks cs v) (hm : MapHas W m l) : m ≠ q ∧ m ≠ e := by
  refine ⟨hm.ne h.box, ?_⟩
  rcases h.ety with h1 | ⟨cur, h1⟩
  · rw [h1]; exact hm.ne h.box
  · exact hm.ne h1
theorem StAt.same {W W' : World} {q e m : Nat} {l : List Pr} {v : Value} (h : StAt W q e m l v) (h1 : W'.heap[q]? = W.heap[q]?) (h2 : W'.heap[e]? = W.heap[e]?) (h3 : W'.heap[m]? = W.heap[m]?) : StAt W' q e m l v :=
  ⟨h.key.same h1 h2, h.map.same h3, h.srt, h.txt⟩
theorem StAt.below {W W' : World} {q e m : Nat} {l : List Pr} {v : Value} (h : StAt W q e m l v) (hb : Below W.heap.size W W') : StAt W' q e m l v :=
  h.same (hb.block q h.lt.1) (hb.block e h.lt.2.1) (hb.block m h.lt.2.2)
theorem StAt.cells {W : World} {q e m : Nat} {l : List Pr} {v : Value} (h : StAt W q e m l v) :
    W.cell? ⟨q, 0, none⟩ = some v ∧ W.cell? ⟨q, 1, none⟩ = some (.map (some m)) ∧ ∀ j, W.frozen? ⟨q, j, none⟩ = false :=
  ⟨h.key.box.cell 0, h.key.box.cell 1, fun j => h.key.box.thawed j⟩
/-- What a look gives. -/
def seeV (o : Option Pr) : Value := match o with | some t => .tuple #[.string t.2, .bool true] | none => .tuple #[.string ⟨#[]⟩, .bool false]
theorem StAt.look {W : World} {q e m : Nat} {l : List Pr} {v : Value} (h : StAt W q e m l v) (x : ByteArray) :
    (Instr.lookup 59 (.map (some m)) (.string x) true).run Try.prog W = .ok (seeV (getT l x)) W := by
  obtain ⟨ms, es, c, h1, h2, h3, h4⟩ := h.map.is
  rw [run_look h2 h3 h1 x]
  unfold getV seeV
  rw [get_same h3 (srt_uniq h.srt) h4 x]
  cases getT l x <;> rfl
theorem RowS.lit {W : World} {b : Nat} {ks : List ByteArray} (h : Fresh W b (strs ks).toArray 9) (hn : ks.length ≤ 9223372036854775807) : RowS W b ks (.slice (some ⟨b, 0, none⟩) ks.length ks.length) :=
  ⟨.inr ⟨ks.length, _, rfl, h, Nat.le_refl _, hn, by simp [strs], fun j k hk => by simp [strs, hk]⟩⟩

theorem KeyAt.turn {W W5 : World} {q e : Nat} {ks : List ByteArray} {cs cs5 : Array Value} {v : Value} (h : KeyAt W q e ks cs v) (ht : Turned [q] W W5) (hf : Fresh W5 q cs5 62) (hs : cs5.size = 2) (h0 : cs5[0]? = some v) : KeyAt W5 q e ks cs5 v := by
  refine ⟨hf, hs, h0, ?_, ?_⟩
  · rcases h.row.form with ⟨h1, h2⟩ | ⟨cap, cur, h1, h2, h3⟩
    · exact ⟨.inl ⟨h1, h2⟩⟩
    · refine ⟨.inr ⟨cap, cur, h1, ht.other h2 ?_, h3⟩⟩
      intro hx
      simp at hx
      subst hx
      exact absurd (fresh_ty h.box h2) (by decide)
  · rcases h.ety with h1 | ⟨cur, h1⟩
    · exact .inl h1
    · refine .inr ⟨cur, ht.other h1 ?_⟩
      intro hx
      simp at hx
      subst hx
      exact absurd (fresh_ty h.box h1) (by decide)
theorem MapHas.turned {S : List Nat} {W W' : World} {m : Nat} {l : List Pr} (h : MapHas W m l) (ht : Turned S W W') (hn : m ∉ S) : MapHas W' m l := h.same (ht.block m h.lt hn)
theorem uniq_del {l : List Pr} (h : Uniq l) (x : ByteArray) : Uniq (delT l x) := by
  unfold Uniq delT at *
  exact List.Sublist.nodup (List.Sublist.map _ List.filter_sublist) h
theorem MapHas.del {W : World} {m : Nat} {l : List Pr} (h : MapHas W m l) (x : ByteArray) :
    ∃ es c, (∀ ty : TypeId, (Builtin.delete_ #[59, 9] ty #[.map (some m), .string x]).run Try.prog W = .ok (.tuple #[]) (setObj W m (.map es c))) ∧ MapHas (setObj W m (.map es c)) m (dropP x l) := by
  obtain ⟨ms, es, c, h1, h2, h3, h4⟩ := h.is
  obtain ⟨es', k1, k2⟩ := run_del h2 h3 h1 x
  refine ⟨es', c, k2, ⟨delT ms x, es', c, setObj_at h.lt _, k1, uniq_del h3 x, fun z => ?_⟩⟩
  have e1 : z ∈ delT ms x ↔ z ∈ ms ∧ z.1 ≠ x := mem_drop
  rw [e1, mem_drop, h4]
theorem setObj_other {W : World} {m p : Nat} (h : p ≠ m) (o : Obj) : (setObj W m o).heap[p]? = W.heap[p]? := by
  show (W.heap.setIfInBounds m o)[p]? = _
  rw [Array.getElem?_setIfInBounds, if_neg (fun e => h e.symm)]
theorem MapHas.put {W : World} {m : Nat} {l : List Pr} (h : MapHas W m l) (hl : Uniq l) (x y : ByteArray) (hx : getT l x = none) :
    ∃ es c, (Instr.mapUpdate 59 (.map (some m)) (.string x) (.string y)).run Try.prog W = .ok () (setObj W m (.map es c)) ∧ MapHas (setObj W m (.map es c)) m (insP x y l) := by
  obtain ⟨ms, es, c, h1, h2, h3, h4⟩ := h.is
  have hg : getT ms x = none := by rw [get_same h3 hl h4 x]; exact hx
  obtain ⟨es', k1, k2⟩ := run_put h2 h3 h1 x y hg
  refine ⟨es', c + 1, k2, ⟨ms ++ [(x, y)], es', c + 1, setObj_at h.lt _, k1, ?_, fun z => ?_⟩⟩
  · unfold Uniq at h3 ⊢
    rw [List.map_append, List.nodup_append]
    refine ⟨h3, by simp, fun a ha b hb => ?_⟩
    obtain rfl : b = x := by simpa using hb
    rintro rfl
    exact (get_none_iff.1 hg) ha
  · rw [List.mem_append, mem_ins, h4, List.mem_singleton]
    exact Or.comm
theorem MapHas.upd {W : World} {m : Nat} {l : List Pr} (h : MapHas W m l) (hl : Uniq l) (x y : ByteArray) {t : Pr} (hx : getT l x = some t) :
    ∃ es c, (Instr.mapUpdate 59 (.map (some m)) (.string x) (.string y)).run Try.prog W = .ok () (setObj W m (.map es c)) ∧ MapHas (setObj W m (.map es c)) m (putP x y l) := by
  obtain ⟨ms, es, c, h1, h2, h3, h4⟩ := h.is
  have hg : getT ms x = some t := by rw [get_same h3 hl h4 x]; exact hx
  obtain ⟨es', l', k1, k2, k3, k4⟩ := run_upd h2 h3 h1 x y hg
  refine ⟨es', c, k4, ⟨l', es', c, setObj_at h.lt _, k1, ?_, fun z => ?_⟩⟩
  · unfold Uniq at h3 ⊢
    rw [k2]; exact h3
  · rw [k3, mem_put, h4]
theorem MapHas.putP {W : World} {m : Nat} {l : List Pr} (h : MapHas W m l) (hl : SrtP l) (x y : ByteArray) :
    ∃ es c, (Instr.mapUpdate 59 (.map (some m)) (.string x) (.string y)).run Try.prog W = .ok () (setObj W m (.map es c)) ∧ MapHas (setObj W m (.map es c)) m (putP x y l) := by
  cases hg : getT l x with
  | none =>
    have := h.put (srt_uniq hl) x y hg
    unfold Go.Proofs.Ytfffifmpfkkgbaa.putP
    rw [drop_none hg]
    exact this
  | some t => exact h.upd (srt_uniq hl) x y hg
/-- What a put leaves. -/
theorem put_fin {W w1 : World} {q e e2 m : Nat} {l : List Pr} {v v2 : Value} {x y : ByteArray} {o : Obj} (h : StAt W q e m l v) (h1 : Turned [q, e] W w1) (k1 : KeyAt w1 q e2 (keys (putP x y l)) (sCells v2 m) v2) (m1 : MapHas w1 m l) (hm : MapHas (setObj w1 m o) m (putP x y l)) (hx : CodeP x) (hy : y.size ≤ 32) :
    Turned [q, e, m] W (setObj w1 m o) ∧ StAt (setObj w1 m o) q e2 m (putP x y l) v2 := by
  obtain ⟨a1, a2⟩ := k1.me m1
  exact ⟨Turned.setObj (h1.wide (by simp)) (by simp) o, ⟨k1.same (setObj_other a1.symm o) (setObj_other a2.symm o), hm, put_srt h.srt, put_txt h.txt hx hy⟩⟩
/-- insert, of any code. -/
theorem insert_any' {W : World} {q e m : Nat} {l : List Pr} {v : Value} (h : StAt W q e m l v) (hn : l.length < 100000) (x y : ByteArray) :
    Calls Try.prog 44 #[.pointer (some ⟨q, 0, none⟩), .string x] W fun e' w' => (∃ u, e' = .returned u) ∧ ∃ v' e2, (e2 = e ∨ W.heap.size ≤ e2) ∧ Turned [q, e] W w' ∧ KeyAt w' q e2 (keys (putP x y l)) (sCells v' m) v' ∧ MapHas w' m l := by
  by_cases hx : x ∈ keys l
  · refine (insert_has h.key h.srt (by rw [keys_len]; omega) x hx).mono ?_
    rintro e1 w1 ⟨h1, hb⟩
    refine ⟨h1, v, e, .inl rfl, .of_below hb, ?_, h.map.same (hb.block m h.lt.2.2)⟩
    rw [keys_put_has h.srt hx]
    exact h.key.below hb
  · refine (insert_key h.key h.srt (by rw [keys_len]; omega) x hx).mono ?_
    rintro e1 w1 ⟨h1, v', e2, h2, h3, h4⟩
    have hme := h.key.me h.map
    refine ⟨h1, v', e2, h2, h3, ?_, h.map.turned h3 (by simp [hme.1, hme.2])⟩
    have e1 : keys (putP x y l) = (keys l).take (atK x (keys l)) ++ x :: (keys l).drop (atK x (keys l)) := by
      unfold Go.Proofs.Ytfffifmpfkkgbaa.putP
      rw [drop_none (get_none_iff.2 hx), keys_ins]
    rw [e1]
    exact h4
/-- What a removal leaves. -/
theorem drop_fin {W w1 : World} {q e m : Nat} {l : List Pr} {v v2 : Value} {x : ByteArray} {o : Obj} (h : StAt W q e m l v) (h1 : Turned [q, e] W w1) (k1 : KeyAt w1 q e ((keys l).filter fun k => !decide (k = x)) (sCells v2 m) v2) (m1 : MapHas w1 m l) (hm : MapHas (setObj w1 m o) m (dropP x l)) :
    Turned [q, e, m] W (setObj w1 m o) ∧ StAt (setObj w1 m o) q e m (dropP x l) v2 := by
  obtain ⟨a1, a2⟩ := k1.me m1
  refine ⟨Turned.setObj (h1.wide (by simp)) (by simp) o, ⟨?_, hm, drop_srt h.srt, drop_txt h.txt⟩⟩
  rw [keys_drop]
  exact k1.same (setObj_other a1.symm o) (setObj_other a2.symm o)
end Go.Proofs.Ytfffifmpfkkgbaa

/- An art: New, isNil, Put, Get, Delete, From, Len. -/
namespace Go.Proofs.Ytfffifmpfkkgbaa
open Go.RowKit
set_option maxRecDepth 1000000
set_option maxHeartbeats 4000000

structure ArtAt (W : World) (p q e m : Nat) (l : List Pr) : Prop where
  ptr : Fresh W p #[.pointer (some ⟨q, 0, none⟩)] 64
  st : ∃ v, StAt W q e m l v
theorem ArtAt.lt {W : World} {p q e m : Nat} {l : List Pr} (h : ArtAt W p q e m l) : p < W.heap.size ∧ q < W.heap.size ∧ e < W.heap.size ∧ m < W.heap.size := by
  obtain ⟨v, hv⟩ := h.st
  exact ⟨h.ptr.lt, hv.lt⟩
theorem StAt.p {W : World} {p q e m : Nat} {l : List Pr} {v : Value} (h : StAt W q e m l v) (hp : Fresh W p #[.pointer (some ⟨q, 0, none⟩)] 64) : p ∉ [q, e, m] := by
  have hq : p ≠ q := by
    rintro rfl
    exact absurd (fresh_ty hp h.key.box) (by decide)
  have he : p ≠ e := by
    rcases h.key.ety with h1 | ⟨cur, h1⟩
    · rw [h1]; exact hq
    · rintro rfl
      exact absurd (fresh_ty hp h1) (by decide)
  have hm : p ≠ m := fun x => h.map.ne hp x.symm
  simp [hq, he, hm]
theorem ArtAt.below {W W' : World} {p q e m : Nat} {l : List Pr} (h : ArtAt W p q e m l) (hb : Below W.heap.size W W') : ArtAt W' p q e m l := by
  obtain ⟨v, hv⟩ := h.st
  exact ⟨h.ptr.below hb, v, hv.below hb⟩
theorem ArtAt.same {W W' : World} {p q e m : Nat} {l : List Pr} (h : ArtAt W p q e m l) (h0 : W'.heap[p]? = W.heap[p]?) (h1 : W'.heap[q]? = W.heap[q]?) (h2 : W'.heap[e]? = W.heap[e]?) (h3 : W'.heap[m]? = W.heap[m]?) : ArtAt W' p q e m l := by
  obtain ⟨v, hv⟩ := h.st
  exact ⟨h0.trans h.ptr, v, hv.same h1 h2 h3⟩
theorem ArtAt.turned {S : List Nat} {W W' : World} {p q e m : Nat} {l : List Pr} (h : ArtAt W p q e m l) (ht : Turned S W W') (h0 : p ∉ S) (h1 : q ∉ S) (h2 : e ∉ S) (h3 : m ∉ S) : ArtAt W' p q e m l :=
  h.same (ht.block p h.lt.1 h0) (ht.block q h.lt.2.1 h1) (ht.block e h.lt.2.2.1 h2) (ht.block m h.lt.2.2.2 h3)
theorem ArtAt.good {W : World} {p q e m : Nat} {l : List Pr} (h : ArtAt W p q e m l) : SrtP l ∧ TxtP l := by
  obtain ⟨v, hv⟩ := h.st
  exact ⟨hv.srt, hv.txt⟩

theorem isNil_any {W : World} {p q e m : Nat} {l : List Pr} (h : ArtAt W p q e m l) : Calls Try.prog 36 #[.pointer (some ⟨p, 0, none⟩)] W fun e' w' => e' = .returned (.bool false) ∧ w' = W := by
  have c0 := h.ptr.cell 0
  simp only [List.getElem?_toArray, List.getElem?_cons_zero] at c0
  clear h
  go_enter Try.func36, Try.ntmps36
  go_wp2_with fail
  go_ret
  exact ⟨rfl, rfl⟩
theorem CodeP.size {x : ByteArray} (h : CodeP x) : x.size ≤ 34 := by
  unfold CodeP Cd.isCode at h
  obtain ⟨k, hk⟩ := Option.isSome_iff_exists.1 h
  obtain ⟨h1, h2⟩ := Cd.keyL_some hk
  have h3 := Cd.encB_le k
  have h4 := congrArg List.length h1
  rw [length_list] at h4
  simp at h4
  omega
theorem cell_lt' {W : World} {p : Addr} {v : Value} (h : W.cell? p = some v) : p.block < W.heap.size := by
  rcases Nat.lt_or_ge p.block W.heap.size with h1 | h1
  · exact h1
  · simp [World.cell?, Array.getElem?_eq_none h1] at h
theorem ArtAt.cells {W : World} {p q e m : Nat} {l : List Pr} (h : ArtAt W p q e m l) :
    W.cell? ⟨p, 0, none⟩ = some (.pointer (some ⟨q, 0, none⟩)) ∧ W.cell? ⟨q, 1, none⟩ = some (.map (some m)) := by
  obtain ⟨v, hv⟩ := h.st
  exact ⟨h.ptr.cell 0, hv.cells.2.1⟩
theorem ArtAt.look {W : World} {p q e m : Nat} {l : List Pr} (h : ArtAt W p q e m l) (x : ByteArray) : (Instr.lookup 59 (.map (some m)) (.string x) true).run Try.prog W = .ok (seeV (getT l x)) W := by
  obtain ⟨v, hv⟩ := h.st
  exact hv.look x
theorem len_any {W : World} {p q e m : Nat} {l : List Pr} (h : ArtAt W p q e m l) : Calls Try.prog 16 #[.pointer (some ⟨p, 0, none⟩)] W fun e' w' => e' = .returned (.int .i64 (l.length : Nat)) ∧ w' = W := by
  have HH := Lib.hid h
  have c0 := h.ptr.cell 0
  simp only [List.getElem?_toArray, List.getElem?_cons_zero] at c0
  obtain ⟨v, hv⟩ := h.st
  obtain ⟨ao, cap, hs, _⟩ := hv.key.row.slice
  rw [keys_len] at hs
  have d0 := hv.cells.1
  rw [hs] at d0
  obtain ⟨n, hl⟩ : ∃ n, l.length = n := ⟨_, rfl⟩
  rw [hl] at d0 ⊢
  clear h hv hs hl
  go_enter Try.func16, Try.ntmps16
  go_wp2_with (go_at_call 36; refine (isNil_any HH.out).mono ?_; rintro e1 w1 ⟨rfl, rfl⟩)
  go_ret
  exact ⟨rfl, rfl⟩
/-- What Get gives. -/
def getA (x : ByteArray) (l : List Pr) : ByteArray × Bool := match getT l x with | some t => (t.2, true) | none => (⟨#[]⟩, false)
theorem get_any {W : World} {p q e m : Nat} {l : List Pr} (h : ArtAt W p q e m l) (x : ByteArray) :
    Calls Try.prog 18 #[.pointer (some ⟨p, 0, none⟩), .string x] W fun e' w' => e' = .returned (.tuple #[.string (getA x l).1, .bool (getA x l).2]) ∧ w' = W := by
  obtain ⟨k0, k1⟩ := h.cells
  have hl := h.look x
  have HH := Lib.hid h
  clear h
  unfold getA
  cases hg : getT l x with
  | none =>
    rw [hg] at hl
    simp only [seeV] at hl
    go_enter Try.func18, Try.ntmps18
    go_wp2_with (go_at_call 36; refine (isNil_any HH.out).mono ?_; rintro e1 w1 ⟨rfl, h1⟩; replace h1 := h1.symm; subst h1)
    go_ret2
    exact ⟨rfl, rfl⟩
  | some t =>
    rw [hg] at hl
    simp only [seeV] at hl
    go_enter Try.func18, Try.ntmps18
    go_wp2_with (go_at_call 36; refine (isNil_any HH.out).mono ?_; rintro e1 w1 ⟨rfl, h1⟩; replace h1 := h1.symm; subst h1)
    go_ret2
    exact ⟨rfl, rfl⟩
/-- What Put and Delete make of the pairs. -/
def putA (x y : ByteArray) (l : List Pr) : List Pr × Int := if Cd.isCode x.data.toList = true then (if y.size ≤ 32 then (putP x y l, 0) else (l, 3)) else (l, 2)
def delA (x : ByteArray) (l : List Pr) : List Pr × Int := if hasK x (keys l) = true then (dropP x l, 0) else (l, 5)
structure Went (W W' : World) (p q e e2 m : Nat) (l : List Pr) : Prop where
  new : e2 = e ∨ W.heap.size ≤ e2
  turned : Turned [q, e, m] W W'
  bk : ArtAt W' p q e2 m l
theorem Went.refl {W W' : World} {p q e m : Nat} {l : List Pr} (h : ArtAt W p q e m l) (hb : Below W.heap.size W W') : Went W W' p q e e m l := ⟨.inl rfl, .of_below hb, h.below hb⟩
theorem Went.after {W W1 W' : World} {p q e e2 m : Nat} {l : List Pr} (hb : Below W.heap.size W W1) (h : Went W1 W' p q e e2 m l) : Went W W' p q e e2 m l :=
  ⟨h.new.imp id (fun x => Nat.le_trans hb.size x), (Turned.of_below hb).trans h.turned, h.bk⟩
theorem new_any (w : World) :
    Calls Try.prog 8 #[] w fun e' w' => ∃ p q m, w.heap.size ≤ p ∧ w.heap.size ≤ q ∧ w.heap.size ≤ m ∧ e' = .returned (.pointer (some ⟨p, 0, none⟩)) ∧ Below w.heap.size w w' ∧ ArtAt w' p q q m [] := by
  have hmm := @run_makeMap Try.prog
  go_enter Try.func8, Try.ntmps8
  go_wp2_with fail
  go_ret
  refine ⟨w.heap.size + 1 + 1, w.heap.size + 1, w.heap.size, by omega, by omega, by omega, rfl, Below.new (Below.new (Below.new (Below.refl _ _) _) _) _, ⟨Fresh.new _ _ _ _ (by simp), .slice none 0 0, ?_⟩⟩
  refine ⟨⟨(Fresh.new _ _ _ _ (by simp)).alloc _, rfl, rfl, RowS.nil _ _, .inl rfl⟩, ⟨[], #[], 0, ?_, rfl, by simp [Uniq], by simp⟩, by simp [SrtP, SrtK, keys], by simp [TxtP]⟩
  have h1 := heap_alloc_new w (.map #[] 0)
  have hlt := (Array.getElem?_eq_some_iff.1 h1).1
  have Bw := Below.new (Below.new (Below.refl (w.alloc (.map #[] 0)).heap.size (w.alloc (.map #[] 0))) (.cells (sCells (.slice none 0 0) w.heap.size) 62)) (.cells #[.pointer (some ⟨w.heap.size + 1, 0, none⟩)] 64)
  exact (Bw.block _ hlt).trans h1
theorem isCode_any (x : ByteArray) (hs : x.size ≤ 1000000) (w : World) :
    Calls Try.prog 43 #[.string x] w fun e w' => e = .returned (.bool (Cd.isCode x.data.toList)) ∧ Below w.heap.size w w' := by
  go_enter Try.func43, Try.ntmps43
  go_wp2_with (go_at_call 60; refine (Cd.is_any x hs _).mono ?_; rintro e1 w1 ⟨rfl, hb1⟩)
  go_ret
  exact ⟨rfl, hb1⟩
theorem put_any {W : World} {p q e m : Nat} {l : List Pr} (h : ArtAt W p q e m l) (hn : l.length < 100000) (x y : ByteArray) (hxs : x.size ≤ 1000000) (hys : y.size ≤ 1000000) :
    Calls Try.prog 25 #[.pointer (some ⟨p, 0, none⟩), .string x, .string y] W fun e' w' => e' = .returned (.int .i64 (putA x y l).2) ∧ ∃ e2, Went W w' p q e e2 m (putA x y l).1 := by
  have HH := Lib.hid h
  obtain ⟨r, hr⟩ : ∃ r, Cd.isCode x.data.toList = r := ⟨_, rfl⟩
  have HC : Hid (∀ w : World, Calls Try.prog 43 #[.string x] w fun e w' => e = .returned (.bool r) ∧ Below w.heap.size w w') := by
    intro w
    have := isCode_any x hxs w
    rw [hr] at this
    exact this
  unfold putA
  rw [hr]
  cases r
  · clear h hr
    go_enter Try.func25, Try.ntmps25
    go_wp2_with (first
      | (go_at_call 36; refine (isNil_any HH.out).mono ?_; rintro e1 w1 ⟨rfl, h1⟩; replace h1 := h1.symm; subst h1)
      | (go_at_call 43; refine (HC.out _).mono ?_; rintro e1 w1 ⟨rfl, hb1⟩; have HB := Lib.hid hb1; clear hb1))
    go_ret
    exact ⟨rfl, e, Went.refl HH.out HB.out⟩
  · have HX : Hid (CodeP x) := hr
    clear h hr
    obtain ⟨n, hln⟩ : ∃ n, y.size = n := ⟨_, rfl⟩
    have HL := Lib.hid hln
    by_cases hy : n ≤ 32
    · rw [if_pos rfl, if_pos (by rw [hln]; exact hy)]
      have jy : ¬ (32 : Int) < (n : Int) := by omega
      have HY : Hid (y.size ≤ 32) := by show _ ≤ _; rw [hln]; exact hy
      go_enter Try.func25, Try.ntmps25
      go_wp2_with (first
        | (go_at_call 36; refine (isNil_any HH.out).mono ?_; rintro e1 w1 ⟨rfl, h1⟩; replace h1 := h1.symm; subst h1)
        | (go_at_call 43; refine (HC.out _).mono ?_; rintro e1 w1 ⟨rfl, hb1⟩; have H1 := HH.out.below hb1; have k0 := H1.cells.1; have HB := Lib.hid hb1; obtain ⟨v, hs1⟩ := H1.st; have S1 := Lib.hid hs1; have P1 := Lib.hid H1.ptr; clear H1 hb1 hs1)
        | (go_at_call 44; refine (insert_any' S1.out hn x y).mono ?_; rintro e3 w3 ⟨⟨u3, rfl⟩, v3, g3, hg3, ht3, hk3, hm3⟩; have Q3 := S1.out.p P1.out; have P3 := Lib.hid (ht3.other P1.out (fun hx => Q3 (by simp at hx ⊢; rcases hx with hx | hx <;> simp [hx]))); have k3 := P3.out.cell 0; have c3 := hk3.box.cell 1; simp only [List.getElem?_toArray, List.getElem?_cons_zero, List.getElem?_cons_succ] at k3 c3; obtain ⟨es, c, hmu, hmh⟩ := hm3.putP S1.out.srt x y; have T3 := Lib.hid ht3; have K3 := Lib.hid hk3; have M3 := Lib.hid hm3; have U3 := Lib.hid hmh; have G3 := Lib.hid hg3; clear hg3 ht3 hk3 hm3 hmh Q3))
      go_ret
      obtain ⟨f1, f2⟩ := put_fin S1.out T3.out K3.out M3.out U3.out HX.out HY.out
      exact ⟨rfl, g3, Went.after HB.out ⟨G3.out, f1, f1.other P1.out (S1.out.p P1.out), v3, f2⟩⟩
    · rw [if_pos rfl, if_neg (by rw [hln]; exact hy)]
      have jy : (32 : Int) < (n : Int) := by omega
      go_enter Try.func25, Try.ntmps25
      go_wp2_with (first
        | (go_at_call 36; refine (isNil_any HH.out).mono ?_; rintro e1 w1 ⟨rfl, h1⟩; replace h1 := h1.symm; subst h1)
        | (go_at_call 43; refine (HC.out _).mono ?_; rintro e1 w1 ⟨rfl, hb1⟩; have HB := Lib.hid hb1; clear hb1))
      go_ret
      exact ⟨rfl, e, Went.refl HH.out HB.out⟩
theorem delete_art {W : World} {p q e m : Nat} {l : List Pr} (h : ArtAt W p q e m l) (hn : l.length < 100000) (x : ByteArray) :
    Calls Try.prog 29 #[.pointer (some ⟨p, 0, none⟩), .string x] W fun e' w' => e' = .returned (.int .i64 (delA x l).2) ∧ ∃ e2, Went W w' p q e e2 m (delA x l).1 := by
  obtain ⟨k0, k1⟩ := h.cells
  have hl := h.look x
  have HH := Lib.hid h
  obtain ⟨v, hs1⟩ := h.st
  have S1 := Lib.hid hs1
  have P1 := Lib.hid h.ptr
  clear h hs1
  unfold delA
  by_cases hx : x ∈ keys l
  · rw [if_pos ((hasK_iff _ _).2 hx)]
    have hx' : getT l x ≠ none := fun e => (get_none_iff.1 e) hx
    obtain ⟨t, ht⟩ : ∃ t, getT l x = some t := by
      cases hg : getT l x with
      | none => exact absurd hg hx'
      | some t => exact ⟨t, rfl⟩
    rw [ht] at hl
    simp only [seeV] at hl
    clear hx hx' ht
    go_enter Try.func29, Try.ntmps29
    go_wp2_with (first
      | (go_at_call 36; refine (isNil_any HH.out).mono ?_; rintro e1 w1 ⟨rfl, h1⟩; replace h1 := h1.symm; subst h1)
      | (go_at_call 49; refine (remove_any S1.out.key S1.out.srt (by rw [keys_len]; omega) x).mono ?_; rintro e3 w3 ⟨⟨u3, rfl⟩, v3, ht3, hk3⟩; have Q3 := S1.out.p P1.out; have hme := S1.out.key.me S1.out.map; have hm3 := S1.out.map.turned ht3 (by simp [hme.1, hme.2]); have P3 := Lib.hid (ht3.other P1.out (fun hx => Q3 (by simp at hx ⊢; rcases hx with hx | hx <;> simp [hx]))); have k3 := P3.out.cell 0; have c3 := hk3.box.cell 1; simp only [List.setIfInBounds_toArray, List.set_cons_zero, List.getElem?_toArray, List.getElem?_cons_zero, List.getElem?_cons_succ] at k3 c3; obtain ⟨es, c, hmd, hmh⟩ := hm3.del x; have T3 := Lib.hid ht3; have K3 := Lib.hid hk3; have M3 := Lib.hid hm3; have U3 := Lib.hid hmh; clear ht3 hk3 hm3 hmh Q3 hme))
    go_ret
    obtain ⟨f1, f2⟩ := drop_fin S1.out T3.out K3.out M3.out U3.out
    exact ⟨rfl, e, ⟨.inl rfl, f1, f1.other P1.out (S1.out.p P1.out), v3, f2⟩⟩
  · rw [if_neg (fun h => hx ((hasK_iff _ _).1 h))]
    have ht : getT l x = none := get_none_iff.2 hx
    rw [ht] at hl
    simp only [seeV] at hl
    clear hx ht
    go_enter Try.func29, Try.ntmps29
    go_wp2_with (first
      | (go_at_call 36; refine (isNil_any HH.out).mono ?_; rintro e1 w1 ⟨rfl, h1⟩; replace h1 := h1.symm; subst h1))
    go_ret
    exact ⟨rfl, e, Went.refl HH.out (Below.refl _ _)⟩
end Go.Proofs.Ytfffifmpfkkgbaa

/- Copies of what an art has. -/
namespace Go.Proofs.Ytfffifmpfkkgbaa
open Go.RowKit
set_option maxRecDepth 1000000
set_option maxHeartbeats 4000000

theorem run_snil (W : World) (g n k : Nat) : (binOp .eql 60 (.slice (some ⟨g, 0, none⟩) n k) (.slice none 0 0)).run Try.prog W = .ok (.bool false) W := by kernel_rfl
theorem run_snil2 (W : World) : (binOp .eql 60 (.slice none 0 0) (.slice none 0 0)).run Try.prog W = .ok (.bool true) W := by kernel_rfl
theorem RowS.of_own {W : World} {B : Nat} {ks : List ByteArray} {v : Value} (h : W.ownsRow B 9 1 v ks.length (strs ks)) : (v = .slice none 0 0 ∧ ks = []) ∨ ∃ e cur, B ≤ e ∧ Fresh W e cur 9 ∧ RowS W e ks v := by
  rcases h.2 with ⟨h1, h2⟩ | ⟨g, cap, cur, rfl, h3, h4, h5, h6, h7, h8⟩
  · exact .inl ⟨h1, List.length_eq_zero_iff.1 h2⟩
  · refine .inr ⟨g, cur, h3, h4, ⟨.inr ⟨cap, cur, rfl, h4, h5, by unfold maxLen at h6; omega, by omega, fun j k hk => ?_⟩⟩⟩
    have hj := (List.getElem?_eq_some_iff.1 hk).1
    have h9 : (strs ks)[j]? = some (.string k) := by simp [strs, hk]
    rw [← h8, List.getElem?_take_of_lt (by omega), Array.getElem?_toList] at h9
    exact h9
theorem cloneK_any {W : World} {e : Nat} {ks : List ByteArray} {v : Value} (h : RowS W e ks v) (hel : e < W.heap.size) (hn : ks.length < 1000000) :
    Calls Try.prog 66 #[v] W fun e' w' => ∃ v', e' = .returned v' ∧ Below W.heap.size W w' ∧ ((v' = .slice none 0 0 ∧ ks = []) ∨ ∃ e2 cur, W.heap.size ≤ e2 ∧ Fresh w' e2 cur 9 ∧ RowS w' e2 ks v') := by
  rcases h.form with ⟨rfl, rfl⟩ | ⟨cap, cur, rfl, hcur, hcap, hmax, hcs, htk⟩
  · have hq := run_snil2 W
    clear h
    go_enter Try.func66, Try.ntmps66
    go_wp2_with fail
    go_ret
    exact ⟨_, rfl, Below.refl _ _, by simp⟩
  · obtain ⟨iE, jE, jE0, jE1, jE2⟩ := infoS
    have HL : Hid ((strs ks).length = ks.length) := strs_len ks
    have h1 : Hid (∀ u ∈ strs ks, u.oneCell' = true) := fun u hu => strs_small hu
    have NX : Hid (∀ (j : Nat) u, (strs ks)[j]? = some u → W.cell? ⟨e, j, none⟩ = some u) := by
      intro j u hj
      obtain ⟨k, hk, rfl⟩ := strs_at hj
      rw [hcur.cell]
      exact htk j k hk
    have HEL := Lib.hid hel
    clear h hcur htk hcs
    obtain ⟨n, hnl⟩ : ∃ n, ks.length = n := ⟨_, rfl⟩
    have HNL := Lib.hid hnl
    rw [hnl] at hn HL hcap ⊢
    clear hnl
    obtain ⟨W1, hW1⟩ : ∃ W1, W1 = W.alloc (.cells #[] 9) := ⟨_, rfl⟩
    have HW1 := Lib.hid hW1
    have B1 : Hid (Below W.heap.size W W1) := by show Below _ _ _; rw [hW1]; exact Below.new (Below.refl _ _) _
    have O1 : Hid (W1.ownsRow W.heap.size 9 1 (.slice (some ⟨W.heap.size, 0, none⟩) 0 0) 0 []) := by
      refine ⟨rfl, .inr ⟨W.heap.size, 0, #[], rfl, Nat.le_refl _, ?_, Nat.le_refl _, by decide, rfl, rfl⟩⟩
      rw [hW1]
      exact heap_alloc_new W _
    have N1 : Hid (∀ j u, (strs ks)[j]? = some u → W1.cell? ((⟨e, 0, none⟩ : Addr).add j) = some u) := by
      intro j u hu
      rw [Addr.add_lit, Nat.zero_add, B1.out.cell (p := ⟨e, j, none⟩) HEL.out]
      exact NX.out j u hu
    have S1 : Hid (W.heap.size ≤ W1.heap.size) := B1.out.size
    have hq := run_snil W e n cap
    have HJ := Lib.hid jE
    clear hW1 jE
    go_enter Try.func66, Try.ntmps66
    go_wp2_with (at_builtin; rw [← HW1.out]; refine wpList_append_own _ rfl (.tmp 5) (.tmp 6) 60 rfl W.heap.size 9 iE (.string ⟨#[]⟩) 1 16 Try.underlying60 HJ.out jE0 jE1 jE2 rfl (by omega) (.slice (some ⟨W.heap.size, 0, none⟩) 0 0) 0 [] rfl O1.out ⟨e, 0, none⟩ n cap (strs ks) rfl (by rw [HL.out, Nat.mul_one]) N1.out h1.out (by unfold maxLen; omega) (by omega) S1.out ?_)
    intro v' w' hown hgrow hnil
    have B2 : Hid (Below W.heap.size W w') := Turned.below (S := []) (Below.refl _ _) ((Turned.of_below B1.out).kept hgrow (by simp [Value.ownBlock])) (by simp) (Nat.le_refl _)
    have O2 : Hid ((v' = .slice none 0 0 ∧ ks = []) ∨ ∃ e2 cur, W.heap.size ≤ e2 ∧ Fresh w' e2 cur 9 ∧ RowS w' e2 ks v') := by
      refine RowS.of_own ?_
      rw [HNL.out]
      simpa using hown
    clear hown hgrow hnil
    go_wp2_with fail
    go_ret
    exact ⟨v', rfl, B2.out, O2.out⟩

theorem slice_of {W w' : World} {ks : List ByteArray} {v' : Value} (h : (v' = .slice none 0 0 ∧ ks = []) ∨ ∃ e2 cur, W.heap.size ≤ e2 ∧ Fresh w' e2 cur 9 ∧ RowS w' e2 ks v') : ∃ a n c, v' = .slice a n c := by
  rcases h with ⟨rfl, _⟩ | ⟨_, _, _, _, h9⟩
  · exact ⟨none, 0, 0, rfl⟩
  · exact h9.slice'
theorem run_clone {W : World} {r : Nat} {es : Array MapEntry} {c : Nat} (t : TypeId) (hb : W.heap[r]? = some (.map es c)) :
    (callFunc 77 #[.iface t (.map (some r))]).run Try.prog W = .ok (.value (.iface t (.map (some W.heap.size)))) (W.alloc (.map es c)) := by
  rw [run_callFunc_extern Try.func77 (by kernel_rfl) (by kernel_rfl) (by kernel_rfl) (e := Extern.MapsClone.clone) (by kernel_rfl)]
  have e : Extern.MapsClone.clone #[.iface t (.map (some r))] = (getObj r >>= fun o => match o with
      | .map entries clock => (newObj (.map entries clock) >>= fun n => pure (.iface t (.map (some n))))
      | _ => stuck "maps.clone: a map expected") := rfl
  rw [e]
  simp [MapKept.run_getObj_map hb, Result.andThen]
theorem run_mnil (W : World) (m : Nat) : (binOp .eql 59 (.map (some m)) (.map none)).run Try.prog W = .ok (.bool false) W := by kernel_rfl
theorem run_mas (W : World) (m : Nat) : (Instr.typeAssert (.iface 59 (.map (some m))) 20 59 false).run Try.prog W = .ok (.map (some m)) W := by kernel_rfl
theorem cloneM_any {W : World} {m : Nat} {l : List Pr} (h : MapHas W m l) :
    Calls Try.prog 67 #[.map (some m)] W fun e w' => e = .returned (.map (some W.heap.size)) ∧ Below W.heap.size W w' ∧ MapHas w' W.heap.size l := by
  obtain ⟨ms, es, c, hb, hi⟩ := h.is
  have hm := run_mnil W m
  have ha := run_mas
  have hc := run_clone 59 hb
  clear h
  go_enter Try.func67, Try.ntmps67
  go_wp2_with fail
  go_ret
  exact ⟨rfl, Below.new (Below.refl _ _) _, ms, es, c, heap_alloc_new W _, hi⟩

theorem copied_fin {W w2 w3 : World} {m2 : Nat} {l : List Pr} {v2 : Value} (hs : SrtP l) (ht : TxtP l) (hb2 : Below W.heap.size W w2) (hr : (v2 = .slice none 0 0 ∧ keys l = []) ∨ ∃ e2 cur, W.drew.heap.size ≤ e2 ∧ Fresh w2 e2 cur 9 ∧ RowS w2 e2 (keys l) v2) (hb3 : Below W.heap.size W w3) (hb : Below w2.heap.size w2 w3) (hm : MapHas w3 m2 l) :
    Below W.heap.size W (w3.alloc (.cells (sCells v2 m2) 62)) ∧ ∃ e2, W.heap.size ≤ e2 ∧ StAt (w3.alloc (.cells (sCells v2 m2) 62)) w3.heap.size e2 m2 l v2 := by
  have B4 := Below.new (Below.refl w3.heap.size w3) (.cells (sCells v2 m2) 62)
  have F := Fresh.new w3 w3.heap.size (sCells v2 m2) 62 rfl
  refine ⟨Below.new hb3 _, ?_⟩
  have hm4 := hm.same (B4.block m2 hm.lt)
  rcases hr with ⟨h1, h2⟩ | ⟨e2, cur, h1, h2, h3⟩
  · exact ⟨w3.heap.size, hb3.size, ⟨F, rfl, rfl, ⟨.inl ⟨h1, h2⟩⟩, .inl rfl⟩, hm4, hs, ht⟩
  · have f3 := h2.below hb
    have r3 := h3.same (hb.block e2 h2.lt)
    exact ⟨e2, h1, ⟨F, rfl, rfl, r3.same (B4.block e2 f3.lt), .inr ⟨cur, f3.below B4⟩⟩, hm4, hs, ht⟩
theorem copied_any {W : World} {q e m : Nat} {l : List Pr} {v : Value} (h : StAt W q e m l v) (hn : l.length < 100000) :
    Calls Try.prog 56 #[.pointer (some ⟨q, 0, none⟩)] W fun e' w' => ∃ q' e2 m' v', W.heap.size ≤ q' ∧ W.heap.size ≤ e2 ∧ W.heap.size ≤ m' ∧ e' = .returned (.pointer (some ⟨q', 0, none⟩)) ∧ Below W.heap.size W w' ∧ StAt w' q' e2 m' l v' := by
  obtain ⟨ao, cap, hv, _⟩ := h.key.row.slice
  have HV := Lib.hid hv
  have HH := Lib.hid h
  have BD : Hid (Below W.heap.size W W.drew) := (Below.refl _ _).drew
  have KS : Hid (∀ W', Below W.heap.size W W' → W'.cell? ⟨q, 0, none⟩ = some v ∧ W'.cell? ⟨q, 1, none⟩ = some (.map (some m))) := fun W' hb => by
    obtain ⟨a0, a1, _⟩ := (HH.out.below hb).cells
    exact ⟨a0, a1⟩
  have K0 := KS.out W (Below.refl _ _)
  subst hv
  obtain ⟨k0, k1⟩ := K0
  clear h
  go_enter Try.func56, Try.ntmps56
  go_wp2_with fail
  go_region_held3 (fun W' => W'.cell? ⟨q, 0, none⟩ = some (.slice ao (keys l).length cap) ∧ W'.cell? ⟨q, 1, none⟩ = some (.map (some m)))
    (first | go_keep | exact KS.out _ HB2.out | exact KS.out _ HB3.out)
    (first
      | (go_at_call 66
         refine (cloneK_any (HH.out.below BD.out).key.row (HH.out.below BD.out).lt.2.1 (by rw [keys_len]; omega)).mono ?_
         rintro e1 w2 ⟨v2, rfl, hb2, hr2⟩
         obtain ⟨a2, n2, c2, rfl⟩ := slice_of hr2
         have HB2 := Lib.hid (Below.step BD.out hb2)
         have HR2 := Lib.hid hr2
         clear hb2 hr2)
      | (go_at_call 67
         refine (cloneM_any (HH.out.below HB2.out).map).mono ?_
         rintro e2 w3 ⟨rfl, hb3, hm3⟩
         have HS3 := Lib.hid hb3
         have HB3 := Lib.hid (Below.step HB2.out hb3)
         have HM3 := Lib.hid hm3
         clear hb3 hm3))
  all_goals
    clear k0 k1
    go_wp2_with fail
    go_ret
    obtain ⟨f1, e3, f3, f4⟩ := copied_fin HH.out.srt HH.out.txt HB2.out HR2.out HB3.out HS3.out HM3.out
    exact ⟨w3.heap.size, e3, w2.heap.size, _, HB3.out.size, f3, HB2.out.size, rfl, f1, f4⟩

end Go.Proofs.Ytfffifmpfkkgbaa
