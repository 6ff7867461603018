/- The keys of a store: insert, remove. -/
import Derived.Test.YtcpmnkihhenbgaaBk
namespace Go.Proofs.Ytcpmnkihhenbgaa
open Go.RowKit
set_option maxRecDepth 1000000
set_option maxHeartbeats 4000000

/-- A store's box: whatever it holds besides its keys. -/
structure KeyAt (W : World) (q e : Nat) (ks : List ByteArray) (cs : Array Value) (v : Value) : Prop where
  box : Fresh W q cs 72
  size : cs.size = 5
  v0 : cs[0]? = some v
  row : RowS W e ks v
  ety : e = q ∨ ∃ cur, Fresh W e cur 9
theorem KeyAt.lt {W : World} {q e : Nat} {ks : List ByteArray} {cs : Array Value} {v : Value} (h : KeyAt W q e ks cs v) : q < W.heap.size ∧ e < W.heap.size := by
  refine ⟨h.box.lt, ?_⟩
  rcases h.ety with h1 | ⟨cur, h1⟩
  · rw [h1]; exact h.box.lt
  · exact h1.lt
theorem KeyAt.same {W W' : World} {q e : Nat} {ks : List ByteArray} {cs : Array Value} {v : Value} (h : KeyAt W q e ks cs v) (hq : W'.heap[q]? = W.heap[q]?) (he : W'.heap[e]? = W.heap[e]?) : KeyAt W' q e ks cs v :=
  ⟨hq.trans h.box, h.size, h.v0, h.row.same he, by
    rcases h.ety with h1 | ⟨cur, h1⟩
    · exact .inl h1
    · exact .inr ⟨cur, he.trans h1⟩⟩
theorem KeyAt.below {W W' : World} {q e : Nat} {ks : List ByteArray} {cs : Array Value} {v : Value} (h : KeyAt W q e ks cs v) (hb : Below W.heap.size W W') : KeyAt W' q e ks cs v :=
  h.same (hb.block q h.lt.1) (hb.block e h.lt.2)
theorem fresh_ty {W : World} {p : Nat} {cs cs' : Array Value} {t t' : TypeId} (h : Fresh W p cs t) (h' : Fresh W p cs' t') : t = t' := by
  unfold Fresh at h h'
  rw [h] at h'
  cases h'
  rfl

theorem KeyAt.ne {W : World} {q e : Nat} {ks : List ByteArray} {cs : Array Value} {v : Value} (h : KeyAt W q e ks cs v) (hl : 0 < ks.length) : q ≠ e := by
  rintro rfl
  rcases h.row.form with ⟨_, h2⟩ | ⟨cap, cur, _, hf, _⟩
  · rw [h2] at hl; cases hl
  · exact absurd (fresh_ty h.box hf) (by decide)
theorem KeyAt.one {W : World} {q e : Nat} {ks : List ByteArray} {cs : Array Value} {v : Value} (h : KeyAt W q e ks cs v) : q ≠ e ∨ v = .slice none 0 0 := by
  rcases h.row.form with ⟨h1, _⟩ | ⟨cap, cur, _, hf, _⟩
  · exact .inr h1
  · left
    rintro rfl
    exact absurd (fresh_ty h.box hf) (by decide)
theorem KeyAt.back {W : World} {q e : Nat} {ks : List ByteArray} {cs : Array Value} {v : Value} (h : KeyAt W q e ks cs v) : cs.setIfInBounds 0 v = cs := by
  apply Array.ext_getElem?
  intro i
  by_cases hi : i = 0
  · subst hi
    rw [Array.getElem?_setIfInBounds_self_of_lt (by rw [h.size]; decide), h.v0]
  · rw [Array.getElem?_setIfInBounds_ne (fun e => hi e.symm)]
/-- What a change of the row makes of the store, once it is stored. -/
theorem KeyAt.put {W w1 w2 : World} {q e e2 : Nat} {ks ks2 : List ByteArray} {cs : Array Value} {v v2 : Value} (hb1 : Below W.heap.size W w1) (h : KeyAt w1 q e ks cs v) (hql : q < W.heap.size) (_ : e < W.heap.size) (hq : q ≠ e ∨ w2.heap[q]? = w1.heap[q]?) (ht : Turned [e] w1 w2) (_ : e2 = e ∨ W.heap.size ≤ e2) (hr : RowS w2 e2 ks2 v2) (hf : ∃ cur, Fresh w2 e2 cur 9) :
    Turned [q, e] W (w2.setCell ⟨q, 0, none⟩ v2) ∧ KeyAt (w2.setCell ⟨q, 0, none⟩ v2) q e2 ks2 (cs.setIfInBounds 0 v2) v2 := by
  have hbx : Fresh w2 q cs 72 := by
    rcases hq with hq | hq
    · exact ht.other h.box (by simpa using hq)
    · exact hq.trans h.box
  obtain ⟨cur, hf⟩ := hf
  have hne : e2 ≠ q := by
    rintro rfl
    exact absurd (fresh_ty hbx hf) (by decide)
  have hk := Below.heap_setCell w2 ⟨q, 0, none⟩ v2 e2 hne
  refine ⟨(((Turned.of_below hb1).trans (ht.wide (by simp))).setCell (.inl (by simp)) 0 v2), hbx.set 0 v2, by simp [h.size], by rw [Array.getElem?_setIfInBounds_self_of_lt (by rw [h.size]; decide)], hr.same hk, .inr ⟨cur, hk.trans hf⟩⟩

theorem remove_any {W : World} {q e : Nat} {ks : List ByteArray} {cs : Array Value} {v : Value} (h : KeyAt W q e ks cs v) (hs : SrtK ks) (hn : ks.length < 1000000) (x : ByteArray) :
    Calls Try.prog 77 #[.pointer (some ⟨q, 0, none⟩), .string x] W fun e' w' => (∃ u, e' = .returned u) ∧ ∃ v', Turned [q, e] W w' ∧ KeyAt w' q e (ks.filter fun k => !decide (k = x)) (cs.setIfInBounds 0 v') v' := by
  have c0 := (h.box.cell 0).trans h.v0
  have f0 := h.box.thawed 0
  have HS := Lib.hid hs
  have HH := Lib.hid h
  obtain ⟨r, hr⟩ : ∃ r, hasK x ks = r := ⟨_, rfl⟩
  have HR := Lib.hid hr
  obtain ⟨a, ha⟩ : ∃ a, atK x ks = a := ⟨_, rfl⟩
  have HA := Lib.hid ha
  have hql := h.lt.1
  have hel := h.lt.2
  clear h hs hr ha
  go_enter Try.func77, Try.ntmps77
  cases r
  · have e1 : Hid ((ks.filter fun k => !decide (k = x)) = ks) := by
      refine filterK_none (fun hx => ?_)
      rw [← hasK_iff, HR.out] at hx
      cases hx
    go_wp2_with (go_at_call 53; refine (search_any HH.out.row HS.out hn x).mono ?_; rw [HR.out, HA.out]; rintro e1 w1 ⟨rfl, hb1⟩)
    go_end0
    refine ⟨⟨_, rfl⟩, v, Turned.of_below hb1, ?_⟩
    rw [e1.out]
    have h1 := HH.out.below hb1
    rw [h1.back]
    exact h1
  · have hal : a < ks.length := by
      have := (atK_mem HS.out x).1 ((hasK_iff x ks).1 HR.out)
      rw [HA.out] at this
      exact (List.getElem?_eq_some_iff.1 this).1
    have e1 : Hid (ks.take a ++ ks.drop (a + 1) = ks.filter fun k => !decide (k = x)) := by
      have := eraseK HS.out ((hasK_iff x ks).1 HR.out)
      rw [HA.out] at this
      exact this
    have HL := Lib.hid hal
    have NE : Hid (q ≠ e) := HH.out.ne (by omega)
    have hw : IntKind.i64.wrap ((a : Int) + 1) = (a : Int) + 1 := by rw [IntKind.wrap_i64]; omega
    clear hal
    go_wp2_with (first
      | (go_at_call 53; refine (search_any HH.out.row HS.out hn x).mono ?_; rw [HR.out, HA.out]; rintro e1 w1 ⟨rfl, hb1⟩; have H1 := Lib.hid (HH.out.below hb1); have c1 := (H1.out.box.cell 0).trans H1.out.v0; have f1 := H1.out.box.thawed 0)
      | (go_at_call 100; refine (delete_any H1.out.row HL.out).mono ?_; rintro e2 w2 ⟨v2, rfl, ht2, hr2, hf2⟩; obtain ⟨a2, n2, m2, rfl⟩ := hr2.slice'; have F2 := (ht2.other H1.out.box (by simpa using NE.out)); have g2 := F2.cell 0; have k2 := F2.thawed 0; rw [H1.out.v0] at g2))
    go_end0
    have := KeyAt.put hb1 H1.out hql hel (.inl NE.out) ht2 (.inl rfl) hr2 hf2
    rw [e1.out] at this
    exact ⟨⟨_, rfl⟩, _, this⟩

theorem insert_key {W : World} {q e : Nat} {ks : List ByteArray} {cs : Array Value} {v : Value} (h : KeyAt W q e ks cs v) (hs : SrtK ks) (hn : ks.length < 999999) (x : ByteArray) (hx : x ∉ ks) :
    Calls Try.prog 78 #[.pointer (some ⟨q, 0, none⟩), .string x] W fun e' w' => (∃ u, e' = .returned u) ∧ ∃ v' e2, (e2 = e ∨ W.heap.size ≤ e2) ∧ Turned [q, e] W w' ∧ KeyAt w' q e2 (ks.take (atK x ks) ++ x :: ks.drop (atK x ks)) (cs.setIfInBounds 0 v') v' := by
  have c0 := (h.box.cell 0).trans h.v0
  have f0 := h.box.thawed 0
  have HS := Lib.hid hs
  have HH := Lib.hid h
  have HR : Hid (hasK x ks = false) := by
    show _ = _
    cases e : hasK x ks
    · rfl
    · exact absurd ((hasK_iff x ks).1 e) hx
  have hal := atK_le x ks
  obtain ⟨a, ha⟩ : ∃ a, atK x ks = a := ⟨_, rfl⟩
  have HA := Lib.hid ha
  rw [ha] at hal ⊢
  have HL := Lib.hid hal
  have hql := h.lt.1
  have hel := h.lt.2
  clear h hs ha hal hx
  go_enter Try.func78, Try.ntmps78
  go_wp2_with (first
    | (go_at_call 53; refine (search_any HH.out.row HS.out (by omega) x).mono ?_; rw [HR.out, HA.out]; rintro e1 w1 ⟨rfl, hb1⟩; have H1 := Lib.hid (HH.out.below hb1); have c1 := (H1.out.box.cell 0).trans H1.out.v0; have f1 := H1.out.box.thawed 0)
    | (go_at_call 101
       have B2 := Below.new (Below.refl w1.heap.size w1) (.cells #[.string x] 9)
       have H2 := Lib.hid (H1.out.below B2)
       refine (insert_any H2.out.row x HL.out (by omega) (Fresh.new w1 w1.heap.size _ _ rfl) (Nat.ne_of_gt H1.out.lt.2)).mono ?_
       rintro e2 w2 ⟨v2, e3, rfl, he3, ht2, hr2, hz2, hf2⟩
       have hq2 : w2.heap[q]? = (w1.alloc (.cells #[.string x] 9)).heap[q]? := by
         rcases H2.out.one with h1 | h1
         · exact ht2.block q H2.out.lt.1 (by simpa using h1)
         · exact (hz2 h1).block q H2.out.lt.1 (by simp)
       obtain ⟨a2, n2, m2, rfl⟩ := hr2.slice'
       have F2 := hq2.trans H2.out.box
       have g2 := Fresh.cell F2 0
       have k2 := Fresh.thawed F2 0
       rw [H1.out.v0] at g2))
  go_end0
  have hb2 := Below.step hb1 B2
  have hs2 := hb2.size
  have := KeyAt.put hb2 H2.out hql hel (.inr hq2) ht2 (he3.imp id (fun h => Nat.le_trans hs2 h)) hr2 hf2
  exact ⟨⟨_, rfl⟩, _, e3, he3.imp id (fun h => Nat.le_trans hs2 h), this⟩
end Go.Proofs.Ytcpmnkihhenbgaa
