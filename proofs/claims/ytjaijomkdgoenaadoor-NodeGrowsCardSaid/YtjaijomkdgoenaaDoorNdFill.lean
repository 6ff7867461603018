/- The node that holds what a table holds. -/
import Derived.Test.YtjaijomkdgoenaaDoorNdRow
import Derived.Test.YtjaijomkdgoenaaDoorGFx
import Derived.Deep.OwnRows
import Derived.Laws.AppendOwn
import Derived.Laws.OwnMore
namespace Go.Proofs.YtjaijomkdgoenaaDoor.Nd
open Go.RowKit
open Mn
set_option maxRecDepth 1000000
set_option maxHeartbeats 4000000

theorem row_keep {W W' : World} {B n z : Nat} {e : TypeId} {v : Value} {xs : List Value} (h : W.ownsRow B e z v n xs) (hb : ∀ k, v.ownBlock = some k → W'.heap[k]? = W.heap[k]?) : W'.ownsRow B e z v n xs := by
  obtain ⟨h1, h2⟩ := h
  refine ⟨h1, ?_⟩
  rcases h2 with h2 | ⟨g, cap, cur, rfl, h4, h5, h6⟩
  · exact .inl h2
  · exact .inr ⟨g, cap, cur, rfl, h4, (hb g rfl).trans h5, h6⟩
theorem row_type {W : World} {B n z : Nat} {e : TypeId} {v : Value} {xs : List Value} (h : W.ownsRow B e z v n xs) {k : Nat} (hk : v.ownBlock = some k) : ∃ cs, W.heap[k]? = some (.cells cs e (0, 0)) := by
  obtain ⟨_, h2⟩ := h
  rcases h2 with ⟨rfl, _⟩ | ⟨g, cap, cur, rfl, h4, h5, h6⟩
  · cases hk
  · cases hk
    exact ⟨cur, h5⟩
theorem row_apart {W : World} {B n z : Nat} {e : TypeId} {v : Value} {xs : List Value} (h : W.ownsRow B e z v n xs) {p : Nat} {cs : Array Value} {t : TypeId} (hf : Fresh W p cs t) (ht : t ≠ e) : v.ownBlock ≠ some p := by
  intro hk
  obtain ⟨cs', h1⟩ := row_type h hk
  unfold Fresh at hf
  rw [hf] at h1
  cases h1
  exact ht rfl
theorem row_two {W : World} {B n z n' z' : Nat} {e e' : TypeId} {v v' : Value} {xs xs' : List Value} (h : W.ownsRow B e z v n xs) (h' : W.ownsRow B e' z' v' n' xs') (he : e ≠ e') {k : Nat} (hk : v.ownBlock = some k) : some k ≠ v'.ownBlock := by
  intro e2
  obtain ⟨cs, h1⟩ := row_type h hk
  obtain ⟨cs', h2⟩ := row_type h' e2.symm
  rw [h1] at h2
  cases h2
  exact he rfl
theorem infoU : ∃ i0 : TypeInfo, Tryd.prog.info? 5 = some i0 ∧ i0.zero = some (.int .u8 0) ∧ i0.size = 1 ∧ i0.bytes = 1 := by
  have h : (Tryd.prog.info? 5).map (fun i => (i.zero, i.size, i.bytes)) = some (some (.int .u8 0), 1, 1) := by kernel_rfl
  cases hi : Tryd.prog.info? 5 with
  | none => rw [hi] at h; simp at h
  | some i0 =>
    rw [hi] at h
    simp only [Option.map_some, Option.some.injEq, Prod.mk.injEq] at h
    exact ⟨i0, rfl, h.1, h.2.1, h.2.2⟩
theorem infoR : ∃ i0 : TypeInfo, Tryd.prog.info? 29 = some i0 ∧ i0.zero = some (.agg #[.int .i64 0, .int .u32 0]) ∧ i0.size = 2 ∧ i0.bytes = 16 := by
  have h : (Tryd.prog.info? 29).map (fun i => (i.zero, i.size, i.bytes)) = some (some (.agg #[.int .i64 0, .int .u32 0]), 2, 16) := by kernel_rfl
  cases hi : Tryd.prog.info? 29 with
  | none => rw [hi] at h; simp at h
  | some i0 =>
    rw [hi] at h
    simp only [Option.map_some, Option.some.injEq, Prod.mk.injEq] at h
    exact ⟨i0, rfl, h.1, h.2.1, h.2.2⟩

/-- The rows of a node of its own, as slices. -/
theorem own_br {W : World} {C : Nat} {v : Value} {l : List En} (h : W.ownsRow C 5 1 v l.length (Fw.bytesOf l)) : BR W (l.map (·.1)) v := by
  obtain ⟨_, h2⟩ := h
  rcases h2 with ⟨rfl, h3⟩ | ⟨g, cap, cur, rfl, h4, h5, h6, h7, h8, h9⟩
  · have : l = [] := List.eq_nil_of_length_eq_zero h3
    subst this
    exact BR.nil W
  · refine ⟨_, cap, by rw [List.length_map], ?_⟩
    intro j k hj
    have hb : (Fw.bytesOf l)[j]? = some (.int .u8 (k.toNat : Int)) := by
      rw [List.getElem?_map] at hj
      unfold Fw.bytesOf
      rw [List.getElem?_map]
      cases hlj : l[j]? with
      | none => rw [hlj] at hj; cases hj
      | some x => rw [hlj] at hj; cases hj; rfl
    have hlt : g < W.heap.size := (Array.getElem?_eq_some_iff.1 h5).1
    refine ⟨g, 0, rfl, hlt, ?_⟩
    have hf : Fresh W g cur 5 := h5
    rw [Nat.zero_add, hf.cell j]
    rw [← h9, List.getElem?_take] at hb
    split at hb
    · simpa using hb
    · cases hb
theorem own_rr {W : World} {C : Nat} {v : Value} {l : List En} (h : W.ownsRow C 29 2 v l.length (Fw.refsOf l)) : RR W (l.map (·.2)) v := by
  obtain ⟨_, h2⟩ := h
  rcases h2 with ⟨rfl, h3⟩ | ⟨g, cap, cur, rfl, h4, h5, h6, h7, h8, h9⟩
  · have : l = [] := List.eq_nil_of_length_eq_zero h3
    subst this
    exact RR.nil W
  · refine ⟨_, cap, by rw [List.length_map], ?_⟩
    intro j r hj
    have hlt : g < W.heap.size := (Array.getElem?_eq_some_iff.1 h5).1
    have hf : Fresh W g cur 29 := h5
    rw [List.getElem?_map] at hj
    cases hlj : l[j]? with
    | none => rw [hlj] at hj; cases hj
    | some x =>
      rw [hlj] at hj
      cases hj
      obtain ⟨hjl, hx⟩ := List.getElem?_eq_some_iff.1 hlj
      obtain ⟨r1, r2⟩ := Fw.refs_get l j hjl
      rw [hx] at r1 r2
      refine ⟨g, 0, rfl, hlt, ?_, ?_⟩
      · rw [Nat.zero_add, hf.cell]
        rw [← h9, List.getElem?_take] at r1
        split at r1
        · simpa using r1
        · cases r1
      · rw [Nat.zero_add, hf.cell]
        rw [← h9, List.getElem?_take] at r2
        split at r2
        · simpa using r2
        · cases r2
theorem own_form {W : World} {B n z : Nat} {e : TypeId} {v : Value} {xs : List Value} (h : W.ownsRow B e z v n xs) : ∃ ao cap, v = .slice ao n cap := by
  obtain ⟨_, h2⟩ := h
  rcases h2 with ⟨rfl, rfl⟩ | ⟨g, cap, cur, rfl, _⟩
  · exact ⟨_, _, rfl⟩
  · exact ⟨_, _, rfl⟩

/-- The zero node's cells. -/
def zeroC : Array Value := #[.int .i64 0, .string ⟨#[]⟩, .string ⟨#[]⟩, .string ⟨#[]⟩, .slice none 0 0, .slice none 0 0]
/-- What stands while the node is filled: kb bytes and kr kids of L. -/
structure WiX (w W : World) (X Z C : Nat) (n : No) (L : List En) (vb vr : Value) (kb kr : Nat) : Prop where
  low : Below w.heap.size w W
  fx : Fresh W X #[.int .i64 n.k, .string n.c, .string n.v, .string n.p, vb, vr] 26
  fz : Fresh W Z zeroC 26
  ob : W.ownsRow C 5 1 vb kb (Fw.bytesOf (L.take kb))
  orr : W.ownsRow C 29 2 vr kr (Fw.refsOf (L.take kr))
  hC : w.heap.size ≤ X ∧ w.heap.size ≤ Z ∧ X ≠ Z ∧ X + 1 ≤ C ∧ Z + 1 ≤ C
theorem WiX.same {w W W' : World} {X Z C : Nat} {n : No} {L : List En} {vb vr : Value} {kb kr : Nat} (h : WiX w W X Z C n L vb vr kb kr) (hl : Below w.heap.size w W')
    (hb : ∀ k, k < W.heap.size → (∃ cs T, W.heap[k]? = some (.cells cs T (0, 0))) → W'.heap[k]? = W.heap[k]?) : WiX w W' X Z C n L vb vr kb kr :=
  ⟨hl, (hb X h.fx.lt ⟨_, _, h.fx⟩).trans h.fx, (hb Z h.fz.lt ⟨_, _, h.fz⟩).trans h.fz,
   row_keep h.ob (fun k hk => hb k (h.ob.lt k hk).2 (by obtain ⟨cs, e⟩ := row_type h.ob hk; exact ⟨cs, _, e⟩)),
   row_keep h.orr (fun k hk => hb k (h.orr.lt k hk).2 (by obtain ⟨cs, e⟩ := row_type h.orr hk; exact ⟨cs, _, e⟩)), h.hC⟩
theorem WiX.below {w W W' : World} {X Z C : Nat} {n : No} {L : List En} {vb vr : Value} {kb kr : Nat} (h : WiX w W X Z C n L vb vr kb kr) (hb : Below W.heap.size W W') : WiX w W' X Z C n L vb vr kb kr :=
  h.same (Below.step h.low hb) (fun k hk _ => hb.block k hk)
theorem WiX.kept {w W W' : World} {row : Option Nat} {X Z C : Nat} {n : No} {L : List En} {vb vr : Value} {kb kr : Nat} (h : WiX w W X Z C n L vb vr kb kr) (hg : W.grownBy W' row) (hr : ∀ r, row = some r → w.heap.size ≤ r ∧ ∃ o : Obj, W.heap[r]? = some o ∧ o.isCells = false) : WiX w W' X Z C n L vb vr kb kr :=
  h.same (h.low.grown hg h.low.size (fun r e => (hr r e).1)) (fun k hk ⟨cs, T, hcs⟩ => hg.block k hk (fun e => by
    obtain ⟨o, ho, hc⟩ := (hr k e.symm).2
    rw [hcs] at ho
    cases ho
    cases hc))
/-- One byte more. -/
theorem WiX.pushB {w W w7 : World} {X Z C : Nat} {n : No} {L : List En} {vb vr v7 : Value} {kb kr : Nat} {os : Array Value} {news : List Value} (h : WiX w W X Z C n L vb vr kb kr)
    (hown : w7.ownsRow C 5 1 v7 (kb + 1) (Fw.bytesOf (L.take kb) ++ news)) (hg : (W.alloc (.cells os 5)).grownBy w7 vb.ownBlock)
    (hbt : Fw.bytesOf (L.take (kb + 1)) = Fw.bytesOf (L.take kb) ++ news) :
    w7.cell? ⟨X, 4, none⟩ = some vb ∧ w7.frozen? ⟨X, 4, none⟩ = false ∧ WiX w (w7.setCell ⟨X, 4, none⟩ v7) X Z C n L v7 vr (kb + 1) kr ∧ Fw.KeepT [X] W (w7.setCell ⟨X, 4, none⟩ v7) ∧
      (∀ (p : Nat) (cs : Array Value) (t : TypeId), Fresh W p cs t → p ≠ X → t ≠ 5 → Fresh (w7.setCell ⟨X, 4, none⟩ v7) p cs t) := by
  have low : Below W.heap.size W (W.alloc (.cells os 5)) := Below.new (Below.refl _ _) _
  have h1 := h.below low
  have hlt : ∀ b, vb.ownBlock = some b → C ≤ b := fun b hb => (h.ob.lt b hb).1
  have hC := h.hC
  have hnX : some X ≠ vb.ownBlock := fun e => by have := hlt X e.symm; omega
  have hnZ : some Z ≠ vb.ownBlock := fun e => by have := hlt Z e.symm; omega
  have fx7 : Fresh w7 X _ _ := (hg.block X h1.fx.lt hnX).trans h1.fx
  have fz7 : Fresh w7 Z _ _ := (hg.block Z h1.fz.lt hnZ).trans h1.fz
  have hlow7 : Below w.heap.size w w7 := h1.low.grown hg h1.low.size (fun r e => by have := hlt r e; omega)
  have T : Turned (X :: vb.ownBlock.toList) W (w7.setCell ⟨X, 4, none⟩ v7) := by
    have t1 : Turned (X :: vb.ownBlock.toList) (W.alloc (.cells os 5)) w7 :=
      ⟨hg.os, hg.tape, hg.output, hg.size, fun b hb hn => hg.block b hb (fun e => hn (by rw [← e]; simp))⟩
    exact ((Turned.of_below low).trans t1).setCell (.inl (by simp)) _ _
  have hin : ∀ b ∈ (X :: vb.ownBlock.toList), b = X ∨ vb.ownBlock = some b := fun b hb => by
    rcases List.mem_cons.1 hb with rfl | hb
    · exact .inl rfl
    · exact .inr (by simpa using hb)
  have hset : ∀ b, b ≠ X → (w7.setCell ⟨X, 4, none⟩ v7).heap[b]? = w7.heap[b]? := fun b hb => Below.heap_setCell _ _ _ _ (by simpa using hb)
  have hnew := row_keep hown fun b hb => hset b (by have := (hown.lt b hb).1; omega)
  have hold := row_keep h.orr fun b hb => T.block b (h.orr.lt b hb).2 (fun e => by
    rcases hin b e with e | e
    · have := (h.orr.lt b hb).1; omega
    · exact row_two h.orr h.ob (by decide) hb e.symm)
  rw [← hbt] at hnew
  refine ⟨(fx7.cell 4).trans rfl, fx7.thawed 4, ⟨?_, fx7.set 4 _, fz7.other (by omega) _ _, hnew, hold, hC⟩, ⟨T.os, T.tape, T.output, T.size, fun b hb hn => ?_⟩, fun p cs t hf hp ht => ?_⟩
  · exact T.below h.low (fun b hb => by rcases hin b hb with rfl | e; · omega
                                        · have := hlt b e; omega) h.low.size
  · by_cases e : vb.ownBlock = some b
    · right
      obtain ⟨cs, hcs⟩ := row_type h.ob e
      exact ⟨cs, _, _, hcs, by first | exact .inl rfl | exact .inr rfl⟩
    · left
      exact T.block b hb (fun e2 => by
        rcases hin b e2 with rfl | e2
        · exact hn (by simp)
        · exact e e2)
  · exact (T.block p hf.lt (fun e => by
      rcases hin p e with e | e
      · exact hp e
      · exact row_apart h.ob hf ht e)).trans hf
/-- One kid more. -/
theorem WiX.pushR {w W w7 : World} {X Z C : Nat} {n : No} {L : List En} {vb vr v7 : Value} {kb kr : Nat} {os : Array Value} {news : List Value} (h : WiX w W X Z C n L vb vr kb kr)
    (hown : w7.ownsRow C 29 2 v7 (kr + 1) (Fw.refsOf (L.take kr) ++ news)) (hg : (W.alloc (.cells os 29)).grownBy w7 vr.ownBlock)
    (hbt : Fw.refsOf (L.take (kr + 1)) = Fw.refsOf (L.take kr) ++ news) :
    w7.cell? ⟨X, 5, none⟩ = some vr ∧ w7.frozen? ⟨X, 5, none⟩ = false ∧ WiX w (w7.setCell ⟨X, 5, none⟩ v7) X Z C n L vb v7 kb (kr + 1) ∧ Fw.KeepT [X] W (w7.setCell ⟨X, 5, none⟩ v7) ∧
      (∀ (p : Nat) (cs : Array Value) (t : TypeId), Fresh W p cs t → p ≠ X → t ≠ 29 → Fresh (w7.setCell ⟨X, 5, none⟩ v7) p cs t) := by
  have low : Below W.heap.size W (W.alloc (.cells os 29)) := Below.new (Below.refl _ _) _
  have h1 := h.below low
  have hlt : ∀ b, vr.ownBlock = some b → C ≤ b := fun b hb => (h.orr.lt b hb).1
  have hC := h.hC
  have hnX : some X ≠ vr.ownBlock := fun e => by have := hlt X e.symm; omega
  have hnZ : some Z ≠ vr.ownBlock := fun e => by have := hlt Z e.symm; omega
  have fx7 : Fresh w7 X _ _ := (hg.block X h1.fx.lt hnX).trans h1.fx
  have fz7 : Fresh w7 Z _ _ := (hg.block Z h1.fz.lt hnZ).trans h1.fz
  have hlow7 : Below w.heap.size w w7 := h1.low.grown hg h1.low.size (fun r e => by have := hlt r e; omega)
  have T : Turned (X :: vr.ownBlock.toList) W (w7.setCell ⟨X, 5, none⟩ v7) := by
    have t1 : Turned (X :: vr.ownBlock.toList) (W.alloc (.cells os 29)) w7 :=
      ⟨hg.os, hg.tape, hg.output, hg.size, fun b hb hn => hg.block b hb (fun e => hn (by rw [← e]; simp))⟩
    exact ((Turned.of_below low).trans t1).setCell (.inl (by simp)) _ _
  have hin : ∀ b ∈ (X :: vr.ownBlock.toList), b = X ∨ vr.ownBlock = some b := fun b hb => by
    rcases List.mem_cons.1 hb with rfl | hb
    · exact .inl rfl
    · exact .inr (by simpa using hb)
  have hset : ∀ b, b ≠ X → (w7.setCell ⟨X, 5, none⟩ v7).heap[b]? = w7.heap[b]? := fun b hb => Below.heap_setCell _ _ _ _ (by simpa using hb)
  have hnew := row_keep hown fun b hb => hset b (by have := (hown.lt b hb).1; omega)
  have hold := row_keep h.ob fun b hb => T.block b (h.ob.lt b hb).2 (fun e => by
    rcases hin b e with e | e
    · have := (h.ob.lt b hb).1; omega
    · exact row_two h.ob h.orr (by decide) hb e.symm)
  rw [← hbt] at hnew
  refine ⟨(fx7.cell 5).trans rfl, fx7.thawed 5, ⟨?_, fx7.set 5 _, fz7.other (by omega) _ _, hold, hnew, hC⟩, ⟨T.os, T.tape, T.output, T.size, fun b hb hn => ?_⟩, fun p cs t hf hp ht => ?_⟩
  · exact T.below h.low (fun b hb => by rcases hin b hb with rfl | e; · omega
                                        · have := hlt b e; omega) h.low.size
  · by_cases e : vr.ownBlock = some b
    · right
      obtain ⟨cs, hcs⟩ := row_type h.orr e
      exact ⟨cs, _, _, hcs, by first | exact .inl rfl | exact .inr rfl⟩
    · left
      exact T.block b hb (fun e2 => by
        rcases hin b e2 with rfl | e2
        · exact hn (by simp)
        · exact e e2)
  · exact (T.block p hf.lt (fun e => by
      rcases hin p e with e | e
      · exact hp e
      · exact row_apart h.orr hf ht e)).trans hf
/-- The filled node, copied to its result box. -/
theorem with_fin {w W5 W6 W7 : World} {X Z C D : Nat} {n : No} {L : List En} {ab ar : Option Addr} {kb kr m : Nat} (hM : WiX w W5 X Z C n L (.slice ab m kb) (.slice ar m kr) m m) (hm : L.length = m) (h6 : Turned [X] W5 W6)
    (hD : C ≤ D) (hd : W5.heap[D]? = some (.deferred (some []))) (k : Int)
    (h7 : W7 = (((((W6.setCell ⟨Z, 0, none⟩ (.int .i64 k)).setCell ⟨Z, 1, none⟩ (.string n.c)).setCell ⟨Z, 2, none⟩ (.string n.v)).setCell ⟨Z, 3, none⟩ (.string n.p)).setCell ⟨Z, 4, none⟩ (.slice ab m kb)).setCell ⟨Z, 5, none⟩ (.slice ar m kr)) :
    W7.heap[D]? = some (.deferred (some [])) ∧ Below w.heap.size w (W7.putObj D (.deferred none)) ∧
      Fresh (W7.putObj D (.deferred none)) Z #[.int .i64 k, .string n.c, .string n.v, .string n.p, .slice ab m kb, .slice ar m kr] 26 ∧
      BR (W7.putObj D (.deferred none)) (L.map (·.1)) (.slice ab m kb) ∧ RR (W7.putObj D (.deferred none)) (L.map (·.2)) (.slice ar m kr) := by
  have hC := hM.hC
  have fz6 : Fresh W6 Z zeroC 26 := h6.other hM.fz (by simp; omega)
  have T7 : Turned [X, Z] W5 W7 := by
    rw [h7]
    exact ((((((h6.wide (S' := [X, Z]) (by intro k hk; simp at hk; simp [hk])).setCell (.inl (by simp)) _ _).setCell (.inl (by simp)) _ _).setCell (.inl (by simp)) _ _).setCell (.inl (by simp)) _ _).setCell (.inl (by simp)) _ _).setCell (.inl (by simp)) _ _
  have fz7 : Fresh W7 Z #[.int .i64 k, .string n.c, .string n.v, .string n.p, .slice ab m kb, .slice ar m kr] 26 := by
    rw [h7]
    exact (((((fz6.set 0 _).set 1 _).set 2 _).set 3 _).set 4 _).set 5 _
  have hDl : D < W5.heap.size := (Array.getElem?_eq_some_iff.1 hd).1
  have d7 : W7.heap[D]? = some (.deferred (some [])) := (T7.block D hDl (by simp; omega)).trans hd
  have T8 : Turned [X, Z, D] W5 (W7.putObj D (.deferred none)) := (T7.wide (by intro k hk; simp at hk; simp; omega)).trans (Turned.put (by simp) _)
  have hn : ∀ b, C ≤ b → (∃ cs T, W5.heap[b]? = some (.cells cs T (0, 0))) → b ∉ [X, Z, D] := by
    rintro b hb ⟨cs, T, hcs⟩ hmem
    simp only [List.mem_cons, List.not_mem_nil, or_false] at hmem
    rcases hmem with rfl | rfl | rfl
    · omega
    · omega
    · rw [hd] at hcs; cases hcs
  have ob := row_keep hM.ob fun b hb => T8.block b (hM.ob.lt b hb).2 (hn b (hM.ob.lt b hb).1 (by obtain ⟨cs, e⟩ := row_type hM.ob hb; exact ⟨cs, _, e⟩))
  have orr := row_keep hM.orr fun b hb => T8.block b (hM.orr.lt b hb).2 (hn b (hM.orr.lt b hb).1 (by obtain ⟨cs, e⟩ := row_type hM.orr hb; exact ⟨cs, _, e⟩))
  subst hm
  rw [List.take_of_length_le (Nat.le_refl _)] at ob orr
  refine ⟨d7, T8.below hM.low (by intro b hb; simp at hb; omega) hM.low.size, ?_, own_br ob, own_rr orr⟩
  exact (World.putObj_heap_other (by omega)).trans fz7
end Go.Proofs.YtjaijomkdgoenaaDoor.Nd
