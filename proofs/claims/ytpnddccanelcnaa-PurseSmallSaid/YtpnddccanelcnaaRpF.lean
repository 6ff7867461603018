/- The reference model's purse: its small functions. -/
import Derived.Test.YtpnddccanelcnaaRpL
import Derived.Deep.RegionHeld3
import Derived.Deep.AppendSrc
import Derived.Maps.AppendAt
import Derived.BigRegion
import Derived.Deep.DeepCutAuto
namespace Go.Proofs.Ytpnddccanelcnaa
open Go.RowKit
set_option maxRecDepth 100000
set_option maxHeartbeats 4000000

abbrev rv (r : Rp) (v : Value) : Value := .agg #[.int .u64 r.gk, .int .u64 r.gb, .int .u64 r.hk, .int .u64 r.hb, v]
def Row (W : World) (B : Nat) (v : Value) (l : List Tq) : Prop := W.ownsRow B 73 3 v l.length (tcells l)
theorem Row.low {W : World} {B C : Nat} {v : Value} {l : List Tq} (h : Row W B v l) (hC : C ≤ B) : Row W C v l := by
  obtain ⟨h1, h2⟩ := h
  refine ⟨h1, ?_⟩
  rcases h2 with h2 | ⟨g, cap, cur, h3, h4, h5⟩
  · exact .inl h2
  · exact .inr ⟨g, cap, cur, h3, Nat.le_trans hC h4, h5⟩
theorem Row.below {W W' : World} {B : Nat} {v : Value} {l : List Tq} (h : Row W B v l) (hb : Below W.heap.size W W') : Row W' B v l := by
  obtain ⟨h1, h2⟩ := h
  refine ⟨h1, ?_⟩
  rcases h2 with h2 | ⟨g, cap, cur, h3, h4, h5, h6⟩
  · exact .inl h2
  · exact .inr ⟨g, cap, cur, h3, h4, (hb.block g (Array.getElem?_eq_some_iff.1 h5).1).trans h5, h6⟩
theorem Row.nil (W : World) : Row W 0 (.slice none 0 0) [] := World.ownsRow_nil _ _ _ _
/-- What is read of it. -/
theorem Row.view {W : World} {B : Nat} {v : Value} {l : List Tq} (h : Row W B v l) : (v = .slice none 0 0 ∧ l = []) ∨ ∃ g cap, v = .slice (some ⟨g, 0, none⟩) l.length cap ∧ B ≤ g ∧ g < W.heap.size ∧ l.length ≤ cap ∧ cap ≤ maxLen ∧
    ∀ i t, l[i]? = some t → W.cell? ⟨g, i * 3, none⟩ = some (.int .u64 t.k) ∧ W.cell? ⟨g, i * 3 + 1, none⟩ = some (.int .u64 t.b) ∧ W.cell? ⟨g, i * 3 + 2, none⟩ = some (.bool t.o) := by
  obtain ⟨h1, h2⟩ := id h
  rcases h2 with ⟨rfl, h3⟩ | ⟨g, cap, cur, rfl, h4, h5, h6, h7, h8, h9⟩
  · exact .inl ⟨rfl, List.eq_nil_of_length_eq_zero h3⟩
  · refine .inr ⟨g, cap, rfl, h4, (Array.getElem?_eq_some_iff.1 h5).1, h6, h7, fun i t ht => ?_⟩
    have hc := World.ownsRow.cells (g := g) h rfl
    obtain ⟨a, b, c⟩ := tcells_at l i t ht
    have a' := hc _ _ a
    have b' := hc _ _ b
    have c' := hc _ _ c
    simp only [Addr.add_lit, Nat.zero_add] at a' b' c'
    exact ⟨a', b', c'⟩

theorem within2_any (a b c d : Int) (w : World) :
    Calls Try.prog 43 #[lim a b, lim c d] w fun e w' => e = .returned (.bool (decide (a ≤ c) && decide (b ≤ d))) ∧ Below w.heap.size w w' := by
  by_cases h1 : a ≤ c
  · by_cases h2 : b ≤ d
    · have t1 := decide_eq_true h1
      have t2 := decide_eq_true h2
      have H : Hid ((decide (a ≤ c) && decide (b ≤ d)) = true) := by show _ = _; rw [t1, t2]; rfl
      rw [H.out]
      clear h1 h2
      go_enter Try.func43, Try.ntmps43
      go_wp2_with fail
      go_ret
      exact ⟨rfl, Below.new (Below.new (Below.refl _ _) _) _⟩
    · have t1 := decide_eq_true h1
      have t2 := decide_eq_false h2
      have H : Hid ((decide (a ≤ c) && decide (b ≤ d)) = false) := by show _ = _; rw [t1, t2]; rfl
      rw [H.out]
      clear h1 h2
      go_enter Try.func43, Try.ntmps43
      go_wp2_with fail
      go_ret
      exact ⟨rfl, Below.new (Below.new (Below.refl _ _) _) _⟩
  · have t1 := decide_eq_false h1
    have H : Hid ((decide (a ≤ c) && decide (b ≤ d)) = false) := by show _ = _; rw [t1]; rfl
    rw [H.out]
    clear h1
    go_enter Try.func43, Try.ntmps43
    go_wp2_with fail
    go_ret
    exact ⟨rfl, Below.new (Below.new (Below.refl _ _) _) _⟩

/-- The box of a purse of the model. -/
abbrev rcells (r : Rp) (v : Value) : Array Value := #[.int .u64 r.gk, .int .u64 r.gb, .int .u64 r.hk, .int .u64 r.hb, v]
abbrev TR : TypeId := 31

theorem infoT : (Try.prog.info? 73).map (fun i => (i.zero, i.size, i.bytes)) = some (some (.agg #[.int .u64 0, .int .u64 0, .bool false]), 3, 24) := by kernel_rfl

theorem infoT_parts : ∃ i0 : TypeInfo, Try.prog.info? 73 = some i0 ∧ i0.zero = some (.agg #[.int .u64 0, .int .u64 0, .bool false]) ∧ i0.size = 3 ∧ i0.bytes = 24 := by
  have h := infoT
  cases hi : Try.prog.info? 73 with
  | none => rw [hi] at h; simp at h
  | some i0 =>
    rw [hi] at h
    simp only [Option.map_some, Option.some.injEq, Prod.mk.injEq] at h
    exact ⟨i0, rfl, h.1, h.2.1, h.2.2⟩
theorem row_empty (W : World) (B p : Nat) (hp : W.heap.size = p) (hB : B ≤ p) : (W.alloc (.cells #[] 73)).ownsRow B 73 3 (.slice (some ⟨p, 0, none⟩) 0 0) 0 [] := by
  subst hp
  exact ⟨rfl, .inr ⟨W.heap.size, 0, #[], rfl, hB, heap_alloc_new W _, Nat.le_refl _, by unfold maxLen; omega, rfl, rfl⟩⟩
theorem Fresh.grown {W W' : World} {p : Nat} {cs : Array Value} {t : TypeId} {row : Option Nat} (h : Fresh W p cs t) (hg : W.grownBy W' row) (hr : some p ≠ row) : Fresh W' p cs t := (hg.block p h.lt hr).trans h

/-- A purse of the model is stored in a box. -/
def set5 (W : World) (p : Nat) (r : Rp) (v : Value) : World := ((((W.setCell ⟨p, 0, none⟩ (.int .u64 r.gk)).setCell ⟨p, 1, none⟩ (.int .u64 r.gb)).setCell ⟨p, 2, none⟩ (.int .u64 r.hk)).setCell ⟨p, 3, none⟩ (.int .u64 r.hb)).setCell ⟨p, 4, none⟩ v
theorem set5_fresh {W : World} {p : Nat} {x0 x1 x2 x3 x4 : Value} (h : Fresh W p #[x0, x1, x2, x3, x4] TR) (r : Rp) (v : Value) : Fresh (set5 W p r v) p (rcells r v) TR :=
  ((((h.set 0 _).set 1 _).set 2 _).set 3 _).set 4 _
theorem set5_other {W : World} {p q : Nat} {cs : Array Value} {t : TypeId} (h : Fresh W q cs t) (hn : q ≠ p) (r : Rp) (v : Value) : Fresh (set5 W p r v) q cs t :=
  ((((h.other hn 0 _).other hn 1 _).other hn 2 _).other hn 3 _).other hn 4 _
theorem set5_below {n : Nat} {w W : World} {p : Nat} (h : Below n w W) (hn : n ≤ p) (r : Rp) (v : Value) : Below n w (set5 W p r v) :=
  ((((h.setCell hn _).setCell hn _).setCell hn _).setCell hn _).setCell hn _
theorem Row.keep {W W' : World} {B : Nat} {v : Value} {l : List Tq} (h : Row W B v l) (hb : ∀ k, B ≤ k → k < W.heap.size → W'.heap[k]? = W.heap[k]?) : Row W' B v l := by
  obtain ⟨h1, h2⟩ := h
  refine ⟨h1, ?_⟩
  rcases h2 with h2 | ⟨g, cap, cur, h3, h4, h5, h6⟩
  · exact .inl h2
  · exact .inr ⟨g, cap, cur, h3, h4, (hb g h4 (Array.getElem?_eq_some_iff.1 h5).1).trans h5, h6⟩
theorem Row.setCell {W : World} {B : Nat} {v : Value} {l : List Tq} (h : Row W B v l) {p : Nat} (hp : p < B) (i : Nat) (u : Value) : Row (W.setCell ⟨p, i, none⟩ u) B v l :=
  h.keep fun k hk _ => Below.heap_setCell W ⟨p, i, none⟩ u k (by show k ≠ p; omega)
theorem Row.set5 {W : World} {B : Nat} {v : Value} {l : List Tq} (h : Row W B v l) {p : Nat} (hp : p < B) (r : Rp) (u : Value) : Row (set5 W p r u) B v l :=
  ((((h.setCell hp 0 _).setCell hp 1 _).setCell hp 2 _).setCell hp 3 _).setCell hp 4 _

def OwnP (r : Rp) (w : World) (e : Ending) (w' : World) : Prop := ∃ v', e = .returned (rv r v') ∧ Below w.heap.size w w' ∧ Row w' w.heap.size v' r.l
theorem own_any (r : Rp) (v : Value) (w : World) (h : Row w 0 v r.l) (hn : r.l.length ≤ 1000) :
    Calls Try.prog 42 #[rv r v] w (OwnP r w) := by
  obtain ⟨i0, hi, hz0, hz1, hz2⟩ := infoT_parts
  have HR := Lib.hid h
  obtain ⟨W1, hW1⟩ : ∃ W1, W1 = w.alloc (.cells (rcells r v) TR) := ⟨_, rfl⟩
  obtain ⟨W2, hW2⟩ : ∃ W2, W2 = W1.alloc (.cells #[.int .u64 0, .int .u64 0, .int .u64 0, .int .u64 0, .slice none 0 0] TR) := ⟨_, rfl⟩
  obtain ⟨W3, hW3⟩ : ∃ W3, W3 = W2.alloc (.cells #[] 73) := ⟨_, rfl⟩
  have s1 : W1.heap.size = w.heap.size + 1 := by rw [hW1]; simp
  have s2 : W2.heap.size = w.heap.size + 1 + 1 := by rw [hW2]; simp [s1]
  have B3 : Hid (Below w.heap.size w W3) := by show Below _ _ _; rw [hW3, hW2, hW1]; exact Below.new (Below.new (Below.new (Below.refl _ _) _) _) _
  have F1 : Hid (Fresh W3 w.heap.size (rcells r v) TR) := by show Fresh _ _ _ _; rw [hW3, hW2, hW1]; exact ((Fresh.new _ _ _ _ rfl).alloc _).alloc _
  have F2 : Hid (Fresh W3 (w.heap.size + 1) #[.int .u64 0, .int .u64 0, .int .u64 0, .int .u64 0, .slice none 0 0] TR) := by show Fresh _ _ _ _; rw [hW3, hW2]; exact (Fresh.new _ _ _ _ s1).alloc _
  have HE : Hid (W3.ownsRow (w.heap.size + 1 + 1) 73 3 (.slice (some ⟨w.heap.size + 1 + 1, 0, none⟩) 0 0) 0 []) := by show World.ownsRow _ _ _ _ _ _ _; rw [hW3]; exact row_empty W2 _ _ s2 (Nat.le_refl _)
  have hs3 : w.heap.size + 1 + 1 ≤ W3.heap.size := by rw [hW3]; simp [s2]
  have HEQ : Hid (((w.alloc (.cells (rcells r v) TR)).alloc (.cells #[.int .u64 0, .int .u64 0, .int .u64 0, .int .u64 0, .slice none 0 0] TR)).alloc (.cells #[] 73) = W3) := by show _ = _; rw [hW3, hW2, hW1]
  have hs3' : w.heap.size ≤ W3.heap.size := by omega
  clear hW1 hW2 hW3 s1 s2
  have hfin : ∀ v' w1, w1.ownsRow (w.heap.size + 1 + 1) 73 3 v' r.l.length (tcells r.l) → W3.grownBy w1 (some (w.heap.size + 1 + 1)) →
      ∃ w9, w9 = w1 ∧ Below w.heap.size w w1 ∧ Fresh w1 w.heap.size (rcells r v) TR ∧ Fresh w1 (w.heap.size + 1) #[.int .u64 0, .int .u64 0, .int .u64 0, .int .u64 0, .slice none 0 0] TR := by
    intro v' w1 ho hg
    exact ⟨w1, rfl, B3.out.grown hg hs3' (fun j hj => by cases hj; omega), F1.out.grown hg (by simp; omega), F2.out.grown hg (by simp)⟩
  rcases h.view with ⟨rfl, hnil⟩ | ⟨g, cap, rfl, hB, hg, hc1, hc2, hcell⟩
  · obtain ⟨gk, gb, hk, hb, l⟩ := r
    obtain rfl : l = [] := hnil
    go_enter Try.func42, Try.ntmps42
    go_wp2_with fail
    exact bodyPost_ret (v := rv ⟨gk, gb, hk, hb, []⟩ (.slice (some ⟨w.heap.size + 1 + 1, 0, none⟩) 0 0)) (by simp [results, Try.results42, go_sem]) rfl ⟨_, rfl, Below.new (Below.new (Below.new (Below.refl _ _) _) _) _, row_empty _ _ _ (by simp) (by omega)⟩
  · have hnews : ∀ j u, (tcells r.l)[j]? = some u → W3.cell? ((⟨g, 0, none⟩ : Addr).add j) = some u := World.ownsRow.cells (g := g) (HR.out.below B3.out) rfl
    have HN := Lib.hid hnews
    clear hnews hcell h
    go_enter Try.func42, Try.ntmps42
    go_upto_region 1 with fail
    go_wp2_with (at_builtin; rw [HEQ.out]; refine wpList_append_own _ rfl (.tmp 3) (.tmp 5) 29 rfl (w.heap.size + 1 + 1) 73 i0 (.agg #[.int .u64 0, .int .u64 0, .bool false]) 3 24 Try.underlying29 hi hz0 hz1 hz2 rfl (by omega) (.slice (some ⟨w.heap.size + 1 + 1, 0, none⟩) 0 0) 0 [] rfl HE.out ⟨g, 0, none⟩ r.l.length cap (tcells r.l) rfl (tcells_length _) HN.out (tcells_one _) (by unfold maxLen; omega) (by omega) hs3 ?_)
    intro v' w1 hown hgrow hnn
    rcases Row.view (show Row w1 (w.heap.size + 1 + 1) v' r.l from hown) with ⟨e, _⟩ | ⟨g', cap', rfl, hB', hg', hc1', hc2', _⟩
    · exact absurd e hnn
    clear hnn
    obtain ⟨w9, rfl, hb9, hf1, hf2⟩ := hfin _ w1 hown hgrow
    have H1 := Lib.hid hf1
    have H2 := Lib.hid hf2
    have HB9 := Lib.hid hb9
    have HO := Lib.hid hown
    have c0 := hf1.cell 0
    have c1 := hf1.cell 1
    have c2 := hf1.cell 2
    have c3 := hf1.cell 3
    have c4 := hf1.cell 4
    have d0 := hf2.cell 0
    have d1 := hf2.cell 1
    have d2 := hf2.cell 2
    have d3 := hf2.cell 3
    have d4 := hf2.cell 4
    simp only [rcells, List.getElem?_toArray, List.getElem?_cons_zero, List.getElem?_cons_succ] at c0 c1 c2 c3 c4 d0 d1 d2 d3 d4
    have z1 := fun i => hf1.thawed i
    have z2 := fun i => hf2.thawed i
    clear hf1 hf2 hb9 hown hgrow
    go_wp2_with fail
    obtain ⟨W9, hW9⟩ : ∃ W9, W9 = set5 (w9.setCell ⟨w.heap.size, 4, none⟩ (.slice (some ⟨g', 0, none⟩) r.l.length cap')) (w.heap.size + 1) r (.slice (some ⟨g', 0, none⟩) r.l.length cap') := ⟨_, rfl⟩
    show bodyPost _ _ _ _ _ (set5 (w9.setCell ⟨w.heap.size, 4, none⟩ (.slice (some ⟨g', 0, none⟩) r.l.length cap')) (w.heap.size + 1) r (.slice (some ⟨g', 0, none⟩) r.l.length cap'))
    rw [← hW9]
    have R9 : Fresh W9 (w.heap.size + 1) (rcells r (.slice (some ⟨g', 0, none⟩) r.l.length cap')) TR := by rw [hW9]; exact set5_fresh (H2.out.other (by omega) 4 _) r _
    have B9 : Below w.heap.size w W9 := by rw [hW9]; exact set5_below (Below.setCell HB9.out (Nat.le_refl _) _) (by omega) r _
    have O9 : Row W9 (w.heap.size + 1 + 1) (.slice (some ⟨g', 0, none⟩) r.l.length cap') r.l := by rw [hW9]; exact Row.set5 (Row.setCell (show Row w9 _ _ _ from HO.out) (by omega) 4 _) (by omega) r _
    clear hW9 c0 c1 c2 c3 c4 d0 d1 d2 d3 d4
    have d0 := R9.cell 0
    have d1 := R9.cell 1
    have d2 := R9.cell 2
    have d3 := R9.cell 3
    have d4 := R9.cell 4
    simp only [rcells, List.getElem?_toArray, List.getElem?_cons_zero, List.getElem?_cons_succ] at d0 d1 d2 d3 d4
    refine bodyPost_ret (v := rv r (.slice (some ⟨g', 0, none⟩) r.l.length cap')) ?_ rfl ⟨_, rfl, B9, O9.low (by omega)⟩
    simp [results, Try.results42, go_sem, d0, d1, d2, d3, d4]
/-- The box holds it. -/
theorem rcells_at {W : World} {p : Nat} {r : Rp} {v : Value} (h : Fresh W p (rcells r v) TR) :
    W.cell? ⟨p, 0, none⟩ = some (.int .u64 r.gk) ∧ W.cell? ⟨p, 1, none⟩ = some (.int .u64 r.gb) ∧ W.cell? ⟨p, 2, none⟩ = some (.int .u64 r.hk) ∧ W.cell? ⟨p, 3, none⟩ = some (.int .u64 r.hb) ∧ W.cell? ⟨p, 4, none⟩ = some v :=
  ⟨h.cell 0, h.cell 1, h.cell 2, h.cell 3, h.cell 4⟩

theorem open14_any (r : Rp) (v : Value) (n : Int) (w : World) (h : Row w 0 v r.l) (hn : r.l.length ≤ 1000) :
    Calls Try.prog 41 #[rv r v, .int .i64 n] w fun e w' => e = .returned (.bool (decide (1 ≤ n ∧ n ≤ (r.l.length : Int)) && isO r.l (n - 1).toNat)) ∧ Below w.heap.size w w' := by
  have B1 := Below.new (Below.refl w.heap.size w) (.cells (rcells r v) TR)
  by_cases h1 : 1 ≤ n
  · by_cases h2 : n ≤ (r.l.length : Int)
    · rcases h.view with ⟨rfl, hnil⟩ | ⟨g, cap, rfl, hB, hg, hc1, hc2, hcell⟩
      · rw [hnil] at h2; simp at h2; omega
      · obtain ⟨j, hj, hjl⟩ : ∃ j : Nat, n = (j : Int) + 1 ∧ j < r.l.length := ⟨(n - 1).toNat, by omega, by omega⟩
        subst hj
        have ht : r.l[j]? = some r.l[j] := List.getElem?_eq_getElem hjl
        have hc := (hcell j _ ht).2.2
        have ho : isO r.l j = (r.l[j]).o := by unfold isO; rw [ht]; rfl
        obtain ⟨o, ho'⟩ : ∃ o, (r.l[j]).o = o := ⟨_, rfl⟩
        rw [ho'] at hc ho
        have HR : Hid ((decide (1 ≤ (j : Int) + 1 ∧ (j : Int) + 1 ≤ (r.l.length : Int)) && isO r.l ((j : Int) + 1 - 1).toNat) = o) := by
          show _ = _
          rw [decide_eq_true ⟨h1, h2⟩, show ((j : Int) + 1 - 1).toNat = j from by omega, ho]
          rfl
        rw [HR.out]
        have hc' : (w.alloc (.cells (rcells r (.slice (some ⟨g, 0, none⟩) r.l.length cap)) TR)).cell? ⟨g, j * 3 + 2, none⟩ = some (.bool o) := by rw [B1.cell (p := ⟨g, j * 3 + 2, none⟩) hg]; exact hc
        have HB := Lib.hid B1
        have t1 := decide_eq_true h1
        have t2 := decide_eq_true h2
        have w1 : IntKind.i64.wrap ((j : Int) + 1 - 1) = (j : Int) := by rw [show (j : Int) + 1 - 1 = j from by omega]; exact IntWalk.i64_in _ (by omega)
        have w2 : (j : Int) + 1 - 1 = (j : Int) := by omega
        have q2 : (j : Int) < (r.l.length : Int) := by omega
        have q3 : decide (j < r.l.length) = true := decide_eq_true hjl
        clear h1 h2 hcell hc ht ho ho' h B1 hjl hB hc1 hc2
        go_enter Try.func41, Try.ntmps41
        go_wp2_with fail
        go_ret
        exact ⟨rfl, HB.out⟩
    · have HR : Hid ((decide (1 ≤ n ∧ n ≤ (r.l.length : Int)) && isO r.l (n - 1).toNat) = false) := by
        show _ = _
        rw [decide_eq_false (fun h => h2 h.2)]
        rfl
      rw [HR.out]
      have t1 := decide_eq_true h1
      have t2 := decide_eq_false h2
      have HB := Lib.hid B1
      rcases h.view with ⟨rfl, hnil⟩ | ⟨g, cap, rfl, hB, hg, hc1, hc2, hcell⟩
      · rw [hnil] at t2
        simp only [List.length_nil] at t2
        have t3 : decide (n ≤ 0) = false := decide_eq_false (by rw [hnil] at h2; simpa using h2)
        clear t2
        clear h h1 h2 B1 hnil
        go_enter Try.func41, Try.ntmps41
        go_wp2_with fail
        go_ret
        exact ⟨rfl, HB.out⟩
      · clear h h1 h2 B1 hcell hB hc1 hc2
        go_enter Try.func41, Try.ntmps41
        go_wp2_with fail
        go_ret
        exact ⟨rfl, HB.out⟩
  · have HR : Hid ((decide (1 ≤ n ∧ n ≤ (r.l.length : Int)) && isO r.l (n - 1).toNat) = false) := by
      show _ = _
      rw [decide_eq_false (fun h => h1 h.1)]
      rfl
    rw [HR.out]
    have t1 := decide_eq_false h1
    have HB := Lib.hid B1
    clear h h1 B1
    go_enter Try.func41, Try.ntmps41
    go_wp2_with fail
    go_ret
    exact ⟨rfl, HB.out⟩
end Go.Proofs.Ytpnddccanelcnaa
