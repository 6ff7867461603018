/- The reference model of an art: has. -/
import Derived.Test.YtfffifmpfkkgbaaRef
import Derived.Lib.QuietBelow
namespace Go.Proofs.Ytfffifmpfkkgbaa
open Go.RowKit Go.Shelf
set_option maxRecDepth 1000000
set_option maxHeartbeats 4000000

/-- What stands at the place of a key. -/
theorem place_has {l : List Pr} (hs : SrtP l) (x : ByteArray) : (∃ y, l[atK x (keys l)]? = some (x, y) ∧ hasK x (keys l) = true ∧ getT l x = some (x, y)) ∨ (hasK x (keys l) = false ∧ getT l x = none ∧ ∀ k y, l[atK x (keys l)]? = some (k, y) → k ≠ x) := by
  cases hh : hasK x (keys l)
  · right
    have hn : x ∉ keys l := fun h => by rw [(hasK_iff x (keys l)).2 h] at hh; cases hh
    exact ⟨rfl, get_none_iff.2 hn, fun k y hk e => hn (by rw [← e]; unfold keys; exact List.mem_map_of_mem (f := Prod.fst) (List.mem_of_getElem? hk))⟩
  · left
    have hm := (hasK_iff x (keys l)).1 hh
    have h1 := (atK_mem hs x).1 hm
    unfold keys at h1
    rw [List.getElem?_map] at h1
    obtain ⟨⟨k, y⟩, h2, h3⟩ := Option.map_eq_some_iff.1 h1
    obtain rfl : k = x := h3
    exact ⟨y, h2, rfl, (get_iff hs).2 (List.mem_of_getElem? h2)⟩
theorem rhas_any {W : World} {v : Value} {l : List Pr} (h : Seg W v l) (hs : SrtP l) (ht : TxtP l) (hn : l.length < 1000000) (x : ByteArray) :
    Calls Try.prog 48 #[rb v, .string x] W fun e' w' => e' = .returned (.bool (hasK x (keys l))) ∧ Below W.heap.size W w' := by
  obtain ⟨W1, hW1, b1, f1⟩ := rbox W v
  have HAT := Lib.hid (rat_any (h.below b1) hs ht hn x)
  have hpl := place_has hs x
  obtain ⟨a, cap, rfl, hcap, _⟩ := h.form
  have HH : Hid (∀ (j : Nat) (y : Pr), l[j]? = some y → ∃ b o, a = some ⟨b, o, none⟩ ∧ b < W1.heap.size ∧ W1.cell? ⟨b, o + j * 2, none⟩ = some (.string y.1) ∧ W1.cell? ⟨b, o + j * 2 + 1, none⟩ = some (.string y.2)) := by
    obtain ⟨a', c', e', h'⟩ := (h.below b1).holds
    cases e'
    exact h'
  have HB := Lib.hid b1
  have HW1 := Lib.hid hW1
  have HF := Lib.hid f1
  have c0 := f1.cell 0
  simp only [List.getElem?_toArray, List.getElem?_cons_zero, List.getElem?_cons_succ] at c0
  obtain ⟨A, hA⟩ : ∃ A, atK x (keys l) = A := ⟨_, rfl⟩
  obtain ⟨r, hr⟩ : ∃ r, hasK x (keys l) = r := ⟨_, rfl⟩
  rw [hA] at HAT hpl
  rw [hr] at hpl ⊢
  have HP := Lib.hid hpl
  have HN := Lib.hid hn
  have hA0 : (0 : Int) ≤ (A : Int) := by omega
  clear h hs ht hn b1 f1 hW1 hA hr hpl
  unfold rb at HAT ⊢
  go_enter Try.func48, Try.ntmps48
  go_upto_region 1 with fail
  rw [← HW1.out]
  go_upto_region 2 with (go_at_call 47; refine HAT.out.mono ?_; rintro e4 w4 ⟨rfl, hb4⟩; have H4 := Lib.hid hb4; have c0 := (hb4.cell (cell_lt c0)).trans c0; clear hb4)
  by_cases hlt : A < l.length
  · obtain ⟨⟨kx, vx⟩, hx⟩ : ∃ t, l[A]? = some t := ⟨_, List.getElem?_eq_getElem hlt⟩
    obtain ⟨b, o, rfl, hb, k1, _⟩ := HH.out A _ hx
    replace k1 := (H4.out.cell (p := ⟨b, o + A * 2, none⟩) hb).trans k1
    dsimp only at k1
    have jl : (A : Int) < (l.length : Int) := by omega
    have jd : decide (A < l.length) = true := decide_eq_true hlt
    have hrk : r = decide (kx = x) := by
      rcases HP.out with ⟨y, h1, h2, _⟩ | ⟨h1, _, h2⟩
      · rw [hx] at h1
        cases h1
        rw [h2]
        simp
      · rw [h1]
        simpa using h2 kx vx hx
    have HX := Lib.hid (Below.step HB.out H4.out)
    clear hx hb
    by_cases he : kx = x
    · have heq : (kx.toList == x.toList) = true := by rw [kl_beq]; exact decide_eq_true he
      obtain rfl : r = true := by rw [hrk]; exact decide_eq_true he
      clear hrk he
      go_wp2_with fail
      go_ret
      exact ⟨by simp [heq], HX.out⟩
    · have heq : (kx.toList == x.toList) = false := by rw [kl_beq]; exact decide_eq_false he
      obtain rfl : r = false := by rw [hrk]; exact decide_eq_false he
      clear hrk he
      go_wp2_with fail
      go_ret
      exact ⟨by simp [heq], HX.out⟩
  · have jl : ¬ (A : Int) < (l.length : Int) := by omega
    have jd : decide (A < l.length) = false := decide_eq_false hlt
    obtain rfl : r = false := by
      rcases HP.out with ⟨y, h1, h2, _⟩ | ⟨h1, _, h2⟩
      · have := (List.getElem?_eq_some_iff.1 h1).1
        omega
      · exact h1
    have HX := Lib.hid (Below.step HB.out H4.out)
    go_wp2_with fail
    go_ret
    exact ⟨rfl, HX.out⟩
/-- Without the key at its place. -/
theorem drop_place {l : List Pr} (hs : SrtP l) (x : ByteArray) : dropP x l = l.take (atK x (keys l)) ++ l.drop (atK x (keys l) + (if hasK x (keys l) = true then 1 else 0)) := by
  rcases place_has hs x with ⟨y, h1, h2, _⟩ | ⟨h1, h2, _⟩
  · rw [h2, if_pos rfl]
    obtain ⟨hA, he⟩ := List.getElem?_eq_some_iff.1 h1
    have hl : l = l.take (atK x (keys l)) ++ (x, y) :: l.drop (atK x (keys l) + 1) := by
      conv => lhs; rw [← List.take_append_drop (atK x (keys l)) l, List.drop_eq_getElem_cons hA, he]
    have hu := srt_uniq hs
    unfold Uniq at hu
    rw [hl, List.map_append, List.map_cons] at hu
    obtain ⟨_, h4, h5⟩ := List.nodup_append.1 hu
    have h6 := (List.nodup_cons.1 h4).1
    conv => lhs; rw [hl]
    unfold dropP delT
    rw [List.filter_append, List.filter_cons_of_neg (by simp)]
    congr 1
    · refine List.filter_eq_self.2 (fun z hz => ?_)
      have : z.1 ≠ x := fun e => h5 z.1 (List.mem_map_of_mem (f := Prod.fst) hz) x (by simp) e
      simpa using this
    · refine List.filter_eq_self.2 (fun z hz => ?_)
      have : z.1 ≠ x := by
        intro e
        have h7 := List.mem_map_of_mem (f := Prod.fst) hz
        rw [e] at h7
        exact h6 h7
      simpa using this
  · rw [h1, if_neg (by simp), Nat.add_zero, List.take_append_drop]
    exact drop_none h2
/-- A row of no pairs. -/
theorem row_none (W : World) : (W.alloc (.cells #[] 34)).ownsRow W.heap.size 34 2 (.slice (some ⟨W.heap.size, 0, none⟩) 0 0) ([] : List Pr).length (flatP []) :=
  World.ownsRow_lit W #[] 0 (Nat.le_refl _) (by unfold maxLen; omega) rfl
theorem Below.grown2 {W W1 W' : World} {row : Option Nat} (h : Below W.heap.size W W1) (hg : W1.grownBy W' row) (hr : ∀ r, row = some r → W.heap.size ≤ r) : Below W.heap.size W W' :=
  Turned.below (S := []) (Below.refl _ _) ((Turned.of_below h).kept hg hr) (by simp) (Nat.le_refl _)
theorem ret_row {W W5 W7 : World} {m n : Nat} {v : Value} {xs : List Value} (b : Below W.heap.size W W5) (T : Turned [W.heap.size, W.heap.size + 1] W5 W7) (o : W5.ownsRow m 34 2 v n xs) (hm : W.heap.size + 1 < m) : Below W.heap.size W W7 ∧ W7.ownsRow W.heap.size 34 2 v n xs := by
  refine ⟨Turned.below (S := [W.heap.size, W.heap.size + 1]) b T (by simp) b.size, row_low (row_keep o fun k hk => T.block k (o.lt k hk).2 (fun e => ?_)) (by omega)⟩
  have := (o.lt k hk).1
  simp at e
  omega
theorem second {w2 W3 w4 : World} {l L : List Pr} {v : Value} {a : Option Addr} {cap : Nat} (k : Nat) (ho : W3.ownsRow w2.heap.size 34 2 v L.length (flatP L)) (hs : w2.heap.size ≤ W3.heap.size) (hb : Below W3.heap.size W3 w4) (hS : Seg w4 (.slice a l.length cap) l) (hk : k ≤ l.length) (hn : l.length < 1000) (hL : L.length ≤ 1000 := by simp; omega) :
    ∃ v5 W5, (∀ ty, (Builtin.append_ #[26, 26] ty #[v, .slice (fromAd a cap k) (l.length - k) (cap - k)]).run Try.prog w4 = .ok v5 W5) ∧ W5.ownsRow w2.heap.size 34 2 v5 (L ++ l.drop k).length (flatP (L ++ l.drop k)) ∧ w4.grownBy W5 v.ownBlock ∧ ∀ r, v.ownBlock = some r → w2.heap.size ≤ r := by
  have o4 : w4.ownsRow w2.heap.size 34 2 v L.length (flatP L) := row_keep ho fun k hk => hb.block k (ho.lt k hk).2
  obtain ⟨v5, W5, r5, o5, g5⟩ := app_seg o4 (hS.drop hk) (Nat.le_trans hs hb.size) (by simp; omega)
  exact ⟨v5, W5, r5, o5, g5, fun r hr => (ho.lt r hr).1⟩
end Go.Proofs.Ytfffifmpfkkgbaa
