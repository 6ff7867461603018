/- The kit's marks behind a list of texts: markText, LentTexts, KeptTexts. -/
import Derived.Test.YthfbkmpljobagaaKit
import Derived.OwnWalk
import Derived.WalkSmall
import Derived.Lib.QuietBelow
namespace Go.Proofs.Ythfbkmpljobagaa
open Go.RowKit
set_option maxRecDepth 100000
set_option maxHeartbeats 400000

/-- The mark of place i. -/
def markB (i : Nat) : ByteArray := ⟨#[35, 1, 0, 0, 47, UInt8.ofNat i, 0, 0]⟩

theorem run_convert_eight {P : Program} (w : World) (src dst e : TypeId) (a b c d f g h k : UInt8) (hs : P.underlying src = some (.slice e)) (he : P.underlying e = some (.int .u8)) (hd : P.underlying dst = some .string) :
    (convert src dst (.slice (some ⟨w.heap.size, 0, none⟩) 8 8)).run P (w.alloc (.cells #[.int .u8 a.toNat, .int .u8 b.toNat, .int .u8 c.toNat, .int .u8 d.toNat, .int .u8 f.toNat, .int .u8 g.toNat, .int .u8 h.toNat, .int .u8 k.toNat] e))
      = .ok (.string ⟨#[a, b, c, d, f, g, h, k]⟩) (w.alloc (.cells #[.int .u8 a.toNat, .int .u8 b.toNat, .int .u8 c.toNat, .int .u8 d.toNat, .int .u8 f.toNat, .int .u8 g.toNat, .int .u8 h.toNat, .int .u8 k.toNat] e)) := by
  rw [run_convert_bytes_string _ src dst e _ _ _ hs he hd]
  rw [run_bytesToString _ _ _ _ [(a.toNat : Int), (b.toNat : Int), (c.toNat : Int), (d.toNat : Int), (f.toNat : Int), (g.toNat : Int), (h.toNat : Int), (k.toNat : Int)] (by simp [go_sem, loadCells])]
  have e : ∀ x : UInt8, UInt8.ofNat ((x.toNat : Int).toNat) = x := fun x => by simp
  simp only [List.foldl_cons, List.foldl_nil, e]
  rfl

theorem mark_any (i : Nat) (w : World) (hi : i < 12) :
    Calls Try.prog 26 #[.int .i64 1, .int .i64 i] w fun e w' => e = .returned (.string (markB i)) ∧ Below w.heap.size w w' := by
  have hcv : ∀ w : World, (convert 48 9 (.slice (some ⟨w.heap.size, 0, none⟩) 8 8)).run Try.prog (w.alloc (.cells #[.int .u8 35, .int .u8 1, .int .u8 0, .int .u8 0, .int .u8 47, .int .u8 i, .int .u8 ((i : Int) / 256), .int .u8 ((i : Int) / 65536)] 5))
      = .ok (.string (markB i)) (w.alloc (.cells #[.int .u8 35, .int .u8 1, .int .u8 0, .int .u8 0, .int .u8 47, .int .u8 i, .int .u8 ((i : Int) / 256), .int .u8 ((i : Int) / 65536)] 5)) := by
    intro w
    have h := run_convert_eight (P := Try.prog) w 48 9 5 35 1 0 0 47 (UInt8.ofNat i) 0 0 Try.underlying48 Try.underlying5 Try.underlying9
    have hm : (UInt8.ofNat i).toNat = i := by simp [UInt8.toNat_ofNat']; omega
    rw [hm] at h
    rw [show (i : Int) / 256 = 0 from by omega, show (i : Int) / 65536 = 0 from by omega]
    exact h
  go_enter Try.func26, Try.ntmps26
  go_wp2
  go_ret
  exact ⟨rfl, (Below.refl _ _).alloc (Nat.le_refl _) _⟩

theorem infoS : (Try.prog.info? 9).map (fun i => (i.zero, i.size, i.bytes)) = some (some (.string ⟨#[]⟩), 1, 16) := by kernel_rfl

/-- The cells of a list of strings. -/
def strVals (zs : List ByteArray) : List Value := zs.map Value.string
theorem strVals_one (zs : List ByteArray) : ∀ u ∈ strVals zs, u.oneCell' = true := by
  intro u hu
  obtain ⟨s, _, rfl⟩ := List.mem_map.1 hu
  rfl

/-- A slice reads as a list of strings. -/
def IsStrs (w : World) (ao : Option Addr) (len cap : Nat) (zs : List ByteArray) : Prop :=
  (ao = none ∧ len = 0 ∧ cap = 0 ∧ zs = []) ∨
  ∃ x, ao = some x ∧ len ≤ cap ∧ cap ≤ maxLen ∧ zs.length = len ∧ (∀ i, i < zs.length → w.cell? (x.add i) = some (.string (zs.getD i ByteArray.empty))) ∧ (∀ s ∈ zs, s.size ≤ maxLen)
theorem IsStrs.length {w : World} {ao : Option Addr} {len cap : Nat} {zs : List ByteArray} (h : IsStrs w ao len cap zs) : zs.length = len := by
  rcases h with ⟨_, rfl, _, rfl⟩ | ⟨x, _, _, _, h, _⟩
  · rfl
  · exact h
theorem IsStrs.cap {w : World} {ao : Option Addr} {len cap : Nat} {zs : List ByteArray} (h : IsStrs w ao len cap zs) : len ≤ cap ∧ cap ≤ maxLen := by
  rcases h with ⟨_, rfl, rfl, rfl⟩ | ⟨x, _, h1, h2, _, _⟩
  · exact ⟨Nat.le_refl _, Nat.zero_le _⟩
  · exact ⟨h1, h2⟩
theorem IsStrs.isNone {w : World} {ao : Option Addr} {len cap : Nat} {zs : List ByteArray} (h : IsStrs w ao len cap zs) : ao = none → len = 0 ∧ cap = 0 := by
  rcases h with ⟨_, rfl, rfl, rfl⟩ | ⟨x, rfl, _⟩
  · exact fun _ => ⟨rfl, rfl⟩
  · exact fun e => by cases e
theorem IsStrs.small {w : World} {ao : Option Addr} {len cap : Nat} {zs : List ByteArray} (h : IsStrs w ao len cap zs) : ∀ s ∈ zs, s.size ≤ maxLen := by
  rcases h with ⟨_, rfl, rfl, rfl⟩ | ⟨x, _, _, _, _, _, h⟩
  · simp
  · exact h
theorem IsStrs.at {w : World} {ao : Option Addr} {len cap : Nat} {zs : List ByteArray} (h : IsStrs w ao len cap zs) (hp : 0 < len) :
    ∃ b off, ao = some ⟨b, off, none⟩ ∧ b < w.heap.size ∧ ∀ i, i < len → w.cell? ⟨b, off + i, none⟩ = some (.string (zs.getD i ByteArray.empty)) := by
  rcases h with ⟨_, rfl, _, rfl⟩ | ⟨⟨b, off, spot⟩, rfl, _, _, hl, hc, _⟩
  · omega
  · have h0 := hc 0 (by omega)
    have hs : spot = none := by
      cases spot with
      | none => rfl
      | some s => simp [Addr.add, World.cell?] at h0; split at h0 <;> simp_all
    subst hs
    refine ⟨b, off, rfl, ?_, fun i hi => ?_⟩
    · have := World.block_lt_of_cell? w _ h0
      simpa [Addr.add] using this
    · rw [← hc i (by omega), Addr.add_lit]
theorem IsStrs.kept {w w' : World} {ao : Option Addr} {len cap : Nat} {zs : List ByteArray} (h : IsStrs w ao len cap zs) (hb : Below w.heap.size w w') : IsStrs w' ao len cap zs := by
  rcases h with h | ⟨x, h1, h2, h3, h4, h5, h6⟩
  · exact .inl h
  · refine .inr ⟨x, h1, h2, h3, h4, fun i hi => ?_, h6⟩
    rw [hb.cell (World.block_lt_of_cell? w _ (h5 i hi))]
    exact h5 i hi

theorem isStrs_take {w : World} {x : Addr} {l c : Nat} {zs : List ByteArray} (hl : l ≤ c) (hm : c ≤ maxLen) (hz : zs.length = c)
    (hcell : ∀ i, i < zs.length → w.cell? (x.add i) = some (.string (zs.getD i ByteArray.empty))) (hs : ∀ s ∈ zs, s.size ≤ maxLen) : IsStrs w (some x) l c (zs.take l) := by
  have hlen : (zs.take l).length = l := by rw [List.length_take]; omega
  refine .inr ⟨x, rfl, hl, hm, hlen, fun i hi => ?_, fun s h => hs s (List.mem_of_mem_take h)⟩
  rw [hlen] at hi
  rw [hcell i (by omega), List.getD_eq_getElem?_getD, List.getD_eq_getElem?_getD, List.getElem?_take_of_lt hi]

/-- The marks behind a list. -/
def marks (k : Nat) : List ByteArray := (List.range k).map markB
theorem marks_succ (k : Nat) : marks (k + 1) = marks k ++ [markB k] := by simp [marks, List.range_succ]

theorem own_below {w w' : World} {B e size n : Nat} {v : Value} {xs : List Value} (h : w.ownsRow B e size v n xs) (hb : Below w.heap.size w w') : w'.ownsRow B e size v n xs := by
  obtain ⟨h1, h2⟩ := h
  refine ⟨h1, ?_⟩
  rcases h2 with h2 | ⟨g, cap, cur, rfl, hg, hh, r⟩
  · exact .inl h2
  · refine .inr ⟨g, cap, cur, rfl, hg, ?_, r⟩
    rw [hb.block g (Array.getElem?_eq_some_iff.1 hh).1]
    exact hh

theorem add_block (a : Addr) (n : Nat) : (a.add n).block = a.block := by unfold Addr.add; split <;> simp_all
theorem cells_grown {w w1 : World} {ao : Option Addr} {len cap : Nat} {zs : List ByteArray} (h : IsStrs w ao len cap zs) (hg : w.grownBy w1 none) :
    ∀ ad, ao = some ad → ∀ j u, (strVals zs)[j]? = some u → w1.cell? (ad.add j) = some u := by
  have h' := h.kept ((Below.refl _ w).grown hg (Nat.le_refl _) (by simp))
  intro ad had j u hu
  have hj : j < zs.length := by
    have := (List.getElem?_eq_some_iff.1 hu).1
    simpa [strVals] using this
  rcases h' with ⟨rfl, _⟩ | ⟨x, rfl, _, _, _, hc, _⟩
  · cases had
  · obtain rfl := Option.some.inj had
    rw [hc j hj]
    simp [strVals, List.getElem?_map, List.getElem?_eq_getElem hj] at hu
    rw [← hu, List.getD_eq_getElem?_getD, List.getElem?_eq_getElem hj]
    rfl

/-- What a round of the marks' loop does. -/
theorem lent_step {w wr w2 w3 : World} {zs : List ByteArray} {k len : Nat} (hB : Below w.heap.size w wr) (h2 : Below wr.heap.size wr w2) (o : Obj)
    (hown : w3.ownsRow w.heap.size 9 1 (.slice (some ⟨w.heap.size, 0, none⟩) (len + k + 1) (len + 12)) (len + k + 1) (strVals (zs ++ marks k) ++ [.string (markB k)]))
    (hg : (w2.alloc o).grownBy w3 (some w.heap.size)) :
    Below w.heap.size w w3 ∧ w3.ownsRow w.heap.size 9 1 (.slice (some ⟨w.heap.size, 0, none⟩) (len + (k + 1)) (len + 12)) (len + (k + 1)) (strVals (zs ++ marks (k + 1))) := by
  constructor
  · have h := Below.new (Below.step hB h2) o
    exact h.grown hg h.size (fun k hk => by cases hk; exact Nat.le_refl _)
  · have e : strVals (zs ++ marks (k + 1)) = strVals (zs ++ marks k) ++ [.string (markB k)] := by simp [strVals, marks_succ]
    rw [e]; exact hown

set_option maxHeartbeats 2000000 in
theorem lent_any (ao : Option Addr) (len cap : Nat) (zs : List ByteArray) (w : World) (hn : len ≤ 1000000) (h : IsStrs w ao len cap zs) :
    Calls Try.prog 12 #[.slice ao len cap] w fun e w' => e = .returned (.slice (some ⟨w.heap.size, 0, none⟩) len (len + 12)) ∧ Below w.heap.size w w' ∧ w.heap.size < w'.heap.size ∧ (∀ j, j < len + 12 → w'.cell? ⟨w.heap.size, j, none⟩ = (strVals (zs ++ marks 12))[j]?) := by
  obtain ⟨i0, hi, hz0, hz1, hz2⟩ := info_parts infoS
  have hnB : i0.bytes * (len + 12) ≤ 281474976710656 := by rw [hz2]; omega
  have hnM : len + 12 ≤ maxLen := by unfold maxLen; omega
  have HL := Lib.hid h.length
  have HN := Lib.hid h
  clear h
  go_enter Try.func12, Try.ntmps12
  go_wp2_with (first
    | (at_make; refine wpList_make_own _ rfl _ _ 25 rfl w.heap.size 9 i0 (.string ⟨#[]⟩) 1 Try.underlying25 hi hz0 hz1 _ _ _ (len + 12) rfl rfl (by omega) hnB hnM (Nat.le_refl _) ?_; intro w1 hown1 hg1)
    | (at_builtin; refine wpList_append_fits_any _ rfl (.tmp 9) (.tmp 10) 25 rfl w.heap.size 9 i0 1 Try.underlying25 hi hz1 w.heap.size 0 (len + 12) [] rfl hown1 ao len cap (strVals zs) rfl (by simp [strVals, HL.out]) HN.out.isNone (cells_grown HN.out hg1) (strVals_one zs) (by omega) ?_; intro w2 hown2 hg2; simp only [Nat.zero_add, List.nil_append] at hown2))
  have hB2 : Below w.heap.size w w2 := ((Below.refl _ w).grown hg1 (Nat.le_refl _) (by simp)).grown hg2 hg1.size (fun k hk => by cases hk; exact Nat.le_refl _)
  clear hg1 hg2 hown1 HN
  go_loopw [3, 4] (fun v i wr => ∃ k : Nat, k ≤ 12 ∧ i = .int .i64 k ∧ v = .slice (some ⟨w.heap.size, 0, none⟩) (len + k) (len + 12) ∧ Below w.heap.size w wr ∧ wr.ownsRow w.heap.size 9 1 (.slice (some ⟨w.heap.size, 0, none⟩) (len + k) (len + 12)) (len + k) (strVals (zs ++ marks k))) (fun _ i _ => 12 - (intOf i).toNat)
  case atStart => exact ⟨0, by omega, rfl, rfl, hB2, by simpa [marks] using hown2⟩
  case round =>
    obtain ⟨k, hk, rfl, rfl, hB, hown⟩ := hrel
    clear hown2 hB2
    have hs := hB.size
    by_cases hlt : k < 12
    · go_wp2_with (first
        | (go_at_call 26; refine (mark_any k _ hlt).mono ?_; rintro e w3 ⟨rfl, hb3⟩)
        | (at_builtin; refine wpList_append_fits _ rfl (.tmp 16) (.tmp 19) 25 rfl w.heap.size 9 i0 1 Try.underlying25 hi hz1 w.heap.size (len + k) (len + 12) (strVals (zs ++ marks k)) rfl ((own_below hown hb3).alloc _) ⟨w3.heap.size, 0, none⟩ 1 1 [.string (markB k)] rfl rfl ?c1 ?c2 (by omega) ?_))
      case c1 =>
        intro j u hj
        match j, hj with
        | 0, hj => simp at hj; subst hj; simp [Addr.add]
      case c2 => intro u hu; simp at hu; subst hu; rfl
      intro w4 hown4 hg4
      have R := lent_step hB hb3 _ hown4 hg4
      clear hown4 hg4 hown hb3
      go_wp2
      go_roundw
      case rel => exact ⟨k + 1, by omega, by go_num, by rw [Nat.add_assoc], R.1, R.2⟩
      case measure => simp [intOf]; omega
    · obtain rfl : k = 12 := by omega
      go_wp2
      go_ret
      have hg := hown.lt w.heap.size rfl
      exact ⟨rfl, hB, hg.2, fun j hj => by rw [hown.cellAt j (by omega)]⟩

theorem mark_int (n : Int) (w : World) (h0 : 0 ≤ n) (h1 : n < 12) :
    Calls Try.prog 26 #[.int .i64 1, .int .i64 n] w fun e w' => e = .returned (.string (markB n.toNat)) ∧ Below w.heap.size w w' := by
  obtain ⟨i, rfl⟩ := Int.eq_ofNat_of_zero_le h0
  exact mark_any i w (by omega)

theorem strVals_front (zs : List ByteArray) (k j : Nat) (h : j < zs.length) : (strVals (zs ++ marks k))[j]? = some (.string (zs.getD j ByteArray.empty)) := by
  rw [strVals, List.getElem?_map, List.getElem?_append_left h, List.getElem?_eq_getElem h, List.getD_eq_getElem?_getD, List.getElem?_eq_getElem h]; rfl
theorem strVals_back (zs : List ByteArray) (k j : Nat) (h1 : zs.length ≤ j) (h2 : j < zs.length + k) : (strVals (zs ++ marks k))[j]? = some (.string (markB (j - zs.length))) := by
  rw [strVals, List.getElem?_map, List.getElem?_append_right h1, marks, List.getElem?_map, List.getElem?_range (show j - zs.length < k by omega)]; rfl

theorem kept_any (g : Nat) (ao : Option Addr) (len cap : Nat) (zs : List ByteArray) (w : World) (hgs : g < w.heap.size) (hn : len ≤ 1000000) (h : IsStrs w ao len cap zs)
    (hcs : ∀ j, j < len + 12 → w.cell? ⟨g, j, none⟩ = (strVals (zs ++ marks 12))[j]?) :
    Calls Try.prog 15 #[.slice (some ⟨g, 0, none⟩) len (len + 12), .slice ao len cap] w fun e w' => e = .returned (.bool true) ∧ Below w.heap.size w w' := by
  have HL := Lib.hid h.length
  have HN := Lib.hid h
  have HC := Lib.hid hcs
  clear h hcs
  have d0 : ((len : Int) != (len : Int)) = false := by simp
  go_enter Try.func15, Try.ntmps15
  go_wp2
  go_loopw [6] (fun i wr => ∃ k : Nat, k ≤ len + 12 ∧ i = .int .i64 k ∧ Below w.heap.size w wr) (fun i _ => len + 12 - (intOf i).toNat)
  case atStart => exact ⟨0, by omega, rfl, Below.refl _ _⟩
  case round =>
    obtain ⟨k, hk, rfl, hB⟩ := hrel
    by_cases hlt : k < len
    · obtain ⟨b, off, rfl, hb, hc⟩ := HN.out.at (by omega)
      have g1 : wr.cell? ⟨g, k, none⟩ = some (.string (zs.getD k ByteArray.empty)) := by
        rw [hB.cell (p := ⟨g, k, none⟩) hgs, HC.out k (by omega), strVals_front _ _ _ (by rw [HL.out]; exact hlt)]
      have g2 : wr.cell? ⟨b, off + k, none⟩ = some (.string (zs.getD k ByteArray.empty)) := by
        rw [hB.cell (p := ⟨b, off + k, none⟩) hb, hc k hlt]
      generalize zs.getD k ByteArray.empty = x at *
      clear hc
      have d1 : decide (k < len) = true := by simpa using hlt
      have d2 : decide (len ≤ k) = false := by simpa using hlt
      go_wp2_with fail
      go_quiet (fail)
      go_wp2
      go_roundw
      case rel => exact ⟨k + 1, by omega, by go_num, below_drewN hB _⟩
      case measure => simp [intOf]; omega
    · by_cases hlt2 : k < len + 12
      · have g1 : wr.cell? ⟨g, k, none⟩ = some (.string (markB (k - len))) := by
          rw [hB.cell (p := ⟨g, k, none⟩) hgs, HC.out k (by omega), strVals_back _ _ _ (by rw [HL.out]; omega) (by rw [HL.out]; omega), HL.out]
        have q1 := fun d os => cell_regrown g1 d os
        have d1 : decide (k < len) = false := by simpa using hlt
        have d2 : decide (len ≤ k) = true := by simp; omega
        go_wp2_with fail
        refine wp_region_quiet_below (by kernel_rfl) (by kernel_rfl) ?_
        repeat (any_goals (first | go_big_quiet_step ((go_at_call 26; exact Calls.regrown_of (mark_int _ _ (by omega) (by omega)))) | quiet_step (fail)))
        refine wpQuiet_nil ?_
        intro w3 hw3
        have hb3 : Below wr.heap.size wr w3 := by obtain ⟨p, rfl⟩ := hw3; exact below_regrown _ _ _
        clear hw3 q1 g1
        go_wp2_with fail
        all_goals
          go_roundw
          case rel => exact ⟨k + 1, by omega, by go_num, Below.step hB hb3⟩
          case measure => simp [intOf]; omega
      · obtain rfl : k = len + 12 := by omega
        go_wp2
        go_ret
        exact ⟨rfl, hB⟩

end Go.Proofs.Ythfbkmpljobagaa
