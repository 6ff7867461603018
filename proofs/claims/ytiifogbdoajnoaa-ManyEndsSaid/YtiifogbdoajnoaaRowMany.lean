/- Rows of some bytes, as the laws build them. -/
import Derived.Test.YtiifogbdoajnoaaAwakeM
import Derived.OpenShut
namespace Go.Proofs.Ytiifogbdoajnoaa
open Go.RowKit
set_option maxRecDepth 100000
set_option maxHeartbeats 8000000

/-- A slice of numbers among a law's arguments, as the frame opens it. -/
def IsRow (k : IntKind) (w : World) (ao : Option Addr) (len cap : Nat) (zs : List Int) : Prop :=
  (ao = none ∧ len = 0 ∧ cap = 0 ∧ zs = []) ∨ ∃ a, ao = some a ∧ len ≤ cap ∧ cap ≤ maxLen ∧ zs.length = cap ∧ (∀ i, i < zs.length → w.cell? (a.add i) = some (.int k (zs.getD i 0))) ∧ (∀ n ∈ zs, (Lit.int k n).wf = true)
/-- The bytes of a slice. -/
def Bytes (W : World) (ao : Option Addr) (l : List UInt8) : Prop := l = [] ∨ ∃ g o, ao = some ⟨g, o, none⟩ ∧ ∀ i (h : i < l.length), W.cell? ⟨g, o + i, none⟩ = some (.int .u8 (l[i].toNat : Int))
theorem Bytes.below {W W' : World} {ao : Option Addr} {l : List UInt8} (h : Bytes W ao l) (hb : Below W.heap.size W W') : Bytes W' ao l := by
  rcases h with h | ⟨g, o, h1, h2⟩
  · exact .inl h
  · exact .inr ⟨g, o, h1, fun i hi => (hb.cell (p := ⟨g, o + i, none⟩) (cell_lt (h2 i hi))).trans (h2 i hi)⟩
theorem Bytes.low {w W : World} {ao : Option Addr} {l : List UInt8} (h : Bytes w ao l) (hb : Below w.heap.size w W) : Bytes W ao l := by
  rcases h with h | ⟨g, o, h1, h2⟩
  · exact .inl h
  · exact .inr ⟨g, o, h1, fun i hi => (hb.cell (p := ⟨g, o + i, none⟩) (cell_lt (h2 i hi))).trans (h2 i hi)⟩
theorem Bytes.at' {W : World} {ao : Option Addr} {l : List UInt8} (h : Bytes W ao l) (i : Nat) (hi : i < l.length) : ∃ g o, ao = some ⟨g, o, none⟩ ∧ W.cell? ⟨g, o + i, none⟩ = some (.int .u8 (l[i].toNat : Int)) ∧ g < W.heap.size := by
  rcases h with h | ⟨g, o, h1, h2⟩
  · subst h; simp at hi
  · exact ⟨g, o, h1, h2 i hi, cell_lt (h2 i hi)⟩
theorem bytes_open {w : World} {ao : Option Addr} {len cap : Nat} {zs : List Int} (h : IsRow .u8 w ao len cap zs) : len ≤ maxLen ∧ ∃ l : List UInt8, l.length = len ∧ Bytes w ao l := by
  rcases h with ⟨rfl, rfl, rfl, rfl⟩ | ⟨a, rfl, hl, hm, hz, hc, hw⟩
  · exact ⟨Nat.zero_le _, [], rfl, .inl rfl⟩
  refine ⟨Nat.le_trans hl hm, (zs.take len).map (fun z => UInt8.ofNat z.toNat), by rw [List.length_map, List.length_take]; omega, ?_⟩
  by_cases h0 : len = 0
  · subst h0; exact .inl (by simp)
  · right
    have hsp : a.spot = none := by
      have := hc 0 (by omega)
      cases hs : a.spot with
      | none => rfl
      | some s =>
        exfalso
        unfold Addr.add at this
        simp [World.cell?, hs] at this
        split at this <;> simp_all
    obtain ⟨g, o, s⟩ := a
    dsimp only at hsp
    subst hsp
    refine ⟨g, o, rfl, fun i hi => ?_⟩
    rw [List.length_map, List.length_take] at hi
    have h1 := hc i (by omega)
    rw [Addr.add_lit] at h1
    rw [h1]
    have hin : i < zs.length := by omega
    have hwf := hw zs[i] (List.getElem_mem hin)
    have hb : 0 ≤ zs[i] ∧ zs[i] < 256 := by
      have := Go.bounds_u8 hwf
      omega
    simp only [List.getD_eq_getElem?_getD, List.getElem?_eq_getElem hin, Option.getD_some, List.getElem_map, List.getElem_take]
    rw [UInt8.toNat_ofNat', Nat.mod_eq_of_lt (by omega), Int.toNat_of_nonneg hb.1]

theorem wrap_byte (c : UInt8) : IntKind.i64.wrap (c.toNat : Int) = (c.toNat : Int) := by
  have := c.toNat_lt
  simp [IntKind.wrap, IntKind.bits, IntKind.signed]
  omega
/-- The bytes of a row rise: no more than 256. -/
theorem srt_ge {L : List En} (hs : Srt L) : ∀ j (h : j < L.length), j ≤ L[j].1.toNat := by
  intro j
  induction j with
  | zero => intro _; exact Nat.zero_le _
  | succ j ih =>
    intro h
    have h1 := ih (by omega)
    have h2 := List.pairwise_iff_getElem.1 hs j (j + 1) (by omega) h (by omega)
    omega
theorem srt_len {L : List En} (hs : Srt L) : L.length ≤ 256 := by
  rcases Nat.lt_or_ge 256 L.length with h | h
  · have h1 := srt_ge hs 256 h
    have := L[256].1.toNat_lt
    omega
  · exact h
theorem not_full {L : List En} (hs : Srt L) {b : UInt8} (h : isIn b L = false) : L.length < 256 := by
  have h1 := srt_len (srt_insert hs h 0 0)
  rw [List.length_insertIdx, if_pos (place_le b L)] at h1
  omega
/-- The row of some bytes, put one after the other. -/
def rowOf (l : List UInt8) : List En := l.foldl (fun L b => putS b (b.toNat : Int) 1 L 256) []
theorem rowOf_snoc (l : List UInt8) (b : UInt8) : rowOf (l ++ [b]) = putS b (b.toNat : Int) 1 (rowOf l) 256 := by simp [rowOf]
theorem rowOf_take (l : List UInt8) (j : Nat) (h : j < l.length) : rowOf (l.take (j + 1)) = putS l[j] (l[j].toNat : Int) 1 (rowOf (l.take j)) 256 := by
  rw [List.take_succ_eq_append_getElem h, rowOf_snoc]
theorem snoc_ind {P : List UInt8 → Prop} (h0 : P []) (h1 : ∀ l b, P l → P (l ++ [b])) (l : List UInt8) : P l := by
  have : ∀ n, ∀ l : List UInt8, l.length = n → P l := by
    intro n
    induction n with
    | zero => intro l h; rw [List.length_eq_zero_iff] at h; rw [h]; exact h0
    | succ n ih =>
      intro l h
      have hne : l ≠ [] := by intro e; rw [e] at h; simp at h
      rw [← List.dropLast_concat_getLast hne]
      exact h1 _ _ (ih _ (by rw [List.length_dropLast, h]; rfl))
  exact this _ l rfl
theorem rowOf_srt : ∀ l : List UInt8, Srt (rowOf l) := snoc_ind List.Pairwise.nil (fun l b h => by rw [rowOf_snoc]; exact srt_put h _ _ _)
theorem rowOf_len : ∀ l : List UInt8, (rowOf l).length ≤ l.length := snoc_ind (Nat.le_refl _) (fun l b h => by
  rw [rowOf_snoc, put_len, List.length_append]
  split
  · simp; omega
  · simp; omega)
theorem rowOf_mem : ∀ l : List UInt8, ∀ x : En, x ∈ rowOf l ↔ x.1 ∈ l ∧ x.2 = ((x.1.toNat : Int), (1 : Int)) := snoc_ind (P := fun l => ∀ x : En, x ∈ rowOf l ↔ x.1 ∈ l ∧ x.2 = ((x.1.toNat : Int), (1 : Int))) (fun x => by simp [rowOf]) (fun l b ih x => by
  rw [rowOf_snoc]
  by_cases h : isIn b (rowOf l) = true
  · rw [putS, if_pos (.inl h), ih x]
    obtain ⟨y, hy, rfl⟩ := (isIn_iff (rowOf_srt l)).1 h
    have := ((ih y).1 hy).1
    constructor
    · rintro ⟨h1, h2⟩; exact ⟨by simp [h1], h2⟩
    · rintro ⟨h1, h2⟩
      rw [List.mem_append] at h1
      rcases h1 with h1 | h1
      · exact ⟨h1, h2⟩
      · simp at h1; rw [h1] at h2 ⊢; exact ⟨this, h2⟩
  · have hf : isIn b (rowOf l) = false := by simpa using h
    have hnf := not_full (rowOf_srt l) hf
    have hn : ¬ (isIn b (rowOf l) = true ∨ (rowOf l).length = 256) := by
      rintro (h1 | h1)
      · exact h h1
      · omega
    rw [mem_put hn, ih x]
    constructor
    · rintro (rfl | ⟨h1, h2⟩)
      · exact ⟨by simp, rfl⟩
      · exact ⟨by simp [h1], h2⟩
    · rintro ⟨h1, h2⟩
      rw [List.mem_append] at h1
      rcases h1 with h1 | h1
      · exact .inr ⟨h1, h2⟩
      · left
        simp at h1
        obtain ⟨c, d⟩ := x
        simp only at h1 h2
        rw [h1, h2, h1])
theorem rowOf_in (l : List UInt8) (b : UInt8) : isIn b (rowOf l) = true ↔ b ∈ l := by
  rw [isIn_iff (rowOf_srt l)]
  constructor
  · rintro ⟨x, hx, rfl⟩
    exact ((rowOf_mem l x).1 hx).1
  · intro h
    exact ⟨(b, (b.toNat : Int), 1), (rowOf_mem l _).2 ⟨h, rfl⟩, rfl⟩

theorem row_any {w : World} {ao : Option Addr} {len cap : Nat} {l : List UInt8} (hb : Bytes w ao l) (hlen : l.length = len) (h16 : len ≤ 300) :
    Calls Try.prog 21 #[.slice ao len cap] w fun e w' => ∃ p q e2, e = .returned (.tuple #[.pointer (some ⟨p, 0, none⟩), .int .i64 ((len - (rowOf l).length : Nat) : Int)]) ∧ On w w' p q e2 (rowOf l) 256 ∧ w.heap.size ≤ p := by
  have HNew : Hid (∀ W : World, Calls Try.prog 8 #[.int .i64 256] W fun e w' => e = .returned (.tuple #[.pointer (some ⟨W.heap.size + 1, 0, none⟩), .int .i64 0]) ∧ Below W.heap.size W w' ∧ ManyAt w' (W.heap.size + 1) W.heap.size W.heap.size [] 256) := Lib.hid fun W => new_yes 256 (.inr rfl) W
  have HBy := Lib.hid hb
  have HLen := Lib.hid hlen
  have H16 := Lib.hid h16
  clear hb hlen h16
  go_enter Try.func21, Try.ntmps21
  go_wp2_with (go_at_call 8; refine (HNew.out _).mono ?_; rintro e w1 ⟨rfl, hb1, hf1⟩)
  obtain ⟨p, hp⟩ : ∃ p, p = w.heap.size + 1 := ⟨_, rfl⟩
  obtain ⟨q, hq⟩ : ∃ q, q = w.heap.size := ⟨_, rfl⟩
  rw [← hp] at hf1 ⊢
  have HF1 : Hid (On w w1 p q q (rowOf (l.take 0)) 256) := ⟨by rw [hq]; exact hf1, hb1, by omega, by omega⟩
  have HPQ := Lib.hid (And.intro hp hq)
  clear hb1 hf1 hp hq
  go_loopw [6, 7] (fun bd i wr => ∃ j : Nat, j ≤ len ∧ i = .int .i64 j ∧ bd = .int .i64 ((j - (rowOf (l.take j)).length : Nat) : Int) ∧ ∃ e, On w wr p q e (rowOf (l.take j)) 256) (fun _ i _ => len - (intOf i).toNat)
  case atStart => exact ⟨0, Nat.zero_le _, rfl, rfl, q, HF1.out⟩
  case round =>
    obtain ⟨j, hj, rfl, rfl, e, hO⟩ := hrel
    obtain ⟨wo, hwo⟩ : ∃ wo : World, wo = wr := ⟨_, rfl⟩
    rw [← hwo] at hO ⊢
    clear hwo HF1
    by_cases hlt : j < len
    · have jl : (j : Int) < (len : Int) := by omega
      have j0 : (0 : Int) ≤ (j : Int) := by omega
      have jd : decide (j < len) = true := decide_eq_true hlt
      have hjl : j < l.length := by rw [HLen.out]; exact hlt
      obtain ⟨g, o, rfl, hc, hg⟩ := (HBy.out.low hO.low).at' j hjl
      have hnx := rowOf_take l j hjl
      obtain ⟨c, hcc⟩ : ∃ c, l[j] = c := ⟨_, rfl⟩
      rw [hcc] at hc hnx
      obtain ⟨L, hL⟩ : ∃ L, rowOf (l.take j) = L := ⟨_, rfl⟩
      have hLl : L.length ≤ j := by rw [← hL]; have := rowOf_len (l.take j); rw [List.length_take] at this; omega
      rw [hL] at hnx hO ⊢
      have hNF : isIn c L = false → L.length < 256 := fun h => not_full hO.many.srt h
      have hE : putE c L 256 = if isIn c L = true then 8 else 0 := by
        rw [putE]
        split
        · rfl
        · rename_i h
          have := hNF (by simpa using h)
          rw [if_neg (by omega)]
      have hPl : (putS c (c.toNat : Int) 1 L 256).length = if isIn c L = true then L.length else L.length + 1 := by
        rw [put_len]
        cases hc : isIn c L
        · have := hNF hc
          rw [if_neg (by simp; omega), if_neg (by simp)]
        · rw [if_pos (.inl rfl), if_pos rfl]
      have HP : Hid (∀ W, On w W p q e L 256 → Calls Try.prog 12 #[.pointer (some ⟨p, 0, none⟩), .int .u8 (c.toNat : Int), .agg #[.int .i64 (c.toNat : Int), .int .u32 1]] W fun e' w' => e' = .returned (.int .i64 (putE c L 256)) ∧ ∃ e2, On w w' p q e2 (putS c (c.toNat : Int) 1 L 256) 256 ∧ Turned [q, e] W w') := Lib.hid fun W h => put_on h (Nat.le_refl _) c _ _ _ 1 _ rfl (srt_len h.many.srt) rfl rfl
      have HS := Lib.hid hO
      have HN := Lib.hid hnx
      have HPL := Lib.hid hPl
      have HLL := Lib.hid hLl
      have HQ : Hid (w.heap.size ≤ q ∧ w.heap.size ≤ e) := ⟨hO.hq, hO.he⟩
      have HG : Hid (g < wo.drew.heap.size ∧ g ∉ [q, e]) := by
        have h1 := HQ.out
        obtain ⟨g', o', e', _, hg'⟩ := HBy.out.at' j hjl
        obtain ⟨rfl, rfl⟩ : g = g' ∧ o = o' := by simpa using e'
        exact ⟨hg, by simp; omega⟩
      clear hO hnx hPl hLl hL hcc hg hNF
      have jb : (j : Int) ≤ 300 := by have := H16.out; omega
      have jb2 : ((j - L.length : Nat) : Int) ≤ 300 := by have := H16.out; omega
      have jb3 : (0 : Int) ≤ ((j - L.length : Nat) : Int) := by omega
      have c0 : (0 : Int) ≤ (c.toNat : Int) := by omega
      have c1 : (c.toNat : Int) ≤ 255 := by have := c.toNat_lt; omega
      have cw : IntKind.i64.wrap (c.toNat : Int) = (c.toNat : Int) := wrap_byte c
      cases hin : isIn c L
      · rw [hin, if_neg (by simp)] at hE
        have HPL0 : Hid ((putS c (c.toNat : Int) 1 L 256).length = L.length + 1) := by have := HPL.out; rw [hin, if_neg (by simp)] at this; exact this
        rw [hE] at HP
        clear hE hin HPL
        go_wp2_with fail
        go_region_held3 (fun W' => W'.cell? ⟨g, o + j, none⟩ = some (.int .u8 (c.toNat : Int)))
          (first | go_keep | exact HCK.out)
          (first
            | (go_at_call 12
               with_reducible refine (HP.out _ (HS.out.below (Below.refl _ _).drew)).mono ?_
               rintro e' w3 ⟨rfl, e3, hf3, ht3⟩
               have HCK := Lib.hid ((cell_same (p := ⟨g, o + j, none⟩) (ht3.block g HG.out.1 HG.out.2)).trans hc)))
        all_goals
          go_wp2_with fail
          go_roundw
          case rel => exact ⟨j + 1, by omega, by go_num, by rw [HN.out, HPL0.out]; congr 2; have := HLL.out; omega, e3, by rw [HN.out]; exact hf3⟩
          case measure => simp [intOf] <;> omega
      · rw [hin, if_pos rfl] at hE
        have HPL0 : Hid ((putS c (c.toNat : Int) 1 L 256).length = L.length) := by have := HPL.out; rw [hin, if_pos rfl] at this; exact this
        rw [hE] at HP
        clear hE hin HPL
        go_wp2_with fail
        go_region_held3 (fun W' => W'.cell? ⟨g, o + j, none⟩ = some (.int .u8 (c.toNat : Int)))
          (first | go_keep | exact HCK.out)
          (first
            | (go_at_call 12
               with_reducible refine (HP.out _ (HS.out.below (Below.refl _ _).drew)).mono ?_
               rintro e' w3 ⟨rfl, e3, hf3, ht3⟩
               have HCK := Lib.hid ((cell_same (p := ⟨g, o + j, none⟩) (ht3.block g HG.out.1 HG.out.2)).trans hc)))
        all_goals
          go_wp2_with fail
          go_roundw
          case rel => exact ⟨j + 1, by omega, by go_num, by rw [HN.out, HPL0.out]; congr 2; have := HLL.out; omega, e3, by rw [HN.out]; exact hf3⟩
          case measure => simp [intOf] <;> omega
    · obtain rfl : j = len := by omega
      have hL : rowOf (l.take j) = rowOf l := by rw [List.take_of_length_le (by rw [HLen.out]; exact Nat.le_refl _)]
      rw [hL] at hO ⊢
      have HS := Lib.hid hO
      clear hO hL
      go_wp2_with fail
      go_ret2
      have := HPQ.out
      exact ⟨p, q, e, rfl, HS.out, by omega⟩
end Go.Proofs.Ytiifogbdoajnoaa
