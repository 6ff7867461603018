/- Texts of stage 9, merged: NdModel, NdRising, NdSized, NdCoded, NdInner, NdAsk. -/
import Derived.Test.YtjaijomkdgoenaaDoorGNa
import Derived.Test.YtjaijomkdgoenaaDoorGCd
import Derived.Test.YtjaijomkdgoenaaDoorMnSrt
/- A node as lists: what its conditions say, and the kids' rows that Add, Cut and Turn make. -/
namespace Go.Proofs.YtjaijomkdgoenaaDoor.Nd
open Go.RowKit
open Mn
set_option maxRecDepth 1000000
set_option maxHeartbeats 4000000

structure No where
  k : Int
  c : ByteArray
  v : ByteArray
  p : ByteArray
  bs : List UInt8
  rs : List (Int × Int)

/-- The bytes rise. -/
abbrev Ris (l : List UInt8) : Prop := l.Pairwise (fun a b => a.toNat < b.toNat)

theorem ris_no {l : List UInt8} {i : Nat} {a b : UInt8} (h1 : l[i]? = some a) (h2 : l[i + 1]? = some b) (h : ¬ a.toNat < b.toNat) : ¬ Ris l := fun hr => by
  obtain ⟨e1, e2⟩ := List.getElem?_eq_some_iff.1 h1
  obtain ⟨e3, e4⟩ := List.getElem?_eq_some_iff.1 h2
  have := List.pairwise_iff_getElem.1 hr _ _ e1 e3 (Nat.lt_succ_self i)
  rw [e2, e4] at this
  exact h this
theorem ris_yes : ∀ {l : List UInt8}, (∀ (i : Nat) (a b : UInt8), l[i]? = some a → l[i + 1]? = some b → a.toNat < b.toNat) → Ris l
  | [], _ => List.Pairwise.nil
  | [x], _ => List.pairwise_singleton _ _
  | x :: y :: l, h => by
    have h1 : Ris (y :: l) := ris_yes (fun i a b e1 e2 => h (i + 1) a b (by simpa using e1) (by simpa using e2))
    have h2 : x.toNat < y.toNat := h 0 x y rfl rfl
    refine List.Pairwise.cons ?_ h1
    intro z hz
    rcases List.mem_cons.1 hz with rfl | hz
    · exact h2
    · exact Nat.lt_trans h2 ((List.pairwise_cons.1 h1).1 z hz)

def No.inner (n : No) : Bool :=
  decide (0 < roomOf n.k) && ((decide (n.c.toList = []) && decide (n.v.toList = [])) && (decide ((n.p.size : Int) ≤ 34) && (decide ((n.bs.length : Int) = n.rs.length) && (decide ((n.bs.length : Int) ≤ roomOf n.k) && (decide (Ris n.bs) && !impL n.rs)))))
def No.anchor (n : No) : Bool := (decide (n.k = 5) && decide (n.p.toList = [])) && n.inner
def No.rightInner (n : No) : Bool := decide (1 < (n.bs.length : Int)) && (((ofK n.bs.length).2 && decide ((ofK n.bs.length).1 = n.k)) && n.inner)
def No.usable (n : No) : Bool := n.anchor || n.rightInner
def No.rightLeaf (n : No) : Bool :=
  decide (n.k = 1) && (decide ((n.v.size : Int) ≤ 32) && ((decide (n.p.toList = []) && (decide (n.bs.length = 0) && decide (n.rs.length = 0))) && Cd.isCode n.c.data.toList))
def No.right (n : No) : Bool := n.rightLeaf || n.rightInner
def No.full (n : No) : Bool := decide ((n.bs.length : Int) = roomOf n.k)

/-- The node with the kids l instead. -/
def No.kids (n : No) (k : Int) (l : List En) : No := { n with k := k, bs := l.map (·.1), rs := l.map (·.2) }
/-- The kind that a node with so many kids has. -/
def kindOf (n : No) (keep : Bool) (m : Nat) : Int := if keep = true then n.k else (ofK m).1

theorem inner_iff (n : No) : n.inner = true ↔ 0 < roomOf n.k ∧ n.c.toList = [] ∧ n.v.toList = [] ∧ (n.p.size : Int) ≤ 34 ∧ n.bs.length = n.rs.length ∧ (n.bs.length : Int) ≤ roomOf n.k ∧ Ris n.bs ∧ impL n.rs = false := by
  simp [No.inner, Bool.and_eq_true, and_assoc]
  intros
  omega
theorem room_pos {k : Int} (h : 0 < roomOf k) : k = 2 ∨ k = 3 ∨ k = 4 ∨ k = 5 := by
  unfold roomOf at h
  split at h
  · rename_i h2
    obtain ⟨i, rfl⟩ : ∃ i : Nat, k = i := ⟨k.toNat, by omega⟩
    have : i = 0 ∨ i = 1 ∨ i = 2 ∨ i = 3 ∨ i = 4 ∨ i = 5 := by omega
    rcases this with rfl | rfl | rfl | rfl | rfl | rfl
    · revert h; decide
    · revert h; decide
    all_goals simp
  · omega
theorem room_le (k : Int) : roomOf k ≤ 256 := by
  by_cases h : 0 < roomOf k
  · rcases room_pos h with rfl | rfl | rfl | rfl <;> decide
  · omega
theorem inner_small {n : No} (h : n.inner = true) : n.bs.length ≤ 256 := by
  have h1 := ((inner_iff n).1 h).2.2.2.2.2.1
  have := room_le n.k
  omega
theorem usable_inner {n : No} (h : n.usable = true) : n.inner = true := by
  unfold No.usable No.anchor No.rightInner at h
  simp only [Bool.or_eq_true, Bool.and_eq_true] at h
  rcases h with ⟨_, h⟩ | ⟨_, _, h⟩ <;> exact h

/-- The kids of a node whose bytes and kids are as many. -/
def No.ens (n : No) : List En := n.bs.zip n.rs
theorem ens_bs {n : No} (h : n.bs.length = n.rs.length) : n.ens.map (·.1) = n.bs := by
  unfold No.ens; exact List.map_fst_zip (by omega)
theorem ens_rs {n : No} (h : n.bs.length = n.rs.length) : n.ens.map (·.2) = n.rs := by
  unfold No.ens; exact List.map_snd_zip (by omega)
theorem ens_len {n : No} (h : n.bs.length = n.rs.length) : n.ens.length = n.bs.length := by
  unfold No.ens; rw [List.length_zip]; omega
theorem kids_ens {n : No} (h : n.bs.length = n.rs.length) : n.kids n.k n.ens = n := by
  unfold No.kids; rw [ens_bs h, ens_rs h]
theorem ens_kids (n : No) (k : Int) (l : List En) : (n.kids k l).ens = l := by
  unfold No.kids No.ens
  induction l with
  | nil => rfl
  | cons a l ih => simpa using ih
theorem srt_ris {l : List En} : Srt l ↔ Ris (l.map (·.1)) := by
  unfold Srt Ris; rw [List.pairwise_map]
theorem ens_srt {n : No} (h : n.bs.length = n.rs.length) (hr : Ris n.bs) : Srt n.ens := by
  rw [srt_ris, ens_bs h]; exact hr

theorem ofK_eq (n : Nat) : ofK n = if (n : Int) ≤ 4 then (2, true) else if (n : Int) ≤ 16 then (3, true) else if (n : Int) ≤ 48 then (4, true) else if (n : Int) ≤ 256 then (5, true) else (0, false) := by
  unfold ofK; exact if_neg (by omega)
/-- The kind and the room of so many kids. -/
theorem ofK_room {n : Nat} (h : n ≤ 256) : (ofK n).2 = true ∧ (n : Int) ≤ roomOf (ofK n).1 ∧ (roomOf (ofK n).1 = 4 ∨ roomOf (ofK n).1 = 16 ∨ roomOf (ofK n).1 = 48 ∨ roomOf (ofK n).1 = 256) := by
  rw [ofK_eq]
  by_cases h1 : (n : Int) ≤ 4
  · rw [if_pos h1]; exact ⟨rfl, h1, .inl rfl⟩
  rw [if_neg h1]
  by_cases h2 : (n : Int) ≤ 16
  · rw [if_pos h2]; exact ⟨rfl, h2, .inr (.inl rfl)⟩
  rw [if_neg h2]
  by_cases h3 : (n : Int) ≤ 48
  · rw [if_pos h3]; exact ⟨rfl, h3, .inr (.inr (.inl rfl))⟩
  rw [if_neg h3]
  have h4 : (n : Int) ≤ 256 := by omega
  rw [if_pos h4]; exact ⟨rfl, h4, .inr (.inr (.inr rfl))⟩
/-- A kind is the next one exactly where the room is used up. -/
theorem ofK_next {n : Nat} (h : n < 256) : (ofK ((n + 1 : Nat) : Int)).1 = (ofK (n : Int)).1 ↔ (n : Int) ≠ roomOf (ofK n).1 := by
  have r2 : roomOf 2 = 4 := rfl
  have r3 : roomOf 3 = 16 := rfl
  have r4 : roomOf 4 = 48 := rfl
  have r5 : roomOf 5 = 256 := rfl
  rw [ofK_eq, ofK_eq]
  have hc : ((n + 1 : Nat) : Int) = (n : Int) + 1 := by omega
  rw [hc]
  by_cases h1 : (n : Int) ≤ 4
  · rw [if_pos h1]
    by_cases h2 : (n : Int) + 1 ≤ 4
    · rw [if_pos h2]; show (2 : Int) = 2 ↔ (n : Int) ≠ roomOf 2; rw [r2]; omega
    · rw [if_neg h2, if_pos (by omega)]; show (3 : Int) = 2 ↔ (n : Int) ≠ roomOf 2; rw [r2]; omega
  rw [if_neg h1, if_neg (show ¬ (n : Int) + 1 ≤ 4 by omega)]
  by_cases h1 : (n : Int) ≤ 16
  · rw [if_pos h1]
    by_cases h2 : (n : Int) + 1 ≤ 16
    · rw [if_pos h2]; show (3 : Int) = 3 ↔ (n : Int) ≠ roomOf 3; rw [r3]; omega
    · rw [if_neg h2, if_pos (by omega)]; show (4 : Int) = 3 ↔ (n : Int) ≠ roomOf 3; rw [r3]; omega
  rw [if_neg h1, if_neg (show ¬ (n : Int) + 1 ≤ 16 by omega)]
  by_cases h1 : (n : Int) ≤ 48
  · rw [if_pos h1]
    by_cases h2 : (n : Int) + 1 ≤ 48
    · rw [if_pos h2]; show (4 : Int) = 4 ↔ (n : Int) ≠ roomOf 4; rw [r4]; omega
    · rw [if_neg h2, if_pos (by omega)]; show (5 : Int) = 4 ↔ (n : Int) ≠ roomOf 4; rw [r4]; omega
  rw [if_neg h1, if_neg (show ¬ (n : Int) + 1 ≤ 48 by omega), if_pos (show (n : Int) + 1 ≤ 256 by omega), if_pos (show (n : Int) ≤ 256 by omega)]
  show (5 : Int) = 5 ↔ (n : Int) ≠ roomOf 5
  rw [r5]
  omega

/-- The row with an entry more: who stands where. -/
theorem put_at {b : UInt8} {s g : Int} {l : List En} (hs : Srt l) (h : isIn b l = false) :
    isIn b (l.insertIdx (placeIx b l) (b, s, g)) = true ∧ atOf b (l.insertIdx (placeIx b l) (b, s, g)) = (b, s, g) := by
  refine mem_at (x := (b, s, g)) (srt_insert hs h s g) ?_
  rw [List.mem_insertIdx (place_le _ _)]
  exact .inl rfl
theorem place_one {b : UInt8} {s g : Int} {l : List En} (hs : Srt l) {j : Nat} (h : l[j]? = some (b, s, g)) : placeIx b l = j := by
  obtain ⟨hj, e⟩ := List.getElem?_eq_some_iff.1 h
  obtain ⟨h1, h2⟩ := place_split b l hs
  have hle : placeIx b l ≤ j := by
    rcases Nat.lt_or_ge j (placeIx b l) with h | h
    · have := h1 j hj h; rw [e] at this; exact absurd this (Nat.lt_irrefl _)
    · exact h
  rcases Nat.lt_or_eq_of_le hle with h | h
  · have a1 := List.pairwise_iff_getElem.1 hs _ _ (by omega) hj h
    have a2 := h2 _ (by omega) (Nat.le_refl _)
    rw [e] at a1
    exact absurd a1 (by simpa using a2)
  · exact h
theorem put_place {b : UInt8} {s g : Int} {l : List En} (hs : Srt l) (h : isIn b l = false) : placeIx b (l.insertIdx (placeIx b l) (b, s, g)) = placeIx b l := by
  refine place_one (s := s) (g := g) (srt_insert hs h s g) ?_
  rw [List.getElem?_insertIdx_self, if_pos (place_le _ _)]
theorem put_take {b : UInt8} {s g : Int} {l : List En} (hs : Srt l) (h : isIn b l = false) : takeS b (l.insertIdx (placeIx b l) (b, s, g)) = l := by
  unfold takeS
  rw [if_pos (put_at hs h).1, put_place hs h, List.eraseIdx_insertIdx_self]
theorem turn_place {b : UInt8} {s g : Int} {l : List En} (hs : Srt l) (h : isIn b l = true) : placeIx b (turnS b s g l) = placeIx b l := by
  refine place_one (s := s) (g := g) (srt_turn hs s g) ?_
  unfold turnS
  rw [if_pos h, List.getElem?_set_self (isIn_lt h)]
theorem turn_back {b : UInt8} {s g s' g' : Int} {l : List En} (hs : Srt l) (h : l[placeIx b l]? = some (b, s, g)) (hi : isIn b l = true) : turnS b s g (turnS b s' g' l) = l := by
  have h1 := (turn_at hs s' g' hi).1
  have h2 := turn_place (s := s') (g := g') hs hi
  rw [turnS, if_pos h1, h2, turnS, if_pos hi, List.set_set]
  obtain ⟨h3, h4⟩ := List.getElem?_eq_some_iff.1 h
  rw [← h4]
  exact List.set_getElem_self h3
end Go.Proofs.YtjaijomkdgoenaaDoor.Nd

/- Whether the bytes of a node rise. -/
namespace Go.Proofs.YtjaijomkdgoenaaDoor.Nd
open Go.RowKit
set_option maxRecDepth 1000000
set_option maxHeartbeats 4000000

theorem rising_any (k : Int) (c v p : ByteArray) (ba : Option Addr) (bn bc : Nat) (ka : Option Addr) (kn kc : Nat) (W : World) (l : List UInt8) (h : BR W l (.slice ba bn bc)) (hl : l.length < 1000000) :
    Calls Tryd.prog 51 #[ndv k c v p ba bn bc ka kn kc] W fun e w' => e = .returned (.bool (decide (Ris l))) ∧ Below W.heap.size W w' := by
  obtain ⟨ao, cap, hv, hc⟩ := h
  cases hv
  obtain ⟨n, hnn⟩ : ∃ n, l.length = n := ⟨_, rfl⟩
  have hcell := Lib.hid hc
  have hget : Hid (∀ j, j < n → ∃ k, l[j]? = some k) := fun j hj => ⟨_, List.getElem?_eq_getElem (by rw [hnn]; exact hj)⟩
  have hbig : Hid (n < 1000000) := by show _ < _; rw [← hnn]; exact hl
  have HLN := Lib.hid hnn
  rw [hnn]
  clear hc hl hnn
  unfold ndv
  have B0 := Lib.hid (Below.new (Below.refl W.heap.size W) (.cells #[.int .i64 k, .string c, .string v, .string p, .slice ba n bc, .slice ka kn kc] 49))
  have F0 := Lib.hid (Fresh.new W W.heap.size #[.int .i64 k, .string c, .string v, .string p, .slice ba n bc, .slice ka kn kc] 49 rfl)
  go_enter Tryd.func51, Tryd.ntmps51
  go_upto_region 2 with fail
  obtain ⟨W1, hW1⟩ : ∃ W1, W1 = W.alloc (.cells #[.int .i64 k, .string c, .string v, .string p, .slice ba n bc, .slice ka kn kc] 49) := ⟨_, rfl⟩
  rw [← hW1] at B0 F0 ⊢
  clear hW1
  go_loopw [3] (fun cv wr => ∃ c : Nat, cv = .int .i64 ((c : Int) + 1) ∧ Hid (∀ (i : Nat) (a b : UInt8), i < c → l[i]? = some a → l[i + 1]? = some b → a.toNat < b.toNat) ∧ c ≤ n ∧ Below W1.heap.size W1 wr) (fun cv _ => n + 1 - (intOf cv).toNat)
  case atStart => exact ⟨0, rfl, by intro i a b hi; omega, Nat.zero_le _, Below.refl _ _⟩
  case round =>
    obtain ⟨c, rfl, hbef, hcn, hbw⟩ := hrel
    have n6 := hbig.out
    have HBW := Lib.hid hbw
    have d4 := (F0.out.below hbw).cell 4
    simp only [List.getElem?_toArray, List.getElem?_cons_zero, List.getElem?_cons_succ] at d4
    by_cases hab : c + 1 < n
    · obtain ⟨x, hx⟩ := hget.out c (by omega)
      obtain ⟨y, hy⟩ := hget.out (c + 1) hab
      obtain ⟨blk, off, rfl, hlt, hcl⟩ := hcell.out c x hx
      obtain ⟨blk2, off2, e2, hlt2, hcl2⟩ := hcell.out (c + 1) y hy
      cases e2
      have b1 : blk < W1.heap.size := by have := B0.out.size; omega
      replace hcl := (hbw.cell (p := ⟨blk, off + c, none⟩) b1).trans ((B0.out.cell (p := ⟨blk, off + c, none⟩) hlt).trans hcl)
      replace hcl2 := (hbw.cell (p := ⟨blk, off + (c + 1), none⟩) b1).trans ((B0.out.cell (p := ⟨blk, off + (c + 1), none⟩) hlt).trans hcl2)
      have HX := Lib.hid hx
      have HY := Lib.hid hy
      have c0 : (0 : Int) ≤ (c : Int) := by omega
      have c1 : (c : Int) + 1 < (n : Int) := by omega
      have c2 : (c : Int) < (n : Int) := by omega
      have c3 : (0 : Int) ≤ (c : Int) + 1 := by omega
      have c4 : (c : Int) + 1 - 1 = (c : Int) := by omega
      clear hx hy hbw hcell hget hlt hlt2 b1
      by_cases hxy : x.toNat < y.toNat
      · have dxy : decide (y.toNat ≤ x.toNat) = false := decide_eq_false (by omega)
        have dxy' : ¬ y.toNat ≤ x.toNat := by omega
        go_wp2_with fail
        go_quiet (fail)
        go_wp2_with fail
        go_roundw
        case rel =>
          refine ⟨c + 1, by simp, ?_, by omega, below_drewN HBW.out _⟩
          intro i a b hi h1 h2
          rcases Nat.lt_or_ge i c with h | h
          · exact hbef.out i a b h h1 h2
          · obtain rfl : i = c := by omega
            rw [HX.out] at h1
            rw [HY.out] at h2
            cases h1
            cases h2
            exact hxy
        case measure => simp [intOf]; omega
      · have dxy : decide (y.toNat ≤ x.toNat) = true := decide_eq_true (by omega)
        have dxy' : y.toNat ≤ x.toNat := by omega
        have hd : decide (Ris l) = false := decide_eq_false (ris_no HX.out HY.out hxy)
        go_wp2_with fail
        go_quiet (fail)
        go_wp2_with fail
        go_ret
        exact ⟨by first | (rw [hd]; first | done | rfl | simp; done) | simp [hd], Below.step B0.out (below_drewN HBW.out _)⟩
    · have jd : ¬ (c : Int) + 1 < (n : Int) := by omega
      have hr : Ris l := ris_yes (fun i a b h1 h2 => hbef.out i a b (by
        have := (List.getElem?_eq_some_iff.1 h2).1
        have := HLN.out
        omega) h1 h2)
      have hd : decide (Ris l) = true := decide_eq_true hr
      clear hbw hcell hget hr
      go_wp2_with fail
      go_ret
      exact ⟨by first | (rw [hd]; first | done | rfl | simp; done) | simp, Below.step B0.out HBW.out⟩
end Go.Proofs.YtjaijomkdgoenaaDoor.Nd

/- Whether a node is of the kind that its number of kids asks for. -/
namespace Go.Proofs.YtjaijomkdgoenaaDoor.Nd
open Go.RowKit
set_option maxRecDepth 1000000
set_option maxHeartbeats 4000000

theorem sized_any (k : Int) (c v p : ByteArray) (ba : Option Addr) (bn bc : Nat) (ka : Option Addr) (kn kc : Nat) (W : World) (h : Rm W) :
    Calls Tryd.prog 37 #[ndv k c v p ba bn bc ka kn kc] W fun e w' => e = .returned (.bool ((ofK bn).2 && decide ((ofK bn).1 = k))) ∧ Below W.heap.size W w' := by
  have H := Lib.hid h
  clear h
  unfold ndv
  obtain ⟨a, ha⟩ : ∃ a, (ofK bn).1 = a := ⟨_, rfl⟩
  obtain ⟨b, hb⟩ : ∃ b, (ofK bn).2 = b := ⟨_, rfl⟩
  rw [ha, hb]
  have HO := Lib.hid (fun W h => of_any bn W h)
  rw [ha, hb] at HO
  clear ha hb
  cases b
  all_goals
    go_enter Tryd.func37, Tryd.ntmps37
    go_wp2_with (go_at_call 17; refine (HO.out _ (H.out.on (Below.new (Below.refl _ _) _))).mono ?_; rintro e1 w1 ⟨rfl, h1⟩; replace h1 := h1.symm; subst h1)
    go_ret
    exact ⟨by first | rfl | simp [*, Bool.beq_eq_decide_eq], Below.new (Below.refl _ _) _⟩
end Go.Proofs.YtjaijomkdgoenaaDoor.Nd

/- Whether a node's code is one of some key. -/
namespace Go.Proofs.YtjaijomkdgoenaaDoor.Nd
open Go.RowKit
set_option maxRecDepth 1000000
set_option maxHeartbeats 4000000

theorem coded_any (k : Int) (c v p : ByteArray) (ba : Option Addr) (bn bc : Nat) (ka : Option Addr) (kn kc : Nat) (W : World) (hc : c.size ≤ 1000000) :
    Calls Tryd.prog 35 #[ndv k c v p ba bn bc ka kn kc] W fun e w' => e = .returned (.bool (Cd.isCode c.data.toList)) ∧ Below W.heap.size W w' := by
  have H := Lib.hid (fun w => Cd.is_any c hc w)
  clear hc
  unfold ndv
  obtain ⟨b, hb⟩ : ∃ b, Cd.isCode c.data.toList = b := ⟨_, rfl⟩
  rw [hb] at H ⊢
  clear hb
  have B0 := Lib.hid (Below.new (Below.refl W.heap.size W) (.cells #[.int .i64 k, .string c, .string v, .string p, .slice ba bn bc, .slice ka kn kc] 49))
  go_enter Tryd.func35, Tryd.ntmps35
  go_wp2_with (go_at_call 45; refine (H.out _).mono ?_; rintro e1 w1 ⟨rfl, hb1⟩; have HB1 := Lib.hid hb1; clear hb1)
  go_ret
  exact ⟨by first | rfl | simp [*], Below.step B0.out HB1.out⟩
end Go.Proofs.YtjaijomkdgoenaaDoor.Nd

/- The conditions that are made of conditions: inner, rightInner, rightLeaf, anchor, usable. -/
namespace Go.Proofs.YtjaijomkdgoenaaDoor.Nd
open Go.RowKit
set_option maxRecDepth 1000000
set_option maxHeartbeats 4000000

/-- A node in the world: its parts, its bytes and its kids. -/
structure NdAt (W : World) (n : No) (ba : Option Addr) (bc : Nat) (ka : Option Addr) (kc : Nat) : Prop where
  rm : Rm W
  b : BR W n.bs (.slice ba n.bs.length bc)
  r : RR W n.rs (.slice ka n.rs.length kc)
  bl : n.bs.length < 1000000
  rl : n.rs.length < 1000000
  cl : n.c.size ≤ 1000000
/-- Its value. -/
def No.val (n : No) (ba : Option Addr) (bc : Nat) (ka : Option Addr) (kc : Nat) : Value := ndv n.k n.c n.v n.p ba n.bs.length bc ka n.rs.length kc
theorem NdAt.below {W W' : World} {n : No} {ba : Option Addr} {bc : Nat} {ka : Option Addr} {kc : Nat} (h : NdAt W n ba bc ka kc) (hb : Below W.heap.size W W') : NdAt W' n ba bc ka kc :=
  ⟨h.rm.on hb, h.b.below hb, h.r.below hb, h.bl, h.rl, h.cl⟩

section
variable {W : World} {n : No} {ba : Option Addr} {bc : Nat} {ka : Option Addr} {kc : Nat}

theorem vinner_any (h : NdAt W n ba bc ka kc) : Calls Tryd.prog 38 #[n.val ba bc ka kc] W fun e w' => e = .returned (.bool n.inner) ∧ Below W.heap.size W w' := by
  obtain ⟨fs, hfs⟩ : ∃ fs : List (Nat × Bool), fs = [(46, decide (0 < roomOf n.k)), (47, decide (n.c.toList = []) && decide (n.v.toList = [])), (48, decide ((n.p.size : Int) ≤ 34)), (49, decide ((n.bs.length : Int) = n.rs.length)), (50, decide ((n.bs.length : Int) ≤ roomOf n.k)), (51, decide (Ris n.bs)), (52, !impL n.rs)] := ⟨_, rfl⟩
  have hres : fs.all (·.2) = n.inner := by rw [hfs]; simp [No.inner]
  have hlen : fs.length = 7 := by rw [hfs]; rfl
  have hcond : ∀ W1, Below W.heap.size W W1 → ∀ (j : Nat) (x : Nat × Bool), fs[j]? = some x → Cond W1 (n.val ba bc ka kc) x := by
    intro W1 h1 j x hx
    have h2 := h.below h1
    have hm := List.mem_of_getElem? hx
    rw [hfs] at hm
    simp only [List.mem_cons, List.not_mem_nil, or_false] at hm
    rcases hm with rfl | rfl | rfl | rfl | rfl | rfl | rfl
    · exact ⟨fun w => by kernel_rfl, fun W' hW => inner_any _ _ _ _ _ _ _ _ _ _ W' (h2.below hW).rm⟩
    · exact ⟨fun w => by kernel_rfl, fun W' hW => keyless_any _ _ _ _ _ _ _ _ _ _ W'⟩
    · exact ⟨fun w => by kernel_rfl, fun W' hW => near_any _ _ _ _ _ _ _ _ _ _ W'⟩
    · exact ⟨fun w => by kernel_rfl, fun W' hW => paired_any _ _ _ _ _ _ _ _ _ _ W'⟩
    · exact ⟨fun w => by kernel_rfl, fun W' hW => within_any _ _ _ _ _ _ _ _ _ _ W' (h2.below hW).rm⟩
    · exact ⟨fun w => by kernel_rfl, fun W' hW => rising_any _ _ _ _ _ _ _ _ _ _ W' _ (h2.below hW).b h2.bl⟩
    · exact ⟨fun w => by kernel_rfl, fun W' hW => peopled_any _ _ _ _ _ _ _ _ _ _ W' _ (h2.below hW).r h2.rl⟩
  have HC := Lib.hid hcond
  have HF := Lib.hid hfs
  have HL := Lib.hid hlen
  rw [← hres]
  clear hcond hres h hfs hlen
  unfold No.val ndv at *
  have hmf := @makeFunc_run Tryd.prog
  go_enter Tryd.func38, Tryd.ntmps38
  go_wp2_with (go_at_call 31; refine (all_lay fs 7 HL.out (by omega) (by rw [HF.out]; rfl) rfl rfl HC.out).mono ?_; rintro e1 w1 ⟨rfl, hb1⟩; have HB1 := Lib.hid hb1; clear hb1)
  go_ret
  exact ⟨by first | rfl | simp, HB1.out⟩

theorem vrightInner_any (h : NdAt W n ba bc ka kc) : Calls Tryd.prog 20 #[n.val ba bc ka kc] W fun e w' => e = .returned (.bool n.rightInner) ∧ Below W.heap.size W w' := by
  obtain ⟨fs, hfs⟩ : ∃ fs : List (Nat × Bool), fs = [(36, decide (1 < (n.bs.length : Int))), (37, (ofK n.bs.length).2 && decide ((ofK n.bs.length).1 = n.k)), (38, n.inner)] := ⟨_, rfl⟩
  have hres : fs.all (·.2) = n.rightInner := by rw [hfs]; simp [No.rightInner]
  have hlen : fs.length = 3 := by rw [hfs]; rfl
  have hcond : ∀ W1, Below W.heap.size W W1 → ∀ (j : Nat) (x : Nat × Bool), fs[j]? = some x → Cond W1 (n.val ba bc ka kc) x := by
    intro W1 h1 j x hx
    have h2 := h.below h1
    have hm := List.mem_of_getElem? hx
    rw [hfs] at hm
    simp only [List.mem_cons, List.not_mem_nil, or_false] at hm
    rcases hm with rfl | rfl | rfl
    · exact ⟨fun w => by kernel_rfl, fun W' hW => shared_any _ _ _ _ _ _ _ _ _ _ W'⟩
    · exact ⟨fun w => by kernel_rfl, fun W' hW => sized_any _ _ _ _ _ _ _ _ _ _ W' (h2.below hW).rm⟩
    · exact ⟨fun w => by kernel_rfl, fun W' hW => vinner_any (h2.below hW)⟩
  have HC := Lib.hid hcond
  have HF := Lib.hid hfs
  have HL := Lib.hid hlen
  rw [← hres]
  clear hcond hres h hfs hlen
  unfold No.val ndv at *
  have hmf := @makeFunc_run Tryd.prog
  go_enter Tryd.func20, Tryd.ntmps20
  go_wp2_with (go_at_call 31; refine (all_lay fs 3 HL.out (by omega) (by rw [HF.out]; rfl) rfl rfl HC.out).mono ?_; rintro e1 w1 ⟨rfl, hb1⟩; have HB1 := Lib.hid hb1; clear hb1)
  go_ret
  exact ⟨by first | rfl | simp, HB1.out⟩

theorem vanchor_any (h : NdAt W n ba bc ka kc) : Calls Tryd.prog 30 #[n.val ba bc ka kc] W fun e w' => e = .returned (.bool n.anchor) ∧ Below W.heap.size W w' := by
  obtain ⟨fs, hfs⟩ : ∃ fs : List (Nat × Bool), fs = [(44, decide (n.k = 5) && decide (n.p.toList = [])), (38, n.inner)] := ⟨_, rfl⟩
  have hres : fs.all (·.2) = n.anchor := by rw [hfs]; simp [No.anchor]
  have hlen : fs.length = 2 := by rw [hfs]; rfl
  have hcond : ∀ W1, Below W.heap.size W W1 → ∀ (j : Nat) (x : Nat × Bool), fs[j]? = some x → Cond W1 (n.val ba bc ka kc) x := by
    intro W1 h1 j x hx
    have h2 := h.below h1
    have hm := List.mem_of_getElem? hx
    rw [hfs] at hm
    simp only [List.mem_cons, List.not_mem_nil, or_false] at hm
    rcases hm with rfl | rfl
    · exact ⟨fun w => by kernel_rfl, fun W' hW => first_any _ _ _ _ _ _ _ _ _ _ W'⟩
    · exact ⟨fun w => by kernel_rfl, fun W' hW => vinner_any (h2.below hW)⟩
  have HC := Lib.hid hcond
  have HF := Lib.hid hfs
  have HL := Lib.hid hlen
  rw [← hres]
  clear hcond hres h hfs hlen
  unfold No.val ndv at *
  have hmf := @makeFunc_run Tryd.prog
  go_enter Tryd.func30, Tryd.ntmps30
  go_wp2_with (go_at_call 31; refine (all_lay fs 2 HL.out (by omega) (by rw [HF.out]; rfl) rfl rfl HC.out).mono ?_; rintro e1 w1 ⟨rfl, hb1⟩; have HB1 := Lib.hid hb1; clear hb1)
  go_ret
  exact ⟨by first | rfl | simp, HB1.out⟩

theorem vrightLeaf_any (h : NdAt W n ba bc ka kc) : Calls Tryd.prog 19 #[n.val ba bc ka kc] W fun e w' => e = .returned (.bool n.rightLeaf) ∧ Below W.heap.size W w' := by
  obtain ⟨fs, hfs⟩ : ∃ fs : List (Nat × Bool), fs = [(32, decide (n.k = 1)), (33, decide ((n.v.size : Int) ≤ 32)), (34, decide (n.p.toList = []) && (decide (n.bs.length = 0) && decide (n.rs.length = 0))), (35, Cd.isCode n.c.data.toList)] := ⟨_, rfl⟩
  have hres : fs.all (·.2) = n.rightLeaf := by rw [hfs]; simp [No.rightLeaf]
  have hlen : fs.length = 4 := by rw [hfs]; rfl
  have hcond : ∀ W1, Below W.heap.size W W1 → ∀ (j : Nat) (x : Nat × Bool), fs[j]? = some x → Cond W1 (n.val ba bc ka kc) x := by
    intro W1 h1 j x hx
    have h2 := h.below h1
    have hm := List.mem_of_getElem? hx
    rw [hfs] at hm
    simp only [List.mem_cons, List.not_mem_nil, or_false] at hm
    rcases hm with rfl | rfl | rfl | rfl
    · exact ⟨fun w => by kernel_rfl, fun W' hW => leaf_any _ _ _ _ _ _ _ _ _ _ W'⟩
    · exact ⟨fun w => by kernel_rfl, fun W' hW => short_any _ _ _ _ _ _ _ _ _ _ W'⟩
    · exact ⟨fun w => by kernel_rfl, fun W' hW => bare_any _ _ _ _ _ _ _ _ _ _ W'⟩
    · exact ⟨fun w => by kernel_rfl, fun W' hW => coded_any _ _ _ _ _ _ _ _ _ _ W' h2.cl⟩
  have HC := Lib.hid hcond
  have HF := Lib.hid hfs
  have HL := Lib.hid hlen
  rw [← hres]
  clear hcond hres h hfs hlen
  unfold No.val ndv at *
  have hmf := @makeFunc_run Tryd.prog
  go_enter Tryd.func19, Tryd.ntmps19
  go_wp2_with (go_at_call 31; refine (all_lay fs 4 HL.out (by omega) (by rw [HF.out]; rfl) rfl rfl HC.out).mono ?_; rintro e1 w1 ⟨rfl, hb1⟩; have HB1 := Lib.hid hb1; clear hb1)
  go_ret
  exact ⟨by first | rfl | simp, HB1.out⟩

end
end Go.Proofs.YtjaijomkdgoenaaDoor.Nd

/- usable, Right, Anchor, Full. -/
namespace Go.Proofs.YtjaijomkdgoenaaDoor.Nd
open Go.RowKit
set_option maxRecDepth 1000000
set_option maxHeartbeats 4000000
theorem box6 {W : World} {B : Nat} {a b c d e f : Value} {T : TypeId} (h : Fresh W B #[a, b, c, d, e, f] T) :
    W.cell? ⟨B, 0, none⟩ = some a ∧ W.cell? ⟨B, 1, none⟩ = some b ∧ W.cell? ⟨B, 2, none⟩ = some c ∧ W.cell? ⟨B, 3, none⟩ = some d ∧ W.cell? ⟨B, 4, none⟩ = some e ∧ W.cell? ⟨B, 5, none⟩ = some f :=
  ⟨h.cell 0, h.cell 1, h.cell 2, h.cell 3, h.cell 4, h.cell 5⟩
section
variable {W : World} {n : No} {ba : Option Addr} {bc : Nat} {ka : Option Addr} {kc : Nat}
/-- The node in a later world. -/
theorem vusable_any (h : NdAt W n ba bc ka kc) : Calls Tryd.prog 22 #[n.val ba bc ka kc] W fun e w' => e = .returned (.bool n.usable) ∧ Below W.heap.size W w' := by
  have HA := Lib.hid (fun W' (hb : Below W.heap.size W W') => vanchor_any (h.below hb))
  have HR := Lib.hid (fun W' (hb : Below W.heap.size W W') => vrightInner_any (h.below hb))
  have hres : (n.anchor || n.rightInner) = n.usable := rfl
  rw [← hres]
  obtain ⟨a, ha⟩ : ∃ a, n.anchor = a := ⟨_, rfl⟩
  obtain ⟨r, hr⟩ : ∃ r, n.rightInner = r := ⟨_, rfl⟩
  rw [ha, hr]
  rw [ha] at HA
  rw [hr] at HR
  clear h hres ha hr
  unfold No.val ndv at *
  cases a
  all_goals
    go_enter Tryd.func22, Tryd.ntmps22
    go_wp2_with (first | (go_at_call 30; refine (HA.out _ (Below.new (Below.refl _ _) _)).mono ?_; rintro e1 w1 ⟨rfl, hb1⟩; have HB1 := Lib.hid (Below.step (Below.new (Below.refl _ _) _) hb1); obtain ⟨x0, x1, x2, x3, x4, x5⟩ := box6 ((Fresh.new _ _ _ _ rfl).below hb1); clear hb1) | (go_at_call 20; refine (HR.out _ HB1.out).mono ?_; rintro e2 w2 ⟨rfl, hb2⟩; have HB2 := Lib.hid (Below.step HB1.out hb2); clear hb2))
    go_ret
    first
    | exact ⟨by first | rfl | simp, HB2.out⟩
    | exact ⟨by first | rfl | simp, HB1.out⟩

theorem right_any (h : NdAt W n ba bc ka kc) : Calls Tryd.prog 7 #[n.val ba bc ka kc] W fun e w' => e = .returned (.bool n.right) ∧ Below W.heap.size W w' := by
  have HA := Lib.hid (fun W' (hb : Below W.heap.size W W') => vrightLeaf_any (h.below hb))
  have HR := Lib.hid (fun W' (hb : Below W.heap.size W W') => vrightInner_any (h.below hb))
  have hres : (n.rightLeaf || n.rightInner) = n.right := rfl
  rw [← hres]
  obtain ⟨a, ha⟩ : ∃ a, n.rightLeaf = a := ⟨_, rfl⟩
  obtain ⟨r, hr⟩ : ∃ r, n.rightInner = r := ⟨_, rfl⟩
  rw [ha, hr]
  rw [ha] at HA
  rw [hr] at HR
  clear h hres ha hr
  unfold No.val ndv at *
  cases a
  all_goals
    go_enter Tryd.func7, Tryd.ntmps7
    go_wp2_with (first | (go_at_call 19; refine (HA.out _ (Below.new (Below.new (Below.refl _ _) _) _)).mono ?_; rintro e1 w1 ⟨rfl, hb1⟩; have HB1 := Lib.hid (Below.step (Below.new (Below.new (Below.refl _ _) _) _) hb1); obtain ⟨x0, x1, x2, x3, x4, x5⟩ := box6 ((Fresh.new _ (W.heap.size + 1) _ _ (by simp)).below hb1); clear hb1) | (go_at_call 20; refine (HR.out _ HB1.out).mono ?_; rintro e2 w2 ⟨rfl, hb2⟩; have HB2 := Lib.hid (Below.step HB1.out hb2); clear hb2))
    go_ret
    first
    | exact ⟨by first | rfl | simp, HB2.out⟩
    | exact ⟨by first | rfl | simp, HB1.out⟩

theorem anchor_any (h : NdAt W n ba bc ka kc) : Calls Tryd.prog 18 #[n.val ba bc ka kc] W fun e w' => e = .returned (.bool n.anchor) ∧ Below W.heap.size W w' := by
  have HA := Lib.hid (fun W' (hb : Below W.heap.size W W') => vanchor_any (h.below hb))
  clear h
  unfold No.val ndv at *
  go_enter Tryd.func18, Tryd.ntmps18
  go_wp2_with (go_at_call 30; refine (HA.out _ (Below.new (Below.refl _ _) _)).mono ?_; rintro e1 w1 ⟨rfl, hb1⟩; have HB1 := Lib.hid (Below.step (Below.new (Below.refl _ _) _) hb1); clear hb1)
  go_ret
  exact ⟨by first | rfl | simp, HB1.out⟩

theorem full'_any (h : NdAt W n ba bc ka kc) : Calls Tryd.prog 14 #[n.val ba bc ka kc] W fun e w' => e = .returned (.bool (n.usable && n.full)) ∧ Below W.heap.size W w' := by
  have HA := Lib.hid (fun W' (hb : Below W.heap.size W W') => vusable_any (h.below hb))
  have HR := Lib.hid (fun W' (hb : Below W.heap.size W W') => full_any n.k n.c n.v n.p ba n.bs.length bc ka n.rs.length kc W' (h.rm.on hb))
  obtain ⟨a, ha⟩ : ∃ a, n.usable = a := ⟨_, rfl⟩
  obtain ⟨r, hr⟩ : ∃ r, n.full = r := ⟨_, rfl⟩
  rw [ha, hr]
  rw [ha] at HA
  have hr2 : decide ((n.bs.length : Int) = roomOf n.k) = r := hr
  rw [hr2] at HR
  clear h ha hr hr2
  unfold No.val ndv at *
  cases a
  all_goals
    go_enter Tryd.func14, Tryd.ntmps14
    go_wp2_with (first | (go_at_call 22; refine (HA.out _ (Below.new (Below.new (Below.refl _ _) _) _)).mono ?_; rintro e1 w1 ⟨rfl, hb1⟩; have HB1 := Lib.hid (Below.step (Below.new (Below.new (Below.refl _ _) _) _) hb1); obtain ⟨x0, x1, x2, x3, x4, x5⟩ := box6 ((Fresh.new _ (W.heap.size + 1) _ _ (by simp)).below hb1); clear hb1) | (go_at_call 25; refine (HR.out _ HB1.out).mono ?_; rintro e2 w2 ⟨rfl, hb2⟩; have HB2 := Lib.hid (Below.step HB1.out hb2); clear hb2))
    go_ret
    first
    | exact ⟨by first | rfl | simp, HB2.out⟩
    | exact ⟨by first | rfl | simp, HB1.out⟩
end
end Go.Proofs.YtjaijomkdgoenaaDoor.Nd
