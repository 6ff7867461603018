/- Rows of entries whose bytes rise. -/
import Derived.Test.YtjaijomkdgoenaaDoorMnKLaw
import Derived.Laws.ResultCell
import Derived.Test.YtjaijomkdgoenaaDoorMix
namespace Go.Proofs.YtjaijomkdgoenaaDoor.Mn
open Go.RowKit
set_option maxRecDepth 100000
set_option maxHeartbeats 2000000

/-- The first place where f holds, or the number of places. -/
def firstIx (f : UInt8 → Bool) (l : List En) : Nat := l.findIdx (fun x => f x.1)
theorem firstIx_le (f : UInt8 → Bool) (l : List En) : firstIx f l ≤ l.length := List.findIdx_le_length
theorem firstIx_eq (f : UInt8 → Bool) (l : List En) (k : Nat) (hk : k < l.length) (hf : f l[k].1 = true) (h : ∀ j (hj : j < k), f (l[j]'(by omega)).1 = false) : firstIx f l = k := by
  rw [firstIx, List.findIdx_eq hk]
  exact ⟨hf, fun j hj => by rw [h j hj]⟩
theorem firstIx_none (f : UInt8 → Bool) (l : List En) (h : ∀ j (hj : j < l.length), f l[j].1 = false) : firstIx f l = l.length := by
  rw [firstIx, List.findIdx_eq_length]
  intro x hx
  obtain ⟨j, hj, rfl⟩ := List.getElem_of_mem hx
  rw [h j hj]
/-- Where a byte stands, or would; whether it is there. -/
def placeIx (b : UInt8) (l : List En) : Nat := firstIx (fun c => decide (b.toNat ≤ c.toNat)) l
def isIn (b : UInt8) (l : List En) : Bool := match l[placeIx b l]? with
  | some x => x.1 == b
  | none => false
abbrev refV (s g : Int) : Value := .agg #[.int .i64 s, .int .u32 g]
/-- What stands at a byte's place. -/
def atOf (b : UInt8) (l : List En) : En := (l[placeIx b l]?).getD (0, 0, 0)
theorem isIn_lt {b : UInt8} {l : List En} (h : isIn b l = true) : placeIx b l < l.length := by
  rcases Nat.lt_or_ge (placeIx b l) l.length with h1 | h1
  · exact h1
  · rw [isIn, List.getElem?_eq_none h1] at h; cases h
theorem isIn_at {b : UInt8} {l : List En} (h : isIn b l = true) : ∃ s g, l[placeIx b l]? = some (b, s, g) ∧ atOf b l = (b, s, g) := by
  have hlt := isIn_lt h
  have e := List.getElem?_eq_getElem hlt
  unfold isIn at h
  rw [e] at h
  obtain ⟨⟨c, s, g⟩, hx⟩ : ∃ x, l[placeIx b l] = x := ⟨_, rfl⟩
  rw [hx] at e h
  have : c = b := by simpa using h
  subst this
  exact ⟨s, g, e, by rw [atOf, e]; rfl⟩
structure Box2 (W : World) (B : Nat) (x y : Value) : Prop where
  c0 : W.cell? ⟨B, 0, none⟩ = some x
  c1 : W.cell? ⟨B, 1, none⟩ = some y
  f0 : W.frozen? ⟨B, 0, none⟩ = false
  f1 : W.frozen? ⟨B, 1, none⟩ = false
theorem results_tmp_cell_tmp {fn : Func} {t p u : Tmp} {ty : TypeId} (h : fn.results = #[.tmp t, .cell p ty, .tmp u]) (tmps : Array Value) (P : Program) (w : World) :
    (results fn tmps).run P w =
      ((asAddr (tmps.getD p undef)).run P w).andThen fun a w₁ => ((loadVar ty a).run P w₁).andThen fun v w₂ => .ok (.tuple #[tmps.getD t undef, v, tmps.getD u undef]) w₂ := by
  simp only [results, h]
  simp [Sem.run_bind, Result.andThen]
theorem _root_.Go.Proofs.YtjaijomkdgoenaaDoor.Fresh.box2m {W : World} {B : Nat} {x y : Value} {T : TypeId} (h : Fresh W B #[x, y] T) : Box2 W B x y := ⟨h.cell 0, h.cell 1, h.thawed 0, h.thawed 1⟩
/-- The error of Put. -/
def putE (b : UInt8) (l : List En) (room : Nat) : Int := if isIn b l = true then 8 else if l.length = room then 14 else 0
/-- The place of the first byte from a number on. -/
def nextIx (f : Int) (l : List En) : Nat := firstIx (fun c => decide (f ≤ (c.toNat : Int))) l
def nextV (f : Int) (l : List En) : Value := match l[nextIx f l]? with
  | some x => .tuple #[.int .u8 (x.1.toNat : Int), refV x.2.1 x.2.2, .bool true]
  | none => .tuple #[.int .u8 0, refV 0 0, .bool false]
def putS (b : UInt8) (s g : Int) (l : List En) (room : Nat) : List En := if isIn b l = true ∨ l.length = room then l else l.insertIdx (placeIx b l) (b, s, g)
def takeS (b : UInt8) (l : List En) : List En := if isIn b l = true then l.eraseIdx (placeIx b l) else l
def turnS (b : UInt8) (s g : Int) (l : List En) : List En := if isIn b l = true then l.set (placeIx b l) (b, s, g) else l
def refOf (b : UInt8) (l : List En) : Value := if isIn b l = true then refV (atOf b l).2.1 (atOf b l).2.2 else refV 0 0
/-- The bytes rise. -/
abbrev Srt (l : List En) : Prop := l.Pairwise (fun a b => a.1.toNat < b.1.toNat)
theorem place_split (b : UInt8) : ∀ l : List En, Srt l → (∀ j (h : j < l.length), j < placeIx b l → l[j].1.toNat < b.toNat) ∧ (∀ j (h : j < l.length), placeIx b l ≤ j → b.toNat ≤ l[j].1.toNat) := by
  intro l hs
  have h1 : ∀ j (h : j < l.length), j < placeIx b l → l[j].1.toNat < b.toNat := fun j h hj => by
    have := List.not_of_lt_findIdx hj
    simp at this
    exact this
  refine ⟨h1, fun j h hj => ?_⟩
  have hp : placeIx b l < l.length := by omega
  have h2 : b.toNat ≤ (l[placeIx b l]'hp).1.toNat := by
    have := List.findIdx_getElem (p := fun x : En => decide (b.toNat ≤ x.1.toNat)) (xs := l) (w := hp)
    exact of_decide_eq_true this
  rcases Nat.lt_or_eq_of_le hj with hlt | heq
  · have := List.pairwise_iff_getElem.1 hs _ _ hp h hlt
    omega
  · subst heq; exact h2
theorem isIn_iff {b : UInt8} {l : List En} (hs : Srt l) : isIn b l = true ↔ ∃ x ∈ l, x.1 = b := by
  constructor
  · intro h
    obtain ⟨s, g, ha, _⟩ := isIn_at h
    exact ⟨_, List.mem_of_getElem? ha, rfl⟩
  · rintro ⟨x, hx, rfl⟩
    obtain ⟨j, hj, rfl⟩ := List.getElem_of_mem hx
    obtain ⟨h1, h2⟩ := place_split l[j].1 l hs
    have hle : placeIx l[j].1 l ≤ j := by
      rcases Nat.lt_or_ge j (placeIx l[j].1 l) with h | h
      · have := h1 j hj h; omega
      · exact h
    have hp : placeIx l[j].1 l < l.length := by omega
    have e : placeIx l[j].1 l = j := by
      rcases Nat.lt_or_eq_of_le hle with h | h
      · have a1 := List.pairwise_iff_getElem.1 hs _ _ hp hj h
        have a2 := h2 _ hp (Nat.le_refl _)
        omega
      · exact h
    rw [isIn, e, List.getElem?_eq_getElem hj]
    simp
theorem srt_insert {b : UInt8} {l : List En} (hs : Srt l) (hn : isIn b l = false) (s g : Int) : Srt (l.insertIdx (placeIx b l) (b, s, g)) := by
  have hle : placeIx b l ≤ l.length := firstIx_le _ _
  obtain ⟨h1, h2⟩ := place_split b l hs
  have hne : ∀ j (h : j < l.length), l[j].1 ≠ b := fun j h e => by
    have := (isIn_iff hs).2 ⟨l[j], List.getElem_mem h, e⟩
    rw [hn] at this; cases this
  have hne' : ∀ j (h : j < l.length), l[j].1.toNat ≠ b.toNat := fun j h e => hne j h (UInt8.toNat_inj.1 e)
  rw [Srt, List.pairwise_iff_getElem]
  intro i j hi hj hij
  have hll : (l.insertIdx (placeIx b l) (b, s, g)).length = l.length + 1 := by rw [List.length_insertIdx, if_pos hle]
  obtain ⟨k, hk⟩ : ∃ k, placeIx b l = k := ⟨_, rfl⟩
  simp only [hk] at hle h1 h2 hll hi hj ⊢
  rcases Nat.lt_trichotomy i k with hik | hik | hik
  · rw [List.getElem_insertIdx_of_lt hik]
    rcases Nat.lt_trichotomy j k with hjk | hjk | hjk
    · rw [List.getElem_insertIdx_of_lt hjk]
      exact List.pairwise_iff_getElem.1 hs _ _ _ _ hij
    · subst hjk
      rw [List.getElem_insertIdx_self]
      exact h1 i (by omega) hik
    · rw [List.getElem_insertIdx_of_gt hjk]
      exact List.pairwise_iff_getElem.1 hs _ _ _ _ (by omega)
  · subst hik
    rw [List.getElem_insertIdx_self, List.getElem_insertIdx_of_gt hij]
    have a1 := h2 (j - 1) (by omega) (by omega)
    have a2 := hne' (j - 1) (by omega)
    show b.toNat < _
    omega
  · rw [List.getElem_insertIdx_of_gt hik, List.getElem_insertIdx_of_gt (by omega)]
    exact List.pairwise_iff_getElem.1 hs _ _ _ _ (by omega)
theorem srt_put {b : UInt8} {l : List En} (hs : Srt l) (s g : Int) (room : Nat) : Srt (putS b s g l room) := by
  unfold putS
  split
  · exact hs
  · rename_i h
    exact srt_insert hs (by cases hx : isIn b l with | false => rfl | true => exact (h (.inl hx)).elim) s g
theorem srt_take {b : UInt8} {l : List En} (hs : Srt l) : Srt (takeS b l) := by
  unfold takeS
  split
  · exact hs.sublist (List.eraseIdx_sublist _ _)
  · exact hs
theorem take_not {b : UInt8} {l : List En} (hs : Srt l) : isIn b (takeS b l) = false := by
  cases hx : isIn b (takeS b l) with
  | false => rfl
  | true =>
    exfalso
    obtain ⟨x, hm, rfl⟩ := (isIn_iff (srt_take hs)).1 hx
    unfold takeS at hm
    split at hm
    case isTrue h =>
      obtain ⟨s, g, ha, _⟩ := isIn_at h
      obtain ⟨hlt, hge⟩ := List.getElem?_eq_some_iff.1 ha
      obtain ⟨j, hj, he⟩ := List.getElem_of_mem hm
      rw [List.getElem_eraseIdx] at he
      rw [List.length_eraseIdx, if_pos hlt] at hj
      split at he
      case isTrue h2 =>
        have := List.pairwise_iff_getElem.1 hs _ _ (by omega) hlt h2
        rw [he, hge] at this
        exact Nat.lt_irrefl _ this
      case isFalse h2 =>
        have := List.pairwise_iff_getElem.1 hs _ _ hlt (show j + 1 < l.length by omega) (by omega)
        rw [he, hge] at this
        exact Nat.lt_irrefl _ this
    case isFalse h =>
      exact h ((isIn_iff hs).2 ⟨x, hm, rfl⟩)
theorem place_le (b : UInt8) (l : List En) : placeIx b l ≤ l.length := firstIx_le _ _
theorem put_len (b : UInt8) (s g : Int) (l : List En) (room : Nat) : (putS b s g l room).length = if isIn b l = true ∨ l.length = room then l.length else l.length + 1 := by
  unfold putS
  split
  · rfl
  · rw [List.length_insertIdx, if_pos (place_le _ _)]
theorem take_len (b : UInt8) (l : List En) : (takeS b l).length = if isIn b l = true then l.length - 1 else l.length := by
  unfold takeS
  split
  · rename_i h; rw [List.length_eraseIdx, if_pos (isIn_lt h)]
  · rfl
theorem mem_put {b : UInt8} {s g : Int} {l : List En} {room : Nat} (h : ¬ (isIn b l = true ∨ l.length = room)) (x : En) : x ∈ putS b s g l room ↔ x = (b, s, g) ∨ x ∈ l := by
  unfold putS
  rw [if_neg h, List.mem_insertIdx (place_le _ _)]
theorem at_mem {c : UInt8} {l : List En} (h : isIn c l = true) : atOf c l ∈ l ∧ (atOf c l).1 = c := by
  obtain ⟨s, g, ha, he⟩ := isIn_at h
  rw [he]
  exact ⟨List.mem_of_getElem? ha, rfl⟩
theorem srt_one {l : List En} (hs : Srt l) {x y : En} (hx : x ∈ l) (hy : y ∈ l) (h : x.1 = y.1) : x = y := by
  obtain ⟨i, hi, rfl⟩ := List.getElem_of_mem hx
  obtain ⟨j, hj, rfl⟩ := List.getElem_of_mem hy
  rcases Nat.lt_trichotomy i j with e | e | e
  · have := List.pairwise_iff_getElem.1 hs _ _ hi hj e; rw [h] at this; omega
  · subst e; rfl
  · have := List.pairwise_iff_getElem.1 hs _ _ hj hi e; rw [h] at this; omega
theorem mem_at {l : List En} (hs : Srt l) {x : En} (h : x ∈ l) : isIn x.1 l = true ∧ atOf x.1 l = x := by
  have hi := (isIn_iff hs).2 ⟨x, h, rfl⟩
  obtain ⟨h1, h2⟩ := at_mem hi
  exact ⟨hi, srt_one hs h1 h h2⟩
theorem else_same {l l' : List En} (hs : Srt l) (hs' : Srt l') {b : UInt8} (h : ∀ x : En, x.1 ≠ b → (x ∈ l' ↔ x ∈ l)) (c : UInt8) (hc : c ≠ b) : isIn c l' = isIn c l ∧ (isIn c l' = true → atOf c l' = atOf c l) := by
  have e : isIn c l' = isIn c l := by
    rw [Bool.eq_iff_iff, isIn_iff hs, isIn_iff hs']
    constructor
    · rintro ⟨x, hx, rfl⟩; exact ⟨x, (h x hc).1 hx, rfl⟩
    · rintro ⟨x, hx, rfl⟩; exact ⟨x, (h x hc).2 hx, rfl⟩
  refine ⟨e, fun hi => ?_⟩
  obtain ⟨h1, h2⟩ := at_mem hi
  obtain ⟨h3, h4⟩ := at_mem (e ▸ hi)
  exact srt_one hs ((h _ (by rw [h2]; exact hc)).1 h1) h3 (h2.trans h4.symm)
theorem srt_turn {b : UInt8} {l : List En} (hs : Srt l) (s g : Int) : Srt (turnS b s g l) := by
  unfold turnS
  split
  case isFalse => exact hs
  case isTrue h =>
    obtain ⟨s', g', ha, _⟩ := isIn_at h
    obtain ⟨hlt, hge⟩ := List.getElem?_eq_some_iff.1 ha
    rw [Srt, List.pairwise_iff_getElem]
    intro i j hi hj hij
    rw [List.length_set] at hi hj
    have key : ∀ k (hk : k < l.length), ((l.set (placeIx b l) (b, s, g))[k]'(by rw [List.length_set]; exact hk)).1 = l[k].1 := fun k hk => by
      rw [List.getElem_set]
      split
      · rename_i e; subst e; rw [hge]
      · rfl
    rw [key i hi, key j hj]
    exact List.pairwise_iff_getElem.1 hs _ _ hi hj hij
theorem mem_turn {b : UInt8} {l : List En} (s g : Int) (x : En) (hx : x.1 ≠ b) : x ∈ turnS b s g l ↔ x ∈ l := by
  unfold turnS
  split
  case isFalse => exact Iff.rfl
  case isTrue h =>
    obtain ⟨s', g', ha, _⟩ := isIn_at h
    obtain ⟨hlt, hge⟩ := List.getElem?_eq_some_iff.1 ha
    constructor
    · intro hm
      rcases List.mem_or_eq_of_mem_set hm with h1 | h1
      · exact h1
      · subst h1; exact (hx rfl).elim
    · intro hm
      obtain ⟨j, hj, rfl⟩ := List.getElem_of_mem hm
      have hne : placeIx b l ≠ j := fun e => by subst e; rw [hge] at hx; exact hx rfl
      have : (l.set (placeIx b l) (b, s, g))[j]'(by rw [List.length_set]; exact hj) = l[j] := by rw [List.getElem_set_ne hne]
      rw [← this]
      exact List.getElem_mem _
theorem turn_at {b : UInt8} {l : List En} (hs : Srt l) (s g : Int) (h : isIn b l = true) : isIn b (turnS b s g l) = true ∧ atOf b (turnS b s g l) = (b, s, g) := by
  refine mem_at (x := (b, s, g)) (srt_turn hs s g) ?_
  unfold turnS
  rw [if_pos h]
  exact List.mem_set (isIn_lt h) _
theorem mem_take {b : UInt8} {l : List En} (x : En) (hx : x.1 ≠ b) : x ∈ takeS b l ↔ x ∈ l := by
  unfold takeS
  split
  case isFalse => exact Iff.rfl
  case isTrue h =>
    obtain ⟨s', g', ha, _⟩ := isIn_at h
    obtain ⟨hlt, hge⟩ := List.getElem?_eq_some_iff.1 ha
    rw [List.mem_eraseIdx_iff_getElem]
    constructor
    · rintro ⟨i, hi, hn, rfl⟩; exact List.getElem_mem _
    · intro hm
      obtain ⟨j, hj, rfl⟩ := List.getElem_of_mem hm
      exact ⟨j, hj, fun e => by subst e; rw [hge] at hx; exact hx rfl, rfl⟩
theorem calm_ret {F : Fence} {n : Nat} {P : Program} {fn : Func} {R : Ending → World → Prop} {a : Act} {w : World} {v : Value} (hd : a.defers = []) (hr : (results fn a.tmps).run P w = .ok v w) (h : R (.returned v) w) : calmQ (bodyPostM F n P fn R) .ret a w := by
  show LeavesInM F n P fn a.tmps R a.defers .returning w
  rw [hd]
  exact ⟨v, hr, h⟩
theorem callsIn_round {n l : Nat} {P : Program} {f : FuncId} {args : Array Value} {w : World} {R : Ending → World → Prop} (h : Calls P f args w R) : CallsIn (Fence.wide.inRound l) n P f args w R := ⟨trivial, fun cs _ => ((callsIn_wide (n := n)).2 h).2 cs (room_wide _)⟩
/-- Where the next byte is asked from, behind k entries. -/
def fromAt (L : List En) : Nat → Int
  | 0 => 0
  | k + 1 => match L[k]? with
    | some x => (x.1.toNat : Int) + 1
    | none => 0
theorem nextIx_at {L : List En} (hs : Srt L) (k : Nat) (hk : k ≤ L.length) : nextIx (fromAt L k) L = k := by
  have hf : ∀ j (h : j < L.length), j < k → decide (fromAt L k ≤ (L[j].1.toNat : Int)) = false := fun j h hj => by
    obtain ⟨m, rfl⟩ : ∃ m, k = m + 1 := ⟨k - 1, by omega⟩
    have hm : m < L.length := by omega
    have e : fromAt L (m + 1) = (L[m].1.toNat : Int) + 1 := by rw [fromAt, List.getElem?_eq_getElem hm]
    rw [e]
    apply decide_eq_false
    rcases Nat.lt_or_eq_of_le (show j ≤ m by omega) with h1 | h1
    · have := List.pairwise_iff_getElem.1 hs _ _ h hm h1
      omega
    · subst h1; omega
  rcases Nat.lt_or_eq_of_le hk with h1 | h1
  · refine firstIx_eq _ _ k h1 ?_ (fun j hj => hf j (by omega) hj)
    apply decide_eq_true
    cases k with
    | zero => show (0 : Int) ≤ _; omega
    | succ m =>
      have hm : m < L.length := by omega
      have e : fromAt L (m + 1) = (L[m].1.toNat : Int) + 1 := by rw [fromAt, List.getElem?_eq_getElem hm]
      rw [e]
      have := List.pairwise_iff_getElem.1 hs _ _ hm h1 (Nat.lt_succ_self m)
      omega
  · rw [h1]
    exact firstIx_none _ _ (fun j hj => by rw [h1] at hf; exact hf j hj hj)
theorem fromAt_le {L : List En} (hs : Srt L) (k : Nat) (h : k < L.length) : fromAt L k ≤ (L[k].1.toNat : Int) := by
  cases k with
  | zero => show (0 : Int) ≤ _; omega
  | succ m =>
    have hm : m < L.length := by omega
    have e : fromAt L (m + 1) = (L[m].1.toNat : Int) + 1 := by rw [fromAt, List.getElem?_eq_getElem hm]
    rw [e]
    have := List.pairwise_iff_getElem.1 hs _ _ hm h (Nat.lt_succ_self m)
    omega
theorem nextV_some {L : List En} (hs : Srt L) (k : Nat) (h : k < L.length) : nextV (fromAt L k) L = .tuple #[.int .u8 (L[k].1.toNat : Int), refV L[k].2.1 L[k].2.2, .bool true] := by
  rw [nextV, nextIx_at hs k (by omega), List.getElem?_eq_getElem h]
theorem nextV_none {L : List En} (hs : Srt L) : nextV (fromAt L L.length) L = .tuple #[.int .u8 0, refV 0 0, .bool false] := by
  rw [nextV, nextIx_at hs _ (Nat.le_refl _), List.getElem?_eq_none (Nat.le_refl _)]
theorem below_put {n D : Nat} {w W : World} {o : Obj} (h : Below n w W) (hD : n ≤ D) : Below n w (W.putObj D o) :=
  ⟨h.os, h.tape, h.output, by simpa using h.size, fun k hk => (World.putObj_heap_other (by omega)).trans (h.block k hk)⟩
theorem refOf_agg (b : UInt8) (L : List En) : ∃ s g : Int, refOf b L = .agg #[.int .i64 s, .int .u32 g] := by
  unfold refOf
  split <;> exact ⟨_, _, rfl⟩
theorem calm_ret1 {F : Fence} {n : Nat} {P : Program} {fn : Func} {R : Ending → World → Prop} {a : Act} {w : World} {v : Value} {D : Nat} (hd : a.defers = [{ target := .collected D, args := #[] }]) (hD : w.heap[D]? = some (.deferred (some []))) (hr : (results fn a.tmps).run P (w.putObj D (.deferred none)) = .ok v (w.putObj D (.deferred none))) (h : R (.returned v) (w.putObj D (.deferred none))) : calmQ (bodyPostM F n P fn R) .ret a w := by
  show LeavesInM F n P fn a.tmps R a.defers .returning w
  rw [hd]
  exact ⟨by simp, .inl ⟨_, _, rfl, run_takeDeferred hD, v, hr, h⟩⟩
theorem calm_end1 {F : Fence} {n : Nat} {P : Program} {fn : Func} {R : Ending → World → Prop} {a : Act} {w : World} {v : Value} {D : Nat} (hd : a.defers = [{ target := .collected D, args := #[] }]) (hD : w.heap[D]? = some (.deferred (some []))) (hr : (results fn a.tmps).run P (w.putObj D (.deferred none)) = .ok v (w.putObj D (.deferred none))) (h : R (.returned v) (w.putObj D (.deferred none))) : calmQ (bodyPostM F n P fn R) .normal a w := by
  show LeavesInM F n P fn a.tmps R a.defers .returning w
  rw [hd]
  exact ⟨by simp, .inl ⟨_, _, rfl, run_takeDeferred hD, v, hr, h⟩⟩
theorem roundIn_wide {n m l l' : Nat} {P : Program} {f : FuncId} {tmps : Array Value} {asg bd : Code} {w : World} {R : Ending → World → Prop} (h : RoundIn Fence.wide n P l f tmps asg bd w R) : RoundIn (Fence.wide.inRound l') m P l f tmps asg bd w R :=
  ⟨trivial, fun c cs _ => h.2 c cs (room_wide _)⟩
end Go.Proofs.YtjaijomkdgoenaaDoor.Mn
