/- What NodeGrows keeps: the two nodes' kids, the table of bytes that are there. -/
import Derived.Test.YtjaijomkdgoenaaDoorNdOpen
namespace Go.Proofs.YtjaijomkdgoenaaDoor.Nd
open Go.RowKit
open Mn
set_option maxRecDepth 1000000
set_option maxHeartbeats 4000000

theorem srt_len {l : List En} (h : Srt l) : l.length ≤ 256 := by
  have hnd : (l.map (fun x => x.1.toNat)).Nodup := by
    unfold List.Nodup
    rw [List.pairwise_map]
    exact h.imp (fun {x y} hxy e => by omega)
  have h3 := nodup_lt 256 _ hnd (by
    intro k hk
    obtain ⟨x, _, rfl⟩ := List.mem_map.1 hk
    exact x.1.toNat_lt)
  simpa using h3
theorem srt_room {l : List En} (h : Srt l) {b : UInt8} (hb : isIn b l = false) : l.length < 256 := by
  have := ris_all (srt_ris.1 h) b (by
    intro hm
    obtain ⟨x, hx, e⟩ := List.mem_map.1 hm
    have := (isIn_iff h).2 ⟨x, hx, e⟩
    rw [hb] at this
    cases this)
  simpa using this
theorem put_key {l : List En} (h : Srt l) {b : UInt8} (hb : isIn b l = false) (s g : Int) (y : UInt8) : isIn y (l.insertIdx (placeIx b l) (b, s, g)) = true ↔ y = b ∨ isIn y l = true := by
  rw [isIn_iff (srt_insert h hb s g), isIn_iff h]
  constructor
  · rintro ⟨x, hx, rfl⟩
    rcases (List.mem_insertIdx (place_le _ _)).1 hx with rfl | hx
    · exact .inl rfl
    · exact .inr ⟨x, hx, rfl⟩
  · rintro (rfl | ⟨x, hx, rfl⟩)
    · exact ⟨(y, s, g), (List.mem_insertIdx (place_le _ _)).2 (.inl rfl), rfl⟩
    · exact ⟨x, (List.mem_insertIdx (place_le _ _)).2 (.inr hx), rfl⟩
theorem take_key {l : List En} (h : Srt l) (b y : UInt8) : isIn y (takeS b l) = true ↔ y ≠ b ∧ isIn y l = true := by
  constructor
  · intro hy
    have hne : y ≠ b := by
      rintro rfl
      rw [take_not h] at hy
      cases hy
    refine ⟨hne, ?_⟩
    obtain ⟨x, hx, rfl⟩ := (isIn_iff (srt_take h)).1 hy
    exact (isIn_iff h).2 ⟨x, (mem_take x hne).1 hx, rfl⟩
  · rintro ⟨hne, hy⟩
    obtain ⟨x, hx, rfl⟩ := (isIn_iff h).1 hy
    exact (isIn_iff (srt_take h)).2 ⟨x, (mem_take x hne).2 hx, rfl⟩
theorem srt_ext : ∀ {l l' : List En}, Srt l → Srt l' → (∀ x, x ∈ l ↔ x ∈ l') → l = l'
  | [], [], _, _, _ => rfl
  | [], y :: l', _, _, h => by have := (h y).2 (by simp); simp at this
  | x :: l, [], _, _, h => by have := (h x).1 (by simp); simp at this
  | x :: l, y :: l', h1, h2, h => by
    have hx := List.pairwise_cons.1 h1
    have hy := List.pairwise_cons.1 h2
    have e : x = y := by
      rcases List.mem_cons.1 ((h x).1 (by simp)) with e | hxl
      · exact e
      · rcases List.mem_cons.1 ((h y).2 (by simp)) with e | hyl
        · exact e.symm
        · have a := hy.1 x hxl
          have b := hx.1 y hyl
          exact absurd a (by omega)
    subst e
    congr 1
    refine srt_ext hx.2 hy.2 fun z => ?_
    constructor
    · intro hz
      rcases List.mem_cons.1 ((h z).1 (List.mem_cons_of_mem _ hz)) with e | hz2
      · subst e; exact absurd (hx.1 z hz) (Nat.lt_irrefl _)
      · exact hz2
    · intro hz
      rcases List.mem_cons.1 ((h z).2 (List.mem_cons_of_mem _ hz)) with e | hz2
      · subst e; exact absurd (hy.1 z hz) (Nat.lt_irrefl _)
      · exact hz2

/-- The kids of the top node and of the low node. -/
structure GT (T Lo : List En) : Prop where
  ts : Srt T
  tk : okR T
  ls : Srt Lo
  lo : okR Lo
  h0 : ((0, 0, 1) : En) ∈ Lo
  h1 : ((255, 1, 1) : En) ∈ Lo
  key : ∀ x : UInt8, isIn x Lo = true ↔ (x = 0 ∨ x = 255 ∨ isIn x T = true)
def Lo0 : List En := [(0, 0, 1), (255, 1, 1)]
theorem GT.start : GT [] Lo0 := by
  refine ⟨List.Pairwise.nil, (by intro x hx; cases hx), by unfold Srt Lo0; decide, by unfold okR Lo0; decide, by unfold Lo0; decide, by unfold Lo0; decide, ?_⟩
  intro x
  have e : isIn x ([] : List En) = false := rfl
  rw [e, isIn_iff (by unfold Srt Lo0; decide)]
  unfold Lo0
  constructor
  · rintro ⟨y, hy, rfl⟩
    simp at hy
    rcases hy with rfl | rfl
    · exact .inl rfl
    · exact .inr (.inl rfl)
  · rintro (rfl | rfl | h)
    · exact ⟨(0, 0, 1), by simp, rfl⟩
    · exact ⟨(255, 1, 1), by simp, rfl⟩
    · cases h
theorem GT.two {T Lo : List En} (h : GT T Lo) : 1 < Lo.length := by
  obtain ⟨i, hi, e1⟩ := List.getElem_of_mem h.h0
  obtain ⟨j, hj, e2⟩ := List.getElem_of_mem h.h1
  have : i ≠ j := by
    rintro rfl
    rw [e1] at e2
    cases e2
  omega
theorem GT.lowR {T Lo : List En} (h : GT T Lo) : (nb (ofK Lo.length).1 ⟨#[112]⟩ Lo).rightInner = true := nb_right (by decide) h.two (srt_len h.ls) h.ls h.lo
theorem GT.topA {T Lo : List En} (h : GT T Lo) : (nb 5 ⟨#[]⟩ T).anchor = true := nb_top (srt_len h.ts) h.ts h.tk
theorem GT.putT {T Lo : List En} (h : GT T Lo) {x : UInt8} {s g : Int} (hi : impR s g = false) (hT : isIn x T = false) (hL : isIn x Lo = true) : GT (T.insertIdx (placeIx x T) (x, s, g)) Lo := by
  refine ⟨srt_insert h.ts hT s g, okR_put h.tk hi _ (place_le _ _), h.ls, h.lo, h.h0, h.h1, fun y => ?_⟩
  rw [h.key y, put_key h.ts hT]
  have := (h.key x).1 hL
  rw [hT] at this
  constructor
  · rintro (e | e | e)
    · exact .inl e
    · exact .inr (.inl e)
    · exact .inr (.inr (.inr e))
  · rintro (e | e | e | e)
    · exact .inl e
    · exact .inr (.inl e)
    · rcases this with t | t | t
      · exact .inl (e.trans t)
      · exact .inr (.inl (e.trans t))
      · cases t
    · exact .inr (.inr e)
theorem GT.putB {T Lo : List En} (h : GT T Lo) {x : UInt8} {s g : Int} (hi : impR s g = false) (hT : isIn x T = false) (hL : isIn x Lo = false) : GT (T.insertIdx (placeIx x T) (x, s, g)) (Lo.insertIdx (placeIx x Lo) (x, s, g)) := by
  refine ⟨srt_insert h.ts hT s g, okR_put h.tk hi _ (place_le _ _), srt_insert h.ls hL s g, okR_put h.lo hi _ (place_le _ _), (List.mem_insertIdx (place_le _ _)).2 (.inr h.h0), (List.mem_insertIdx (place_le _ _)).2 (.inr h.h1), fun y => ?_⟩
  rw [put_key h.ls hL, put_key h.ts hT, h.key y]
  constructor
  · rintro (e | e | e | e)
    · exact .inr (.inr (.inl e))
    · exact .inl e
    · exact .inr (.inl e)
    · exact .inr (.inr (.inr e))
  · rintro (e | e | e | e)
    · exact .inr (.inl e)
    · exact .inr (.inr (.inl e))
    · exact .inl e
    · exact .inr (.inr (.inr e))
theorem GT.cutT {T Lo : List En} (h : GT T Lo) {x : UInt8} (hx : x = 0 ∨ x = 255) : GT (takeS x T) Lo := by
  refine ⟨srt_take h.ts, okR_take h.tk x, h.ls, h.lo, h.h0, h.h1, fun y => ?_⟩
  rw [h.key y, take_key h.ts]
  constructor
  · rintro (e | e | e)
    · exact .inl e
    · exact .inr (.inl e)
    · by_cases hy : y = x
      · rcases hx with t | t
        · exact .inl (hy.trans t)
        · exact .inr (.inl (hy.trans t))
      · exact .inr (.inr ⟨hy, e⟩)
  · rintro (e | e | e)
    · exact .inl e
    · exact .inr (.inl e)
    · exact .inr (.inr e.2)
theorem GT.cutB {T Lo : List En} (h : GT T Lo) {x : UInt8} (h0 : x ≠ 0) (h1 : x ≠ 255) : GT (takeS x T) (takeS x Lo) := by
  refine ⟨srt_take h.ts, okR_take h.tk x, srt_take h.ls, okR_take h.lo x, (mem_take _ (fun e => h0 e.symm)).2 h.h0, (mem_take _ (fun e => h1 e.symm)).2 h.h1, fun y => ?_⟩
  rw [take_key h.ls, take_key h.ts, h.key y]
  constructor
  · rintro ⟨hne, e | e | e⟩
    · exact .inl e
    · exact .inr (.inl e)
    · exact .inr (.inr ⟨hne, e⟩)
  · rintro (e | e | e)
    · exact ⟨fun t => h0 (t.symm.trans e), .inl e⟩
    · exact ⟨fun t => h1 (t.symm.trans e), .inr (.inl e)⟩
    · exact ⟨e.1, .inr (.inr e.2)⟩
theorem GT.done {Lo : List En} (h : GT [] Lo) : Lo = Lo0 := by
  refine srt_ext h.ls GT.start.ls fun x => ?_
  constructor
  · intro hx
    have hi := (isIn_iff h.ls).2 ⟨x, hx, rfl⟩
    unfold Lo0
    rcases (h.key x.1).1 hi with e | e | e
    · rw [srt_one h.ls hx h.h0 e]; simp
    · rw [srt_one h.ls hx h.h1 e]; simp
    · cases e
  · intro hx
    unfold Lo0 at hx
    simp at hx
    rcases hx with rfl | rfl
    · exact h.h0
    · exact h.h1

/-- The table of the bytes that are there. -/
structure HB (w : World) (H : Nat) (T : List En) : Prop where
  ex : ∃ cs, Fresh w H cs 43 ∧ cs.size = 256 ∧ ∀ x : UInt8, cs[x.toNat]? = some (.bool (isIn x T))
theorem HB.cell {w : World} {H : Nat} {T : List En} (h : HB w H T) (x : UInt8) : w.cell? ⟨H, x.toNat, none⟩ = some (.bool (isIn x T)) ∧ w.frozen? ⟨H, x.toNat, none⟩ = false := by
  obtain ⟨cs, h1, h2, h3⟩ := h.ex
  exact ⟨(h1.cell _).trans (h3 x), h1.thawed _⟩
theorem HB.lt {w : World} {H : Nat} {T : List En} (h : HB w H T) : H < w.heap.size := by
  obtain ⟨cs, h1, _⟩ := h.ex; exact h1.lt
theorem HB.below {w w' : World} {H : Nat} {T : List En} (h : HB w H T) (hb : Below w.heap.size w w') : HB w' H T := by
  obtain ⟨cs, h1, h2⟩ := h.ex; exact ⟨cs, h1.below hb, h2⟩
theorem HB.turned {w w' : World} {H P : Nat} {T : List En} (h : HB w H T) (ht : Turned [P] w w') (hne : H ≠ P) : HB w' H T := by
  obtain ⟨cs, h1, h2⟩ := h.ex; exact ⟨cs, ht.other h1 (by simpa using hne), h2⟩
theorem HB.set {w : World} {H : Nat} {T T' : List En} (h : HB w H T) (x : UInt8) (c : Bool) (hT : ∀ y, isIn y T' = if y = x then c else isIn y T) : HB (w.setCell ⟨H, x.toNat, none⟩ (.bool c)) H T' := by
  obtain ⟨cs, h1, h2, h3⟩ := h.ex
  refine ⟨_, h1.set x.toNat (.bool c), by simp [h2], fun y => ?_⟩
  rw [Array.getElem?_setIfInBounds, hT y]
  by_cases e : y = x
  · subst e
    rw [if_pos rfl, if_pos (by rw [h2]; exact y.toNat_lt), if_pos rfl]
  · rw [if_neg (fun t => e (UInt8.toNat_inj.1 t.symm)), h3 y, if_neg e]
theorem HB.no {w : World} {H : Nat} {T : List En} (h : HB w H T) {i : Nat} {v : Value} (hv : w.cell? ⟨H, i, none⟩ = some v) : ∃ b, v = .bool b := by
  obtain ⟨cs, h1, h2, h3⟩ := h.ex
  rw [h1.cell i] at hv
  have hi : i < 256 := by rw [← h2]; exact (Array.getElem?_eq_some_iff.1 hv).1
  have := h3 (UInt8.ofNat i)
  rw [u8_nat hi, hv] at this
  exact ⟨_, Option.some.inj this⟩
/-- A node stands behind the turn of the table. -/
theorem NdAt.turnedH {w w' : World} {m : No} {b' : Option Addr} {c' : Nat} {k' : Option Addr} {l' : Nat} {H : Nat} {T : List En} (h : NdAt w m b' c' k' l') (ht : Turned [H] w w') (hr : Rm w') (hz : HB w H T) : NdAt w' m b' c' k' l' := by
  refine ⟨hr, ?_, ?_, h.bl, h.rl, h.cl⟩
  · obtain ⟨ao, cap, e1, h2⟩ := h.b
    cases e1
    refine ⟨_, _, rfl, fun j k hj => ?_⟩
    obtain ⟨b, o, e, h4, h5⟩ := h2 j k hj
    refine ⟨b, o, e, Nat.lt_of_lt_of_le h4 ht.size, ?_⟩
    have hne : b ≠ H := by
      rintro rfl
      obtain ⟨q, hq⟩ := hz.no h5
      cases hq
    exact Eq.trans (cell_same (p := ⟨b, o + j, none⟩) (ht.block b h4 (by simpa using hne))) h5
  · obtain ⟨ao, cap, e1, h2⟩ := h.r
    cases e1
    refine ⟨_, _, rfl, fun j k hj => ?_⟩
    obtain ⟨b, o, e, h4, h5, h6⟩ := h2 j k hj
    have hne : b ≠ H := by
      rintro rfl
      obtain ⟨q, hq⟩ := hz.no h5
      cases hq
    refine ⟨b, o, e, Nat.lt_of_lt_of_le h4 ht.size, ?_, ?_⟩
    · exact Eq.trans (cell_same (p := ⟨b, o + j * 2, none⟩) (ht.block b h4 (by simpa using hne))) h5
    · exact Eq.trans (cell_same (p := ⟨b, o + j * 2 + 1, none⟩) (ht.block b h4 (by simpa using hne))) h6
theorem NBx.turnedH {W W' : World} {P H : Nat} {k : Int} {p : ByteArray} {l : List En} {ba : Option Addr} {m bc : Nat} {ka : Option Addr} {kc : Nat} {T : List En} (h : NBx W P k p l ba m bc ka kc) (ht : Turned [H] W W') (hr : Rm W') (hne : P ≠ H) (hz : HB W H T) : NBx W' P k p l ba m bc ka kc :=
  ⟨h.len, ht.other h.box (by simpa using hne), h.nd.turnedH ht hr hz⟩
theorem HB.zero (w : World) : HB (w.alloc (.cells Tryd.zeroCells43 43)) w.heap.size [] := by
  have e : Tryd.zeroCells43 = Array.replicate 256 (.bool false) := by kernel_rfl
  refine ⟨_, Fresh.new _ _ _ _ rfl, ?_, fun x => ?_⟩
  · rw [e]; simp
  · rw [e, Array.getElem?_replicate, if_pos x.toNat_lt]; rfl
/-- What stands between the statements of NodeGrows. -/
structure GS (W wr : World) (P5 P6 H : Nat) (T Lo : List En) (b5 : Option Addr) (f5 : Nat) (k5 : Option Addr) (c5 : Nat) (b6 : Option Addr) (f6 : Nat) (k6 : Option Addr) (c6 : Nat) : Prop where
  low : Below W.heap.size W wr
  n5 : NBx wr P5 5 ⟨#[]⟩ T b5 T.length f5 k5 c5
  n6 : NBx wr P6 (ofK Lo.length).1 ⟨#[112]⟩ Lo b6 Lo.length f6 k6 c6
  hb : HB wr H T
  hp : W.heap.size ≤ P5 ∧ P5 < P6 ∧ P6 < H
theorem GS.below {W wr w : World} {P5 P6 H : Nat} {T Lo : List En} {b5 : Option Addr} {f5 : Nat} {k5 : Option Addr} {c5 : Nat} {b6 : Option Addr} {f6 : Nat} {k6 : Option Addr} {c6 : Nat} (h : GS W wr P5 P6 H T Lo b5 f5 k5 c5 b6 f6 k6 c6) (hw : Below wr.heap.size wr w) : GS W w P5 P6 H T Lo b5 f5 k5 c5 b6 f6 k6 c6 :=
  ⟨Below.step h.low hw, h.n5.below hw, h.n6.below hw, h.hb.below hw, h.hp⟩
/-- The top node is another, a byte is there or no more. -/
theorem GS.top {W wr w w2 : World} {P5 P6 H : Nat} {T T' Lo : List En} {b5 : Option Addr} {f5 : Nat} {k5 : Option Addr} {c5 : Nat} {b6 : Option Addr} {f6 : Nat} {k6 : Option Addr} {c6 : Nat} (h : GS W wr P5 P6 H T Lo b5 f5 k5 c5 b6 f6 k6 c6) (hrm : ∀ w, Below W.heap.size W w → Rm w)
    {b' : Option Addr} {f' : Nat} {k' : Option Addr} {c' : Nat} {m : Nat} (hm : T'.length = m) (hn : NdAt wr (nb 5 ⟨#[]⟩ T') b' f' k' c')
    (hw : w = (((((wr.setCell ⟨P5, 0, none⟩ (.int .i64 5)).setCell ⟨P5, 1, none⟩ (.string ⟨#[]⟩)).setCell ⟨P5, 2, none⟩ (.string ⟨#[]⟩)).setCell ⟨P5, 3, none⟩ (.string ⟨#[]⟩)).setCell ⟨P5, 4, none⟩ (.slice b' m f')).setCell ⟨P5, 5, none⟩ (.slice k' m c'))
    (x : UInt8) (c : Bool) (hT : ∀ y, isIn y T' = if y = x then c else isIn y T) (hw2 : w2 = w.setCell ⟨H, x.toNat, none⟩ (.bool c)) :
    Turned [P5, H] wr w2 ∧ (Turned [P5] wr w ∧ HB w H T) ∧ GS W w2 P5 P6 H T' Lo b' f' k' c' b6 f6 k6 c6 := by
  have hp := h.hp
  have hlow : ∀ w, Turned [P5] wr w → Below W.heap.size W w := fun w ht => ht.below h.low (by intro y hy; simp at hy; omega) h.low.size
  obtain ⟨T1, N1⟩ := h.n5.set hm hn (fun w ht => hrm _ (hlow w ht)) hw
  have B1 := hlow _ T1
  have n6 := h.n6.turned T1 (hrm _ B1) (by omega) h.n5.box
  have hb := h.hb.turned T1 (by omega)
  have T2 : Turned [H] w w2 := by rw [hw2]; exact (Turned.refl _ _).setCell (.inl (by simp)) _ _
  have B2 : Below W.heap.size W w2 := T2.below B1 (by intro y hy; simp at hy; omega) B1.size
  refine ⟨(T1.wide (by intro y hy; simp at hy; simp [hy])).trans (T2.wide (by intro y hy; simp at hy; simp [hy])), ⟨T1, hb⟩, B2, ?_, n6.turnedH T2 (hrm _ B2) (by omega) hb, ?_, hp⟩
  · have := N1.turnedH T2 (hrm _ B2) (by omega) hb
    rw [← hm] at this
    exact this
  · rw [hw2]; exact hb.set x c hT
/-- The low node is another. -/
theorem GS.lowr {W wr w : World} {P5 P6 H : Nat} {T Lo Lo' : List En} {b5 : Option Addr} {f5 : Nat} {k5 : Option Addr} {c5 : Nat} {b6 : Option Addr} {f6 : Nat} {k6 : Option Addr} {c6 : Nat} (h : GS W wr P5 P6 H T Lo b5 f5 k5 c5 b6 f6 k6 c6) (hrm : ∀ w, Below W.heap.size W w → Rm w)
    {b' : Option Addr} {f' : Nat} {k' : Option Addr} {c' : Nat} {m : Nat} {kk : Int} (hm : Lo'.length = m) (hkk : (ofK Lo'.length).1 = kk) (hn : NdAt wr (nb kk ⟨#[112]⟩ Lo') b' f' k' c')
    (hw : w = (((((wr.setCell ⟨P6, 0, none⟩ (.int .i64 kk)).setCell ⟨P6, 1, none⟩ (.string ⟨#[]⟩)).setCell ⟨P6, 2, none⟩ (.string ⟨#[]⟩)).setCell ⟨P6, 3, none⟩ (.string ⟨#[112]⟩)).setCell ⟨P6, 4, none⟩ (.slice b' m f')).setCell ⟨P6, 5, none⟩ (.slice k' m c')) : Turned [P6] wr w ∧ GS W w P5 P6 H T Lo' b5 f5 k5 c5 b' f' k' c' := by
  have hp := h.hp
  have hlow : ∀ w, Turned [P6] wr w → Below W.heap.size W w := fun w ht => ht.below h.low (by intro y hy; simp at hy; omega) h.low.size
  obtain ⟨T1, N1⟩ := h.n6.set hm hn (fun w ht => hrm _ (hlow w ht)) hw
  have B1 := hlow _ T1
  refine ⟨T1, B1, h.n5.turned T1 (hrm _ B1) (by omega) h.n6.box, ?_, h.hb.turned T1 (by omega), hp⟩
  rw [← hkk, ← hm] at N1
  exact N1
/-- A byte of the list stands behind turns of the boxes. -/
theorem byte_turned {w w2 : World} {S : List Nat} {blk off : Nat} {v : UInt8} (ht : Turned S w w2) (h : w.cell? ⟨blk, off, none⟩ = some (.int .u8 (v.toNat : Int))) (hlt : blk < w.heap.size) (hn : blk ∉ S) : w2.cell? ⟨blk, off, none⟩ = some (.int .u8 (v.toNat : Int)) :=
  (cell_same (p := ⟨blk, off, none⟩) (ht.block blk hlt hn)).trans h
theorem drop_next {lb : List UInt8} {c : Nat} {x y : UInt8} (hx : lb[c]? = some x) (hy : y ∈ lb.drop c) (hne : y ≠ x) : y ∈ lb.drop (c + 1) := by
  obtain ⟨h1, h2⟩ := List.getElem?_eq_some_iff.1 hx
  rw [List.drop_eq_getElem_cons h1, h2] at hy
  rcases List.mem_cons.1 hy with e | hy
  · exact absurd e hne
  · exact hy
/-! Short names for the printed walks. -/
theorem ga {α : Type} {xs : List α} {i : Nat} : xs.toArray[i]? = xs[i]? := List.getElem?_toArray
theorem gb {α : Type} {x : α} {xs : List α} {i : Nat} : (x :: xs)[i + 1]? = xs[i]? := List.getElem?_cons_succ
theorem gc {α : Type} {x : α} {xs : List α} : (x :: xs)[0]? = some x := List.getElem?_cons_zero
theorem na {α : Type} {xs : List α} {i : Nat} {x : α} : xs.toArray.setIfInBounds i x = (xs.set i x).toArray := List.setIfInBounds_toArray ..
theorem nc {α : Type} {y x : α} {xs : List α} : (y :: xs).set 0 x = x :: xs := List.set_cons_zero ..
theorem ns {α : Type} {y x : α} {xs : List α} {n : Nat} : (y :: xs).set (n + 1) x = y :: xs.set n x := List.set_cons_succ ..
theorem nbSame_any {k : Int} {p : ByteArray} {l : List En} {m : Nat} {ba : Option Addr} {bc : Nat} {ka : Option Addr} {kc : Nat} {W : World} (hm : l.length = m) (h : NdAt W (nb k p l) ba bc ka kc) {ba2 : Option Addr} {bc2 : Nat} {ka2 : Option Addr} {kc2 : Nat} (h2 : NdAt W (nb k p l) ba2 bc2 ka2 kc2) :
    Calls Tryd.prog 12 #[.agg #[.int .i64 k, .string ⟨#[]⟩, .string ⟨#[]⟩, .string p, .slice ba m bc, .slice ka m kc], .agg #[.int .i64 k, .string ⟨#[]⟩, .string ⟨#[]⟩, .string p, .slice ba2 m bc2, .slice ka2 m kc2]] W fun e w' => e = .returned (.bool true) ∧ Below W.heap.size W w' := by
  have h1 := sameNode_any h h2
  rw [nb_val hm, nb_val hm] at h1
  exact h1
end Go.Proofs.YtjaijomkdgoenaaDoor.Nd
