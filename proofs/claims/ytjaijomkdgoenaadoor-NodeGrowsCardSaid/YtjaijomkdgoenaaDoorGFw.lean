/- Texts of stage 9, merged: FwRow, FwPlace, FwEdit, FwInsert, FwRemove. -/
import Derived.Test.YtjaijomkdgoenaaDoorFr
import Derived.Laws.IdiomCopy
import Derived.BigRegion
/- The row of a table: bytes that rise, and their references. -/
namespace Go.Proofs.YtjaijomkdgoenaaDoor.Fw
open Go.RowKit
set_option maxRecDepth 100000

/-- A byte, and the two numbers of its reference. -/
abbrev En := UInt8 × Int × Int
structure RowAt (W : World) (q : Nat) (l : List En) (room : Nat) : Prop where
  len : l.length ≤ 16
  byte : ∀ j (h : j < l.length), W.cell? ⟨q, j, none⟩ = some (.int .u8 (l[j].1.toNat : Int))
  slot : ∀ j (h : j < l.length), W.cell? ⟨q, 16 + j * 2, none⟩ = some (.int .i64 l[j].2.1)
  gen : ∀ j (h : j < l.length), W.cell? ⟨q, 16 + j * 2 + 1, none⟩ = some (.int .u32 l[j].2.2)
  n : W.cell? ⟨q, 48, none⟩ = some (.int .i64 (l.length : Int))
  room : W.cell? ⟨q, 49, none⟩ = some (.int .i64 (room : Int))
  any : ∀ j, j < 50 → ∃ v, W.cell? ⟨q, j, none⟩ = some v ∧ v.oneCell' = true
  thaw : ∀ j, j < 50 → W.frozen? ⟨q, j, none⟩ = false

theorem cell_same {W W' : World} {p : Addr} (h : W'.heap[p.block]? = W.heap[p.block]?) : W'.cell? p = W.cell? p := by simp [World.cell?, h]
theorem frozen_same {W W' : World} {p : Addr} (h : W'.heap[p.block]? = W.heap[p.block]?) : W'.frozen? p = W.frozen? p := by simp [World.frozen?, h]
theorem cell_lt {W : World} {p : Addr} {v : Value} (h : W.cell? p = some v) : p.block < W.heap.size := by
  rcases Nat.lt_or_ge p.block W.heap.size with h1 | h1
  · exact h1
  · simp [World.cell?, Array.getElem?_eq_none h1] at h
theorem cell_row {W : World} {p : Addr} {v : Value} (h : W.cell? p = some v) {o : Obj} (ho : W.heap[p.block]? = some o) : o.isCells = true := by
  unfold World.cell? at h
  rw [ho] at h
  cases o <;> simp_all [Obj.isCells]
theorem kept_block {W W' : World} {row : Option Nat} {p : Addr} {v : Value} (h : W.cell? p = some v) (hg : W.grownBy W' row) (hr : ∀ r, row = some r → ∃ o : Obj, W.heap[r]? = some o ∧ o.isCells = false) : W'.heap[p.block]? = W.heap[p.block]? := by
  refine hg.block _ (cell_lt h) ?_
  intro e
  obtain ⟨o, ho, hc⟩ := hr _ e.symm
  have := cell_row h ho
  rw [hc] at this
  cases this
theorem RowAt.lt {W : World} {q : Nat} {l : List En} {room : Nat} (h : RowAt W q l room) : q < W.heap.size := cell_lt h.n
theorem RowAt.same {W W' : World} {q : Nat} {l : List En} {room : Nat} (h : RowAt W q l room) (e : W'.heap[q]? = W.heap[q]?) : RowAt W' q l room where
  len := h.len
  byte j hj := (cell_same (p := ⟨q, j, none⟩) e).trans (h.byte j hj)
  slot j hj := (cell_same (p := ⟨q, _, none⟩) e).trans (h.slot j hj)
  gen j hj := (cell_same (p := ⟨q, _, none⟩) e).trans (h.gen j hj)
  n := (cell_same (p := ⟨q, _, none⟩) e).trans h.n
  room := (cell_same (p := ⟨q, _, none⟩) e).trans h.room
  any j hj := by
    obtain ⟨v, h1, h2⟩ := h.any j hj
    exact ⟨v, (cell_same (p := ⟨q, j, none⟩) e).trans h1, h2⟩
  thaw j hj := (frozen_same (p := ⟨q, j, none⟩) e).trans (h.thaw j hj)
theorem RowAt.below {W W' : World} {q : Nat} {l : List En} {room : Nat} (h : RowAt W q l room) (hb : Below W.heap.size W W') : RowAt W' q l room := h.same (hb.block q h.lt)
theorem RowAt.turned {S : List Nat} {W W' : World} {q : Nat} {l : List En} {room : Nat} (h : RowAt W q l room) (ht : Turned S W W') (hn : q ∉ S) : RowAt W' q l room := h.same (ht.block q h.lt hn)
theorem RowAt.kept {W W' : World} {row : Option Nat} {q : Nat} {l : List En} {room : Nat} (h : RowAt W q l room) (hg : W.grownBy W' row) (hr : ∀ r, row = some r → ∃ o : Obj, W.heap[r]? = some o ∧ o.isCells = false) : RowAt W' q l room := h.same (kept_block h.n hg hr)

/-- A cell behind a stretch of stores. -/
theorem cell_many {W : World} {b o : Nat} {vs : List Value} (h : ∀ j, j < vs.length → (W.cell? ⟨b, o + j, none⟩).isSome = true) (k : Nat) :
    (W.setCells b o vs).cell? ⟨b, k, none⟩ = if o ≤ k ∧ k - o < vs.length then vs[k - o]? else W.cell? ⟨b, k, none⟩ := by
  by_cases hk : o ≤ k ∧ k - o < vs.length
  · rw [if_pos hk]
    have := World.cell?_setCells_in b vs o W h (k - o) hk.2
    rw [show o + (k - o) = k from by omega] at this
    rw [this, List.getElem?_eq_getElem hk.2]
  · rw [if_neg hk]
    exact World.cell?_setCells_out b vs o W _ (fun _ _ => by
      show k < o ∨ o + vs.length ≤ k
      omega)
theorem _root_.Go.Proofs.YtjaijomkdgoenaaDoor.Turned.setCells {S : List Nat} {W W' : World} (b : Nat) (hb : b ∈ S ∨ W.heap.size ≤ b) : ∀ (vs : List Value) (o : Nat), Turned S W W' → Turned S W (W'.setCells b o vs)
  | [], _, h => h
  | v :: r, o, h => by
    rw [World.setCells]
    have h2 : Turned S W (W'.setCell ⟨b, o, none⟩ v) := h.setCell hb o v
    exact Turned.setCells b hb r (o + 1) h2
theorem cell_one {W : World} {b o : Nat} {v : Value} (h : (W.cell? ⟨b, o, none⟩).isSome = true) (k : Nat) :
    (W.setCell ⟨b, o, none⟩ v).cell? ⟨b, k, none⟩ = if k = o then some v else W.cell? ⟨b, k, none⟩ := by
  by_cases hk : k = o
  · subst hk; rw [if_pos rfl]; exact World.cell?_setCell_same' _ _ _ h
  · rw [if_neg hk]; exact World.cell?_setCell_other _ _ _ _ (by intro e; cases e; exact hk rfl)

/-- 'copy' of elements of any size. -/
theorem run_copy_size {P : Program} (w : World) (dT sT ty elem : TypeId) (z b o dLen dCap : Nat) (a : Addr) (sLen sCap : Nat) (cs : List Value) (k : Nat)
    (hu : P.underlying dT = some (.slice elem)) (hs : (P.info? elem).map (·.size) = some z) (hk : k = Nat.min sLen dLen) (hn : cs.length = k * z)
    (hsrc : ∀ j v, cs[j]? = some v → w.cell? (a.add j) = some v) (hc : ∀ j, j < cs.length → (w.cell? ⟨b, o + j, none⟩).isSome = true) (hf : ∀ j, j < cs.length → w.frozen? ⟨b, o + j, none⟩ = false) (h1 : ∀ v ∈ cs, v.oneCell' = true) :
    (Builtin.copy_ #[dT, sT] ty #[.slice (some ⟨b, o, none⟩) dLen dCap, .slice (some a) sLen sCap]).run P w = .ok (goInt k) (w.setCells b o cs) := by
  have hl := run_loadCells_list (P := P) w a cs hsrc
  have hst := run_storeCells_cells (P := P) b o cs 0 w (by simpa using hc) (by simpa using hf) h1
  rw [hn] at hl
  cases hq : P.info? elem with
  | none => simp [hq] at hs
  | some i =>
    have hi : i.size = z := by simpa [hq] using hs
    simp [Builtin.copy_, run_underlying hu, Builtin.lenOf, Builtin.firstCells, sizeOf, typeInfo, hq, hi, ← hk, hl, hst]
end Go.Proofs.YtjaijomkdgoenaaDoor.Fw

/- The first place at whose byte a predicate holds; the place of a byte. -/
namespace Go.Proofs.YtjaijomkdgoenaaDoor.Fw
open Go.RowKit
set_option maxRecDepth 100000
set_option maxHeartbeats 2000000

theorem place1_any (b c : UInt8) (B : Nat) (w : World) (hc : w.cell? ⟨B, 0, none⟩ = some (.int .u8 (b.toNat : Int))) :
    Calls Tryd.prog 96 #[.int .u8 (c.toNat : Int), .pointer (some ⟨B, 0, none⟩)] w fun e w' => e = .returned (.bool (decide (b.toNat ≤ c.toNat))) ∧ w' = w := by
  have HE : Hid (decide (b.toNat ≤ c.toNat) = decide ((b.toNat : Int) ≤ (c.toNat : Int))) := by
    show _ = _
    by_cases h : b.toNat ≤ c.toNat
    · rw [decide_eq_true h, decide_eq_true (by omega)]
    · rw [decide_eq_false h, decide_eq_false (by omega)]
  go_enter Tryd.func96, Tryd.ntmps96
  go_wp2
  go_ret
  exact ⟨by rw [HE.out]; first | rfl | simp, rfl⟩
/-- The first place where f holds, or the number of places. -/
def firstIx (f : UInt8 → Bool) (l : List En) : Nat := l.findIdx (fun x => f x.1)
theorem firstIx_le (f : UInt8 → Bool) (l : List En) : firstIx f l ≤ l.length := List.findIdx_le_length
theorem firstIx_eq (f : UInt8 → Bool) (l : List En) (k : Nat) (hk : k < l.length) (hf : f l[k].1 = true) (h : ∀ j (hj : j < k), f (l[j]'(by omega)).1 = false) : firstIx f l = k := by
  rw [firstIx, List.findIdx_eq hk]
  exact ⟨hf, fun j hj => by rw [h j hj]⟩
theorem firstIx_none (f : UInt8 → Bool) (l : List En) (h : ∀ j (hj : j < l.length), f l[j].1 = false) : firstIx f l = l.length := by
  rw [firstIx, List.findIdx_eq_length]
  intro x hx
  obtain ⟨j, hj, rfl⟩ := List.getElem_of_mem hx
  rw [h j hj]

theorem first_any (pf : Nat) (hpf : pf = 96) (B : Nat) (f : UInt8 → Bool) {w : World} {q : Nat} {l : List En} {room : Nat} (hR : RowAt w q l room)
    (hP : ∀ (c : UInt8) (W : World), Below w.heap.size w W → Calls Tryd.prog pf #[.int .u8 (c.toNat : Int), .pointer (some ⟨B, 0, none⟩)] W fun e w' => e = .returned (.bool (f c)) ∧ w' = W) :
    Calls Tryd.prog 95 #[.pointer (some ⟨q, 0, none⟩), .func (.func pf) #[] #[.pointer (some ⟨B, 0, none⟩)]] w fun e w' => e = .returned (.int .i64 (firstIx f l : Int)) ∧ Below w.heap.size w w' := by
  have h48 := hR.n
  have hlen := hR.len
  obtain ⟨n, hn⟩ : ∃ n : Nat, l.length = n := ⟨_, rfl⟩
  rw [hn] at h48 hlen
  have n0 : (0 : Int) ≤ (n : Int) := Int.natCast_nonneg _
  have n1 : (n : Int) ≤ 16 := by omega
  have HR := Lib.hid hR
  have HN := Lib.hid hn
  have HP := Lib.hid hP
  clear hR hn hP hlen
  subst hpf
  all_goals
    go_enter Tryd.func95, Tryd.ntmps95
    go_wp2_with fail
    go_region
    go_wp2_with fail
    have hB0 : Below w.heap.size w w.drew := (Below.refl _ _).drew
    obtain ⟨W0, hW0⟩ : ∃ W0, W0 = w.drew := ⟨_, rfl⟩
    rw [← hW0] at hB0 ⊢
    clear hW0 h48
    have HB0 := Lib.hid hB0
    clear hB0
    go_loopw [16] (fun i wr => ∃ k : Nat, k ≤ n ∧ i = .int .i64 k ∧ (∀ j (hj : j < l.length), j < k → f l[j].1 = false) ∧ Below w.heap.size w wr) (fun i _ => n - (intOf i).toNat)
    case atStart => exact ⟨0, by omega, rfl, fun j _ h => by omega, HB0.out⟩
    case round =>
      obtain ⟨k, hk, rfl, hF, hB⟩ := hrel
      have HB := Lib.hid hB
      have HF := Lib.hid hF
      clear hB hF HB0
      by_cases hlt : k < n
      · have kl : (k : Int) < (n : Int) := by omega
        have k0 : (0 : Int) ≤ (k : Int) := by omega
        have hkl : k < l.length := by have := HN.out; omega
        have hc := (HR.out.below HB.out).byte k hkl
        obtain ⟨c, hcc⟩ : ∃ c, l[k].1 = c := ⟨_, rfl⟩
        rw [hcc] at hc
        have hP := HP.out c wr HB.out
        have HC := Lib.hid hcc
        cases hf : f c
        · rw [hf] at hP
          have HFC := Lib.hid hf
          have hP := Lib.hid hP
          clear hf hcc hk
          go_wp2_with (refine hP.out.mono ?_; rintro e w1 ⟨rfl, rfl⟩)
          go_roundw
          case rel => exact ⟨k + 1, by omega, by go_num, fun j hj h => by
              by_cases e : j = k
              · subst e; rw [HC.out]; exact HFC.out
              · exact HF.out j hj (by omega), HB.out⟩
          case measure => simp [intOf] <;> omega
        · rw [hf] at hP
          have HX := Lib.hid (firstIx_eq f l k hkl (by rw [hcc]; exact hf) (fun j hj => HF.out j (by omega) hj))
          have hP := Lib.hid hP
          clear hf hcc hk
          go_wp2_with (refine hP.out.mono ?_; rintro e w1 ⟨rfl, rfl⟩)
          go_ret
          exact ⟨by rw [HX.out]; rfl, HB.out⟩
      · obtain rfl : k = n := by omega
        have HX := Lib.hid (firstIx_none f l (fun j hj => HF.out j hj (by have := HN.out; omega)))
        have h48 := (HR.out.below HB.out).n
        rw [HN.out] at h48
        go_wp2
        go_ret
        exact ⟨by rw [HX.out, HN.out]; rfl, HB.out⟩

/-- Where a byte stands, or would; whether it is there. -/
def placeIx (b : UInt8) (l : List En) : Nat := firstIx (fun c => decide (b.toNat ≤ c.toNat)) l
def isIn (b : UInt8) (l : List En) : Bool := match l[placeIx b l]? with
  | some x => x.1 == b
  | none => false
theorem place_any (b : UInt8) {w : World} {q : Nat} {l : List En} {room : Nat} (hR : RowAt w q l room) :
    Calls Tryd.prog 91 #[.pointer (some ⟨q, 0, none⟩), .int .u8 (b.toNat : Int)] w fun e w' => e = .returned (.tuple #[.int .i64 (placeIx b l : Int), .bool (isIn b l)]) ∧ Below w.heap.size w w' := by
  have hF : Hid (Calls Tryd.prog 95 #[.pointer (some ⟨q, 0, none⟩), .func (.func 96) #[] #[.pointer (some ⟨w.heap.size, 0, none⟩)]] (w.alloc (.cells #[.int .u8 (b.toNat : Int)] 5)) fun e w' => e = .returned (.int .i64 (placeIx b l : Int)) ∧ Below (w.alloc (.cells #[.int .u8 (b.toNat : Int)] 5)).heap.size (w.alloc (.cells #[.int .u8 (b.toNat : Int)] 5)) w') :=
    Lib.hid (first_any _ rfl w.heap.size _ (hR.below (Below.new (Below.refl _ _) _)) (fun c W hW => place1_any b c _ W ((hW.cell (p := ⟨w.heap.size, 0, none⟩) (by simp)).trans ((Fresh.new w w.heap.size #[.int .u8 (b.toNat : Int)] 5 rfl).cell 0))))
  have hle := firstIx_le (fun c => decide (b.toNat ≤ c.toNat)) l
  have hmf := @makeFunc_run Tryd.prog
  obtain ⟨i, hi⟩ : ∃ i, placeIx b l = i := ⟨_, rfl⟩
  have hile : i ≤ l.length := by rw [← hi]; exact hle
  rw [hi] at hF ⊢
  have h16 := hR.len
  have HR := Lib.hid hR
  clear hR hle
  by_cases hlt : i < l.length
  · obtain ⟨c, hcc⟩ : ∃ c, l[i].1 = c := ⟨_, rfl⟩
    have hin : isIn b l = (c == b) := by rw [isIn, hi, List.getElem?_eq_getElem hlt, ← hcc]
    have hbe : Hid ((c == b) = ((c.toNat : Int) == (b.toNat : Int))) := by
      show _ = _
      rw [Bool.eq_iff_iff, beq_iff_eq, beq_iff_eq]
      exact ⟨fun h => by rw [h], fun h => UInt8.toNat_inj.1 (Int.ofNat_inj.1 h)⟩
    obtain ⟨n, hn⟩ : ∃ n, l.length = n := ⟨_, rfl⟩
    have i0 : (0 : Int) ≤ (i : Int) := by omega
    have i1 : (i : Int) < (n : Int) := by omega
    have i2 : (i : Int) ≤ 15 := by omega
    have i3 : i < 16 := by omega
    have i4 : decide ((i : Int) < (n : Int)) = true := decide_eq_true i1
    have i5 : decide (i < n) = true := decide_eq_true (by omega)
    have HI := Lib.hid hlt
    rw [hin, hbe.out]
    have HN := Lib.hid hn
    have HC := Lib.hid hcc
    clear hi hcc hin hile hn h16
    go_enter Tryd.func91, Tryd.ntmps91
    go_wp2_with (go_at_call 95; refine hF.out.mono ?_; rintro e w1 ⟨rfl, hb1⟩)
    have hB : Below w.heap.size w w1 := Below.step (Below.new (Below.refl _ _) _) hb1
    have hR1 := HR.out.below hB
    have h48 := hR1.n
    have hc := hR1.byte i HI.out
    rw [HN.out] at h48
    rw [HC.out] at hc
    have hcb : w1.cell? ⟨w.heap.size, 0, none⟩ = some (.int .u8 (b.toNat : Int)) := (hb1.cell (p := ⟨w.heap.size, 0, none⟩) (by simp)).trans ((Fresh.new w w.heap.size #[.int .u8 (b.toNat : Int)] 5 rfl).cell 0)
    have HB := Lib.hid hB
    clear hB hb1 hR1
    go_region
    go_wp2
    go_ret2
    exact ⟨rfl, HB.out.drew⟩
  · have hin : isIn b l = false := by rw [isIn, hi, List.getElem?_eq_none (by omega)]
    rw [hin]
    obtain ⟨n, hn⟩ : ∃ n, l.length = n := ⟨_, rfl⟩
    obtain rfl : i = n := by omega
    have i1 : decide ((i : Int) < (i : Int)) = false := decide_eq_false (by omega)
    have i2 : decide (i < i) = false := decide_eq_false (by omega)
    have HN := Lib.hid hn
    clear hi hin hile hlt hn h16
    go_enter Tryd.func91, Tryd.ntmps91
    go_wp2_with (go_at_call 95; refine hF.out.mono ?_; rintro e w1 ⟨rfl, hb1⟩)
    have hB : Below w.heap.size w w1 := Below.step (Below.new (Below.refl _ _) _) hb1
    have h48 := (HR.out.below hB).n
    rw [HN.out] at h48
    have HB := Lib.hid hB
    clear hB hb1
    go_region
    go_wp2
    go_ret2
    exact ⟨rfl, HB.out.drew⟩
end Go.Proofs.YtjaijomkdgoenaaDoor.Fw

/- Insertion and removal. -/
namespace Go.Proofs.YtjaijomkdgoenaaDoor.Fw
open Go.RowKit
set_option maxRecDepth 100000
set_option maxHeartbeats 2000000

def bytesOf (l : List En) : List Value := l.map fun x => .int .u8 (x.1.toNat : Int)
def refsOf (l : List En) : List Value := l.flatMap fun x => [.int .i64 x.2.1, .int .u32 x.2.2]
theorem refsOf_length : ∀ l : List En, (refsOf l).length = l.length * 2
  | [] => rfl
  | x :: l => by
    have := refsOf_length l
    simp only [refsOf, List.flatMap_cons, List.length_append, List.length_cons, List.length_nil] at this ⊢
    omega
theorem refs_at : ∀ (l : List En) (j : Nat) (v : Value), (refsOf l)[j]? = some v → ∃ m, ∃ h : m < l.length, (j = m * 2 ∧ v = .int .i64 (l[m]'h).2.1) ∨ (j = m * 2 + 1 ∧ v = .int .u32 (l[m]'h).2.2)
  | [], j, v, h => by simp [refsOf] at h
  | x :: l, 0, v, h => ⟨0, by simp, .inl ⟨rfl, by simpa [refsOf] using h.symm⟩⟩
  | x :: l, 1, v, h => ⟨0, by simp, .inr ⟨rfl, by simpa [refsOf] using h.symm⟩⟩
  | x :: l, j + 2, v, h => by
    obtain ⟨m, hm, h1 | h1⟩ := refs_at l j v (by simpa [refsOf] using h)
    · exact ⟨m + 1, by simp; omega, .inl ⟨by omega, by simpa using h1.2⟩⟩
    · exact ⟨m + 1, by simp; omega, .inr ⟨by omega, by simpa using h1.2⟩⟩
theorem refs_get : ∀ (l : List En) (m : Nat) (h : m < l.length), (refsOf l)[m * 2]? = some (.int .i64 l[m].2.1) ∧ (refsOf l)[m * 2 + 1]? = some (.int .u32 l[m].2.2)
  | x :: l, 0, _ => ⟨rfl, rfl⟩
  | x :: l, m + 1, h => by
    have := refs_get l m (by simpa using h)
    refine ⟨?_, ?_⟩
    · rw [show (m + 1) * 2 = m * 2 + 2 from by omega]; simpa [refsOf] using this.1
    · rw [show (m + 1) * 2 + 1 = m * 2 + 1 + 2 from by omega]; simpa [refsOf] using this.2
theorem bytesOf_length (l : List En) : (bytesOf l).length = l.length := by simp [bytesOf]
theorem bytes_one (l : List En) : ∀ v ∈ bytesOf l, v.oneCell' = true := fun v h => by
  obtain ⟨x, _, rfl⟩ := List.mem_map.1 h; rfl
theorem refs_one (l : List En) : ∀ v ∈ refsOf l, v.oneCell' = true := fun v h => by
  obtain ⟨x, _, h⟩ := List.mem_flatMap.1 h
  simp at h
  rcases h with rfl | rfl <;> rfl

/-- The two copies of a row's part, in one. -/
theorem copy_bytes {W : World} {q : Nat} {l : List En} {room : Nat} (hR : RowAt W q l room) (i a o dLen dCap sCap : Nat) (hi : i ≤ l.length) (ha' : i < l.length → a = i) (hd : l.length - i ≤ dLen) (ho : i < l.length → o + (l.length - i) ≤ 16) (ty : TypeId) :
    (Builtin.copy_ #[23, 23] ty #[.slice (some ⟨q, o, none⟩) dLen dCap, .slice (some ⟨q, a, none⟩) (l.length - i) sCap]).run Tryd.prog W = .ok (goInt ((l.length - i : Nat) : Int)) (W.setCells q o (bytesOf (l.drop i))) := by
  have hlen : (bytesOf (l.drop i)).length = l.length - i := by rw [bytesOf_length, List.length_drop]
  refine run_copy_size W _ _ ty 5 1 q o dLen dCap ⟨q, a, none⟩ (l.length - i) sCap _ _ Tryd.underlying23 rfl (Nat.min_eq_left hd).symm (by rw [hlen, Nat.mul_one]) (fun j v hj => ?_) (fun j hj => ?_) (fun j hj => ?_) (bytes_one _)
  · have hj' : j < l.length - i := by rw [← hlen]; exact (List.getElem?_eq_some_iff.1 hj).1
    have := ha' (by omega)
    subst this
    rw [Addr.add_lit, hR.byte (a + j) (by omega), ← hj]
    simp [bytesOf, List.getElem?_drop, List.getElem?_eq_getElem (show a + j < l.length by omega)]
  · rw [hlen] at hj
    obtain ⟨v, hv, _⟩ := hR.any (o + j) (by have := ho (by omega); omega)
    rw [hv]; rfl
  · rw [hlen] at hj
    exact hR.thaw (o + j) (by have := ho (by omega); omega)
theorem copy_refs {W : World} {q : Nat} {l : List En} (i a o dLen dCap sCap : Nat) (hi : i ≤ l.length) (ha' : i < l.length → a = 16 + i * 2) (hd : l.length - i ≤ dLen) (ho : i < l.length → o + (l.length - i) * 2 ≤ 48)
    (hs : ∀ j (h : j < l.length), W.cell? ⟨q, 16 + j * 2, none⟩ = some (.int .i64 l[j].2.1) ∧ W.cell? ⟨q, 16 + j * 2 + 1, none⟩ = some (.int .u32 l[j].2.2)) (ha : ∀ j, j < 50 → (W.cell? ⟨q, j, none⟩).isSome = true) (hf : ∀ j, j < 50 → W.frozen? ⟨q, j, none⟩ = false) (ty : TypeId) :
    (Builtin.copy_ #[24, 24] ty #[.slice (some ⟨q, o, none⟩) dLen dCap, .slice (some ⟨q, a, none⟩) (l.length - i) sCap]).run Tryd.prog W = .ok (goInt ((l.length - i : Nat) : Int)) (W.setCells q o (refsOf (l.drop i))) := by
  have hlen : (refsOf (l.drop i)).length = (l.length - i) * 2 := by rw [refsOf_length, List.length_drop]
  refine run_copy_size W _ _ ty 29 2 q o dLen dCap ⟨q, a, none⟩ (l.length - i) sCap _ _ Tryd.underlying24 rfl (Nat.min_eq_left hd).symm hlen (fun j v hj => ?_) (fun j hj => ?_) (fun j hj => ?_) (refs_one _)
  · obtain ⟨m, hm, ⟨rfl, rfl⟩ | ⟨rfl, rfl⟩⟩ := refs_at _ _ _ hj
    · rw [List.length_drop] at hm
      have e := ha' (by omega)
      subst e
      have := (hs (i + m) (by omega)).1
      rw [Addr.add_lit, show 16 + i * 2 + m * 2 = 16 + (i + m) * 2 from by omega, this, List.getElem_drop]
    · rw [List.length_drop] at hm
      have e := ha' (by omega)
      subst e
      have := (hs (i + m) (by omega)).2
      rw [Addr.add_lit, show 16 + i * 2 + (m * 2 + 1) = 16 + (i + m) * 2 + 1 from by omega, this, List.getElem_drop]
  · rw [hlen] at hj
    exact ha (o + j) (by have := ho (by omega); omega)
  · rw [hlen] at hj
    exact hf (o + j) (by have := ho (by omega); omega)
end Go.Proofs.YtjaijomkdgoenaaDoor.Fw

/- The walk of insert. -/
namespace Go.Proofs.YtjaijomkdgoenaaDoor.Fw
open Go.RowKit
set_option maxRecDepth 100000
set_option maxHeartbeats 2000000

theorem insert_any {w : World} {q : Nat} {l : List En} {room : Nat} (hR : RowAt w q l room) (hn : l.length < 16) (i : Nat) (hi : i ≤ l.length) (b : UInt8) (s g : Int) :
    Calls Tryd.prog 92 #[.pointer (some ⟨q, 0, none⟩), .int .i64 (i : Int), .int .u8 (b.toNat : Int), .agg #[.int .i64 s, .int .u32 g]] w fun e w' => e = .returned (.tuple #[]) ∧ Turned [q] w w' ∧ RowAt w' q (l.insertIdx i (b, s, g)) room := by
  obtain ⟨w0, hw0⟩ : ∃ w0, w0 = w.alloc (.cells #[.int .i64 s, .int .u32 g] 29) := ⟨_, rfl⟩
  have hB0 : Below w.heap.size w w0 := by rw [hw0]; exact Below.new (Below.refl _ _) _
  have hbox : Fresh w0 w.heap.size #[.int .i64 s, .int .u32 g] 29 := by rw [hw0]; exact Fresh.new _ _ _ _ rfl
  have hR0 := hR.below hB0
  have hqb : q < w.heap.size := hR.lt
  obtain ⟨n, hnn⟩ : ∃ n, l.length = n := ⟨_, rfl⟩
  obtain ⟨k, hk⟩ : ∃ k : Nat, (i : Int) + 1 = (k : Int) := ⟨i + 1, by omega⟩
  obtain ⟨o1, ho1, hoi1⟩ : ∃ o, (if 16 = k then (⟨q, 0, none⟩ : Addr) else ⟨q, k, none⟩) = ⟨q, o, none⟩ ∧ (i < n → o = i + 1) := by
    by_cases h : 16 = k
    · exact ⟨0, by rw [if_pos h], fun h2 => by omega⟩
    · exact ⟨k, by rw [if_neg h], fun h2 => by omega⟩
  obtain ⟨o2, ho2, hoi2⟩ : ∃ o, (if 16 = k then (⟨q, 16, none⟩ : Addr) else ⟨q, 16 + k * 2, none⟩) = ⟨q, o, none⟩ ∧ (i < n → o = 16 + (i + 1) * 2) := by
    by_cases h : 16 = k
    · exact ⟨16, by rw [if_pos h], fun h2 => by omega⟩
    · exact ⟨16 + k * 2, by rw [if_neg h], fun h2 => by omega⟩
  -- the first copy
  have C1 := fun ty => copy_bytes (W := w0.drew) (hR0.same rfl) i i o1 (16 - k) (16 - k) (16 - i) hi (fun _ => rfl) (by omega) (fun h => by have := hoi1 (by omega); omega) ty
  obtain ⟨w1, hw1⟩ : ∃ w1, w1 = w0.drew.setCells q o1 (bytesOf (l.drop i)) := ⟨_, rfl⟩
  have hlen1 : (bytesOf (l.drop i)).length = l.length - i := by rw [bytesOf_length, List.length_drop]
  have is0 : ∀ j, j < 50 → (w0.drew.cell? ⟨q, j, none⟩).isSome = true := fun j hj => by
    obtain ⟨v, hv, _⟩ := hR0.any j hj
    show (w0.cell? ⟨q, j, none⟩).isSome = true
    rw [hv]; rfl
  have cell1 : ∀ j, w1.cell? ⟨q, j, none⟩ = if o1 ≤ j ∧ j - o1 < (bytesOf (l.drop i)).length then (bytesOf (l.drop i))[j - o1]? else w0.cell? ⟨q, j, none⟩ := fun j => by
    rw [hw1]
    exact cell_many (W := w0.drew) (fun j hj => is0 _ (by rw [hlen1] at hj; have := hoi1 (by omega); omega)) j
  have hi1 : ∀ j, i + 1 + (l.length - i) ≤ j → w1.cell? ⟨q, j, none⟩ = w0.cell? ⟨q, j, none⟩ := fun j hj => by
    rw [cell1, if_neg]
    rintro ⟨h1, h2⟩
    rw [hlen1] at h2
    have := hoi1 (by omega)
    omega
  have fr1 : ∀ j, j < 50 → w1.frozen? ⟨q, j, none⟩ = false := fun j hj => by
    rw [hw1, World.frozen?_setCells]; exact hR0.thaw j hj
  have is1 : ∀ j, j < 50 → (w1.cell? ⟨q, j, none⟩).isSome = true := fun j hj => by
    rw [cell1]; split
    case isTrue h => rw [List.getElem?_eq_getElem h.2]; rfl
    case isFalse => exact is0 j hj
  -- the second copy
  have hs1 : ∀ j (h : j < l.length), w1.cell? ⟨q, 16 + j * 2, none⟩ = some (.int .i64 l[j].2.1) ∧ w1.cell? ⟨q, 16 + j * 2 + 1, none⟩ = some (.int .u32 l[j].2.2) := fun j h => by
    rw [hi1 _ (by omega), hi1 _ (by omega)]; exact ⟨hR0.slot j h, hR0.gen j h⟩
  have C2 := fun ty => copy_refs (W := w1.drew) (q := q) (l := l) i (16 + i * 2) o2 (16 - k) (16 - k) (16 - i) hi (fun _ => rfl) (by omega) (fun h => by have := hoi2 (by omega); omega) hs1 is1 fr1 ty
  obtain ⟨w2, hw2⟩ : ∃ w2, w2 = w1.drew.setCells q o2 (refsOf (l.drop i)) := ⟨_, rfl⟩
  have hlen2 : (refsOf (l.drop i)).length = (l.length - i) * 2 := by rw [refsOf_length, List.length_drop]
  have cell2 : ∀ j, w2.cell? ⟨q, j, none⟩ = if o2 ≤ j ∧ j - o2 < (refsOf (l.drop i)).length then (refsOf (l.drop i))[j - o2]? else w1.cell? ⟨q, j, none⟩ := fun j => by
    rw [hw2]
    exact cell_many (W := w1.drew) (fun j hj => is1 _ (by rw [hlen2] at hj; have := hoi2 (by omega); omega)) j
  have fr2 : ∀ j, j < 50 → w2.frozen? ⟨q, j, none⟩ = false := fun j hj => by
    rw [hw2, World.frozen?_setCells]; exact fr1 j hj
  have is2 : ∀ j, j < 50 → (w2.cell? ⟨q, j, none⟩).isSome = true := fun j hj => by
    rw [cell2]; split
    case isTrue h => rw [List.getElem?_eq_getElem h.2]; rfl
    case isFalse => exact is1 j hj
  rw [hnn] at C1 C2
  rw [← hw1] at C1
  rw [← hw2] at C2
  have n48 : w0.cell? ⟨q, 48, none⟩ = some (.int .i64 (n : Int)) := by rw [hR0.n, hnn]
  have n48' : w1.cell? ⟨q, 48, none⟩ = some (.int .i64 (n : Int)) := by rw [hi1 _ (by omega), n48]
  have n48'' : w2.cell? ⟨q, 48, none⟩ = some (.int .i64 (n : Int)) := by
    rw [cell2, if_neg (by rintro ⟨h1, h2⟩; rw [hlen2] at h2; have := hoi2 (by omega); omega), n48']
  have f48 := fr2 48 (by omega)
  have T2 : Turned [q] w w2 := by
    have t0 : Turned [q] w w0 := .of_below hB0
    rw [hw2, hw1]
    exact (Turned.setCells q (.inl (by simp)) _ _ (Turned.setCells q (.inl (by simp)) _ _ t0.drew).drew)
  have TB : Turned [q] w0 w2 := by
    rw [hw2, hw1]
    exact (Turned.setCells q (.inl (by simp)) _ _ (Turned.setCells q (.inl (by simp)) _ _ (Turned.refl _ _).drew).drew)
  have hbox2 := TB.other hbox (by simp; omega)
  have b0 : w2.cell? ⟨w.heap.size, 0, none⟩ = some (.int .i64 s) := hbox2.cell 0
  have b1 : w2.cell? ⟨w.heap.size, 1, none⟩ = some (.int .u32 g) := hbox2.cell 1
  obtain ⟨x0, hx0⟩ := Option.isSome_iff_exists.1 (is2 i (by omega))
  obtain ⟨x1, hx1⟩ := Option.isSome_iff_exists.1 (is2 (16 + i * 2) (by omega))
  obtain ⟨x2, hx2⟩ := Option.isSome_iff_exists.1 (is2 (16 + i * 2 + 1) (by omega))
  have f0 := fr2 i (by omega)
  have f1 := fr2 (16 + i * 2) (by omega)
  have f2 := fr2 (16 + i * 2 + 1) (by omega)
  have i0 : (0 : Int) ≤ (i : Int) := by omega
  have i1 : (i : Int) ≤ (n : Int) := by omega
  have i2 : (i : Int) < 16 := by omega
  have n16 : (n : Int) ≤ 16 := by omega
  have n15 : (n : Int) ≤ 15 := by omega
  have k0 : (0 : Int) ≤ (k : Int) := by omega
  have k1 : (k : Int) ≤ 16 := by omega
  have i16 : (i : Int) ≤ 16 := by omega
  obtain ⟨w4, hw4⟩ : ∃ w4, w4 = ((((w2.setCell ⟨q, i, none⟩ (.int .u8 (b.toNat : Int))).setCell ⟨q, 16 + i * 2, none⟩ (.int .i64 s)).setCell ⟨q, 16 + i * 2 + 1, none⟩ (.int .u32 g)).setCell ⟨q, 48, none⟩ (.int .i64 ((n : Int) + 1))).drew := ⟨_, rfl⟩
  have T4 : Turned [q] w w4 := by
    rw [hw4]
    exact ((((T2.setCell (.inl (by simp)) _ _).setCell (.inl (by simp)) _ _).setCell (.inl (by simp)) _ _).setCell (.inl (by simp)) _ _).drew
  have cell4 : ∀ j, w4.cell? ⟨q, j, none⟩ = if j = 48 then some (.int .i64 ((n : Int) + 1)) else if j = 16 + i * 2 + 1 then some (.int .u32 g) else if j = 16 + i * 2 then some (.int .i64 s) else if j = i then some (.int .u8 (b.toNat : Int)) else w2.cell? ⟨q, j, none⟩ := fun j => by
    have s1 : ∀ j, j < 50 → ((w2.setCell ⟨q, i, none⟩ (.int .u8 (b.toNat : Int))).cell? ⟨q, j, none⟩).isSome = true := fun j hj => by
      rw [cell_one (is2 i (by omega))]; split
      · rfl
      · exact is2 j hj
    have s2 : ∀ j, j < 50 → (((w2.setCell ⟨q, i, none⟩ (.int .u8 (b.toNat : Int))).setCell ⟨q, 16 + i * 2, none⟩ (.int .i64 s)).cell? ⟨q, j, none⟩).isSome = true := fun j hj => by
      rw [cell_one (s1 _ (by omega))]; split
      · rfl
      · exact s1 j hj
    have s3 : ∀ j, j < 50 → ((((w2.setCell ⟨q, i, none⟩ (.int .u8 (b.toNat : Int))).setCell ⟨q, 16 + i * 2, none⟩ (.int .i64 s)).setCell ⟨q, 16 + i * 2 + 1, none⟩ (.int .u32 g)).cell? ⟨q, j, none⟩).isSome = true := fun j hj => by
      rw [cell_one (s2 _ (by omega))]; split
      · rfl
      · exact s2 j hj
    rw [hw4]
    show (World.setCell _ _ _).cell? _ = _
    rw [cell_one (s3 48 (by omega)), cell_one (s2 _ (by omega)), cell_one (s1 _ (by omega)), cell_one (is2 i (by omega))]
  have R4 : RowAt w4 q (l.insertIdx i (b, s, g)) room := by
    have hll : (l.insertIdx i (b, s, g)).length = n + 1 := by rw [List.length_insertIdx, if_pos hi, hnn]
    have lo2 : ∀ j, j < 16 → w2.cell? ⟨q, j, none⟩ = w1.cell? ⟨q, j, none⟩ := fun j hj => by
      rw [cell2, if_neg]
      rintro ⟨h1, h2⟩
      rw [hlen2] at h2
      have := hoi2 (by omega)
      omega
    refine ⟨by omega, fun j hj => ?_, fun j hj => ?_, fun j hj => ?_, ?_, ?_, fun j hj => ?_, fun j hj => ?_⟩
    · rw [hll] at hj
      rw [cell4, if_neg (by omega), if_neg (by omega), if_neg (by omega)]
      rcases Nat.lt_trichotomy j i with h | h | h
      · rw [if_neg (by omega), lo2 j (by omega), cell1, if_neg (by rintro ⟨h1, h2⟩; rw [hlen1] at h2; have := hoi1 (by omega); omega), hR0.byte j (by omega), List.getElem_insertIdx_of_lt h]
      · subst h
        rw [if_pos rfl, List.getElem_insertIdx_self]
      · have e1 := hoi1 (by omega)
        rw [if_neg (by omega), lo2 j (by omega), cell1, if_pos ⟨by omega, by rw [hlen1]; omega⟩, List.getElem_insertIdx_of_gt h]
        simp only [bytesOf, List.getElem?_map, List.getElem?_drop]
        rw [show i + (j - o1) = j - 1 from by omega, List.getElem?_eq_getElem (by omega)]
        rfl
    · rw [hll] at hj
      rw [cell4, if_neg (by omega), if_neg (by omega)]
      rcases Nat.lt_trichotomy j i with h | h | h
      · rw [if_neg (by omega), if_neg (by omega), cell2, if_neg (by rintro ⟨h1, h2⟩; rw [hlen2] at h2; have := hoi2 (by omega); omega), (hs1 j (by omega)).1, List.getElem_insertIdx_of_lt h]
      · subst h
        rw [if_pos rfl, List.getElem_insertIdx_self]
      · have e2 := hoi2 (by omega)
        rw [if_neg (by omega), if_neg (by omega), cell2, if_pos ⟨by omega, by rw [hlen2]; omega⟩, List.getElem_insertIdx_of_gt h]
        have := (refs_get (l.drop i) (j - 1 - i) (by rw [List.length_drop]; omega)).1
        rw [show 16 + j * 2 - o2 = (j - 1 - i) * 2 from by omega, this, List.getElem_drop]
        simp only [show i + (j - 1 - i) = j - 1 from by omega]
    · rw [hll] at hj
      rw [cell4, if_neg (by omega)]
      rcases Nat.lt_trichotomy j i with h | h | h
      · rw [if_neg (by omega), if_neg (by omega), if_neg (by omega), cell2, if_neg (by rintro ⟨h1, h2⟩; rw [hlen2] at h2; have := hoi2 (by omega); omega), (hs1 j (by omega)).2, List.getElem_insertIdx_of_lt h]
      · subst h
        rw [if_pos rfl, List.getElem_insertIdx_self]
      · have e2 := hoi2 (by omega)
        rw [if_neg (by omega), if_neg (by omega), if_neg (by omega), cell2, if_pos ⟨by omega, by rw [hlen2]; omega⟩, List.getElem_insertIdx_of_gt h]
        have := (refs_get (l.drop i) (j - 1 - i) (by rw [List.length_drop]; omega)).2
        rw [show 16 + j * 2 + 1 - o2 = (j - 1 - i) * 2 + 1 from by omega, this, List.getElem_drop]
        simp only [show i + (j - 1 - i) = j - 1 from by omega]
    · rw [cell4, if_pos rfl, hll]
      rw [show ((n + 1 : Nat) : Int) = (n : Int) + 1 from by omega]
    · rw [cell4, if_neg (by omega), if_neg (by omega), if_neg (by omega), if_neg (by omega), cell2, if_neg (by rintro ⟨h1, h2⟩; rw [hlen2] at h2; have := hoi2 (by omega); omega), hi1 _ (by omega), hR0.room]
    · rw [cell4]
      split
      · exact ⟨_, rfl, rfl⟩
      · split
        · exact ⟨_, rfl, rfl⟩
        · split
          · exact ⟨_, rfl, rfl⟩
          · split
            · exact ⟨_, rfl, rfl⟩
            · rw [cell2]
              split
              case isTrue h => exact ⟨_, List.getElem?_eq_getElem h.2, refs_one _ _ (List.getElem_mem _)⟩
              case isFalse =>
                rw [cell1]
                split
                case isTrue h => exact ⟨_, List.getElem?_eq_getElem h.2, bytes_one _ _ (List.getElem_mem _)⟩
                case isFalse => exact hR0.any j hj
    · rw [hw4]
      show (World.setCell _ _ _).frozen? _ = _
      rw [World.frozen?_setCell, World.frozen?_setCell, World.frozen?_setCell, World.frozen?_setCell]
      exact fr2 j hj
  have H4 := Lib.hid (And.intro T4 R4)
  have HW4 := Lib.hid hw4
  clear T4 R4 hw4 cell4 T2 TB hbox2
  have HW0 := Lib.hid hw0
  clear hR hB0 hbox hR0 hi1 cell1 cell2 fr1 is1 is0 hs1 hw1 hw2 hlen1 hlen2 hoi1 hoi2 fr2 is2 hn hi
  go_enter Tryd.func92, Tryd.ntmps92
  go_wp2_with fail
  rw [← HW0.out]
  clear hw0
  go_region
  go_wp2_with fail
  go_region
  go_wp2_with fail
  go_region
  go_wp2_with fail
  rw [← HW4.out]
  go_end0
  exact ⟨rfl, H4.out⟩
end Go.Proofs.YtjaijomkdgoenaaDoor.Fw

/- The walk of remove. -/
namespace Go.Proofs.YtjaijomkdgoenaaDoor.Fw
open Go.RowKit
set_option maxRecDepth 100000
set_option maxHeartbeats 2000000

theorem remove_any {w : World} {q : Nat} {l : List En} {room : Nat} (hR : RowAt w q l room) (i : Nat) (hi : i < l.length) :
    Calls Tryd.prog 93 #[.pointer (some ⟨q, 0, none⟩), .int .i64 (i : Int)] w fun e w' => e = .returned (.tuple #[]) ∧ Turned [q] w w' ∧ RowAt w' q (l.eraseIdx i) room := by
  have hlen := hR.len
  obtain ⟨n, hnn⟩ : ∃ n, l.length = n := ⟨_, rfl⟩
  obtain ⟨k, hk⟩ : ∃ k : Nat, (i : Int) + 1 = (k : Int) := ⟨i + 1, by omega⟩
  obtain ⟨o1, ho1, hoi1⟩ : ∃ o, (if 16 = k then (⟨q, 0, none⟩ : Addr) else ⟨q, k, none⟩) = ⟨q, o, none⟩ ∧ (k < n → o = k) := by
    by_cases h : 16 = k
    · exact ⟨0, by rw [if_pos h], fun h2 => by omega⟩
    · exact ⟨k, by rw [if_neg h], fun h2 => rfl⟩
  obtain ⟨o2, ho2, hoi2⟩ : ∃ o, (if 16 = k then (⟨q, 16, none⟩ : Addr) else ⟨q, 16 + k * 2, none⟩) = ⟨q, o, none⟩ ∧ (k < n → o = 16 + k * 2) := by
    by_cases h : 16 = k
    · exact ⟨16, by rw [if_pos h], fun h2 => by omega⟩
    · exact ⟨16 + k * 2, by rw [if_neg h], fun h2 => rfl⟩
  have hkl : k ≤ l.length := by omega
  -- the first copy
  have C1 := fun ty => copy_bytes (W := w.drew) (hR.same rfl) k o1 i (16 - i) (16 - i) (16 - k) hkl (fun h => hoi1 (by omega)) (by omega) (fun h => by omega) ty
  obtain ⟨w1, hw1⟩ : ∃ w1, w1 = w.drew.setCells q i (bytesOf (l.drop k)) := ⟨_, rfl⟩
  have hlen1 : (bytesOf (l.drop k)).length = l.length - k := by rw [bytesOf_length, List.length_drop]
  have is0 : ∀ j, j < 50 → (w.drew.cell? ⟨q, j, none⟩).isSome = true := fun j hj => by
    obtain ⟨v, hv, _⟩ := hR.any j hj
    show (w.cell? ⟨q, j, none⟩).isSome = true
    rw [hv]; rfl
  have cell1 : ∀ j, w1.cell? ⟨q, j, none⟩ = if i ≤ j ∧ j - i < (bytesOf (l.drop k)).length then (bytesOf (l.drop k))[j - i]? else w.cell? ⟨q, j, none⟩ := fun j => by
    rw [hw1]
    exact cell_many (W := w.drew) (fun j hj => is0 _ (by rw [hlen1] at hj; omega)) j
  have hi1 : ∀ j, l.length - 1 ≤ j → w1.cell? ⟨q, j, none⟩ = w.cell? ⟨q, j, none⟩ := fun j hj => by
    rw [cell1, if_neg]
    rintro ⟨h1, h2⟩
    rw [hlen1] at h2
    omega
  have fr1 : ∀ j, j < 50 → w1.frozen? ⟨q, j, none⟩ = false := fun j hj => by
    rw [hw1, World.frozen?_setCells]; exact hR.thaw j hj
  have is1 : ∀ j, j < 50 → (w1.cell? ⟨q, j, none⟩).isSome = true := fun j hj => by
    rw [cell1]; split
    case isTrue h => rw [List.getElem?_eq_getElem h.2]; rfl
    case isFalse => exact is0 j hj
  -- the second copy
  have hs1 : ∀ j (h : j < l.length), w1.cell? ⟨q, 16 + j * 2, none⟩ = some (.int .i64 l[j].2.1) ∧ w1.cell? ⟨q, 16 + j * 2 + 1, none⟩ = some (.int .u32 l[j].2.2) := fun j h => by
    rw [hi1 _ (by omega), hi1 _ (by omega)]; exact ⟨hR.slot j h, hR.gen j h⟩
  have C2 := fun ty => copy_refs (W := w1.drew) (q := q) (l := l) k o2 (16 + i * 2) (16 - i) (16 - i) (16 - k) hkl (fun h => hoi2 (by omega)) (by omega) (fun h => by omega) hs1 is1 fr1 ty
  obtain ⟨w2, hw2⟩ : ∃ w2, w2 = w1.drew.setCells q (16 + i * 2) (refsOf (l.drop k)) := ⟨_, rfl⟩
  have hlen2 : (refsOf (l.drop k)).length = (l.length - k) * 2 := by rw [refsOf_length, List.length_drop]
  have cell2 : ∀ j, w2.cell? ⟨q, j, none⟩ = if 16 + i * 2 ≤ j ∧ j - (16 + i * 2) < (refsOf (l.drop k)).length then (refsOf (l.drop k))[j - (16 + i * 2)]? else w1.cell? ⟨q, j, none⟩ := fun j => by
    rw [hw2]
    exact cell_many (W := w1.drew) (fun j hj => is1 _ (by rw [hlen2] at hj; omega)) j
  have fr2 : ∀ j, j < 50 → w2.frozen? ⟨q, j, none⟩ = false := fun j hj => by
    rw [hw2, World.frozen?_setCells]; exact fr1 j hj
  have is2 : ∀ j, j < 50 → (w2.cell? ⟨q, j, none⟩).isSome = true := fun j hj => by
    rw [cell2]; split
    case isTrue h => rw [List.getElem?_eq_getElem h.2]; rfl
    case isFalse => exact is1 j hj
  rw [hnn] at C1 C2
  rw [← hw1] at C1
  rw [← hw2] at C2
  have n48 : w.cell? ⟨q, 48, none⟩ = some (.int .i64 (n : Int)) := by rw [hR.n, hnn]
  have n48' : w1.cell? ⟨q, 48, none⟩ = some (.int .i64 (n : Int)) := by rw [hi1 _ (by omega), n48]
  have n48'' : w2.cell? ⟨q, 48, none⟩ = some (.int .i64 (n : Int)) := by
    rw [cell2, if_neg (by rintro ⟨h1, h2⟩; rw [hlen2] at h2; omega), n48']
  have f48 := fr2 48 (by omega)
  have T2 : Turned [q] w w2 := by
    rw [hw2, hw1]
    exact (Turned.setCells q (.inl (by simp)) _ _ (Turned.setCells q (.inl (by simp)) _ _ (Turned.refl _ _).drew).drew)
  obtain ⟨w4, hw4⟩ : ∃ w4, w4 = w2.setCell ⟨q, 48, none⟩ (.int .i64 ((n : Int) - 1)) := ⟨_, rfl⟩
  have T4 : Turned [q] w w4 := by
    rw [hw4]
    exact T2.setCell (.inl (by simp)) _ _
  have cell4 : ∀ j, w4.cell? ⟨q, j, none⟩ = if j = 48 then some (.int .i64 ((n : Int) - 1)) else w2.cell? ⟨q, j, none⟩ := fun j => by
    rw [hw4, cell_one (is2 48 (by omega))]
  have R4 : RowAt w4 q (l.eraseIdx i) room := by
    have hll : (l.eraseIdx i).length = n - 1 := by rw [List.length_eraseIdx, if_pos hi, hnn]
    have lo2 : ∀ j, j < 16 → w2.cell? ⟨q, j, none⟩ = w1.cell? ⟨q, j, none⟩ := fun j hj => by
      rw [cell2, if_neg]
      rintro ⟨h1, h2⟩
      omega
    refine ⟨by omega, fun j hj => ?_, fun j hj => ?_, fun j hj => ?_, ?_, ?_, fun j hj => ?_, fun j hj => ?_⟩
    · have hj' := hj
      rw [hll] at hj'
      rw [cell4, if_neg (by omega), lo2 j (by omega), cell1, List.getElem_eraseIdx]
      by_cases h : j < i
      · rw [if_neg (by omega), dif_pos h, hR.byte j (by omega)]
      · rw [if_pos ⟨by omega, by rw [hlen1]; omega⟩, dif_neg h]
        simp only [bytesOf, List.getElem?_map, List.getElem?_drop]
        rw [show k + (j - i) = j + 1 from by omega, List.getElem?_eq_getElem (by omega)]
        rfl
    · have hj' := hj
      rw [hll] at hj'
      rw [cell4, if_neg (by omega), cell2, List.getElem_eraseIdx]
      by_cases h : j < i
      · rw [if_neg (by omega), dif_pos h, (hs1 j (by omega)).1]
      · rw [if_pos ⟨by omega, by rw [hlen2]; omega⟩, dif_neg h]
        have := (refs_get (l.drop k) (j - i) (by rw [List.length_drop]; omega)).1
        rw [show 16 + j * 2 - (16 + i * 2) = (j - i) * 2 from by omega, this, List.getElem_drop]
        simp only [show k + (j - i) = j + 1 from by omega]
    · have hj' := hj
      rw [hll] at hj'
      rw [cell4, if_neg (by omega), cell2, List.getElem_eraseIdx]
      by_cases h : j < i
      · rw [if_neg (by omega), dif_pos h, (hs1 j (by omega)).2]
      · rw [if_pos ⟨by omega, by rw [hlen2]; omega⟩, dif_neg h]
        have := (refs_get (l.drop k) (j - i) (by rw [List.length_drop]; omega)).2
        rw [show 16 + j * 2 + 1 - (16 + i * 2) = (j - i) * 2 + 1 from by omega, this, List.getElem_drop]
        simp only [show k + (j - i) = j + 1 from by omega]
    · rw [cell4, if_pos rfl, hll]
      rw [show ((n - 1 : Nat) : Int) = (n : Int) - 1 from by omega]
    · rw [cell4, if_neg (by omega), cell2, if_neg (by rintro ⟨h1, h2⟩; rw [hlen2] at h2; omega), hi1 _ (by omega), hR.room]
    · rw [cell4]
      split
      · exact ⟨_, rfl, rfl⟩
      · rw [cell2]
        split
        case isTrue h => exact ⟨_, List.getElem?_eq_getElem h.2, refs_one _ _ (List.getElem_mem _)⟩
        case isFalse =>
          rw [cell1]
          split
          case isTrue h => exact ⟨_, List.getElem?_eq_getElem h.2, bytes_one _ _ (List.getElem_mem _)⟩
          case isFalse => exact hR.any j hj
    · rw [hw4, World.frozen?_setCell]
      exact fr2 j hj
  have H4 := Lib.hid (And.intro T4 R4)
  have HW4 := Lib.hid hw4
  clear T4 R4 hw4 cell4 T2
  have i0 : (0 : Int) ≤ (i : Int) := by omega
  have i1 : (k : Int) ≤ (n : Int) := by omega
  have n16 : (n : Int) ≤ 16 := by omega
  have n0 : (1 : Int) ≤ (n : Int) := by omega
  have k0 : (0 : Int) ≤ (k : Int) := by omega
  have k1 : (k : Int) ≤ 16 := by omega
  have i16 : (i : Int) ≤ 16 := by omega
  have e16 : (if 16 = i then (⟨q, 0, none⟩ : Addr) else ⟨q, i, none⟩) = ⟨q, i, none⟩ := if_neg (by omega)
  have e16' : (if 16 = i then (⟨q, 16, none⟩ : Addr) else ⟨q, 16 + i * 2, none⟩) = ⟨q, 16 + i * 2, none⟩ := if_neg (by omega)
  clear hR hi1 cell1 cell2 fr1 is1 is0 hs1 hw1 hw2 hlen1 hlen2 hoi1 hoi2 fr2 is2 hi hkl hlen
  go_enter Tryd.func93, Tryd.ntmps93
  go_wp2_with fail
  go_region
  go_wp2_with fail
  go_region
  go_wp2_with fail
  rw [← HW4.out]
  go_end0
  exact ⟨rfl, H4.out⟩
end Go.Proofs.YtjaijomkdgoenaaDoor.Fw
