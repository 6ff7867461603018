/- Requests; live.within, live.Is, and the reference's Is. -/
import Derived.Test.YtjlfgmjcmicoaaaEncode
namespace Go.Proofs.Ytjlfgmjcmicoaaa
open Go.RowKit
set_option maxRecDepth 100000
set_option maxHeartbeats 1000000

/-- A block of the call's own, known whole. -/
def Fresh (W : World) (p : Nat) (cs : Array Value) (t : TypeId) : Prop := W.heap[p]? = some (.cells cs t (0, 0))
theorem Fresh.new (W : World) (p : Nat) (cs : Array Value) (t : TypeId) (hp : W.heap.size = p) : Fresh (W.alloc (.cells cs t)) p cs t := by subst hp; exact World.alloc_heap_new W _
theorem Fresh.lt {W : World} {p : Nat} {cs : Array Value} {t : TypeId} (h : Fresh W p cs t) : p < W.heap.size := (Array.getElem?_eq_some_iff.1 h).1
theorem Fresh.below {W W' : World} {p : Nat} {cs : Array Value} {t : TypeId} (h : Fresh W p cs t) (hb : Below W.heap.size W W') : Fresh W' p cs t := (hb.block p h.lt).trans h
theorem Fresh.alloc {W : World} {p : Nat} {cs : Array Value} {t : TypeId} (h : Fresh W p cs t) (o : Obj) : Fresh (W.alloc o) p cs t := h.below ((Below.refl _ _).alloc (Nat.le_refl _) o)
theorem Fresh.cell {W : World} {p : Nat} {cs : Array Value} {t : TypeId} (h : Fresh W p cs t) (i : Nat) : W.cell? ⟨p, i, none⟩ = cs[i]? := by simp [World.cell?, show W.heap[p]? = _ from h]

/-- A request: its cells. -/
structure Req where
  d : Int
  ht : Int
  hg : Int
  hr : Int
  key : ByteArray
  val : ByteArray
  old : ByteArray
  lim : Int
  ten : Int
  qk : Int
  qb : Int
  rts : Int
def Req.cells (r : Req) : Array Value := #[.int .i64 r.d, .int .i64 r.ht, .int .u32 r.hg, .int .u8 r.hr, .string r.key, .string r.val, .string r.old, .int .i64 r.lim, .int .i64 r.ten, .int .u64 r.qk, .int .u64 r.qb, .int .u8 r.rts]
abbrev reqV (r : Req) : Value := .agg #[.int .i64 r.d, .int .i64 r.ht, .int .u32 r.hg, .int .u8 r.hr, .string r.key, .string r.val, .string r.old, .int .i64 r.lim, .int .i64 r.ten, .int .u64 r.qk, .int .u64 r.qb, .int .u8 r.rts]

def inB (g : Int) (zs : List Int) : Bool := zs.all fun z => decide (0 ≤ z ∧ z ≤ g)
theorem inB_one (g z : Int) : inB g [z] = decide (0 ≤ z ∧ z ≤ g) := by simp [inB]

theorem within_any (g : Int) (zs : List Int) (p n : Nat) (w : World) (h : Fresh w p (zs.map (Value.int .i64)).toArray 3) (hn : zs.length = n) (hs : n ≤ 100) :
    Calls Try.prog 20 #[.int .i64 g, .slice (some ⟨p, 0, none⟩) n n] w fun e w' => e = .returned (.bool (inB g zs)) ∧ w' = w := by
  have HN := Lib.hid hn
  have HF := Lib.hid h
  clear hn h
  go_enter Try.func20, Try.ntmps20
  go_wp2
  go_loop [9] (fun i => ∃ k : Nat, k ≤ n ∧ i = .int .i64 k ∧ Hid ((zs.take k).all (fun z => decide (0 ≤ z ∧ z ≤ g)) = true)) (fun i => n - (intOf i).toNat)
  case atStart => exact ⟨0, by omega, rfl, by show _ = _; simp⟩
  case round =>
    obtain ⟨k, hk, rfl, HA⟩ := hrel
    by_cases hlt : k < n
    · have hlz : k < zs.length := by rw [HN.out]; exact hlt
      obtain ⟨z, hz⟩ : ∃ z, z = zs[k] := ⟨_, rfl⟩
      have hc : w.cell? ⟨p, k, none⟩ = some (.int .i64 z) := by
        rw [HF.out.cell k, hz]; simp [List.getElem?_map, List.getElem?_eq_getElem hlz]
      have hT : zs.take (k + 1) = zs.take k ++ [z] := by rw [List.take_succ_eq_append_getElem hlz, hz]
      have HT := Lib.hid hT
      have HM : Hid (z ∈ zs) := by rw [hz]; exact List.getElem_mem hlz
      clear hT hz
      by_cases hin : 0 ≤ z ∧ z ≤ g
      · obtain ⟨h1, h2⟩ := hin
        go_wp2
        go_round
        case rel => exact ⟨k + 1, by omega, by go_num, by show _ = _; rw [HT.out, List.all_append, HA.out]; simp [h1, h2]⟩
        case measure => simp [intOf]; omega
      · have hout : Hid (inB g zs = false) := by
          show _ = _
          rw [inB, List.all_eq_false]
          exact ⟨z, HM.out, by simpa using hin⟩
        by_cases h1 : 0 ≤ z
        all_goals
          go_wp2
          go_ret
          exact ⟨ret_bool (by rw [hout.out]), rfl⟩
    · obtain rfl : k = n := by omega
      go_wp2
      go_ret
      exact ⟨ret_bool (by rw [← HN.out, List.take_length] at HA; exact HA.out.symm), rfl⟩

/-- P29.1: a request that is an operation. -/
def isB (r : Req) : Bool := decide (1 ≤ r.d ∧ r.d ≤ 5) && (r.d != 5 || decide (0 ≤ r.lim ∧ r.lim ≤ 4096)) && decide (r.key.size ≤ 16) && decide (r.val.size ≤ 32) && decide (r.old.size ≤ 32)

/-- What is known of a request that is read. -/
structure Req.Ok (r : Req) : Prop where
  key : r.key.size ≤ maxLen
  val : r.val.size ≤ maxLen
  old : r.old.size ≤ maxLen
  d : -9223372036854775808 ≤ r.d ∧ r.d ≤ 9223372036854775807
  lim : -9223372036854775808 ≤ r.lim ∧ r.lim ≤ 9223372036854775807

theorem in16 (n : Nat) (g : Nat) : inB (g : Int) [(n : Int)] = decide (n ≤ g) := by
  rw [inB_one, decide_eq_decide]; omega
theorem in32 (n m : Nat) : inB 32 [(n : Int), (m : Int)] = (decide (n ≤ 32) && decide (m ≤ 32)) := by
  rw [Bool.eq_iff_iff]; simp [inB]; omega

/-- The last test of Is, where the deed and the limit are right. -/
theorem is_tail (r : Req) (hd : 1 ≤ r.d ∧ r.d ≤ 5) (hl : r.d = 5 → 0 ≤ r.lim ∧ r.lim ≤ 4096) :
    isB r = (inB 16 [(r.key.size : Int)] && inB 32 [(r.val.size : Int), (r.old.size : Int)]) := by
  rw [in32, show (16 : Int) = ((16 : Nat) : Int) from rfl, in16]
  unfold isB
  have e1 : decide (1 ≤ r.d ∧ r.d ≤ 5) = true := by simpa using hd
  have e2 : (r.d != 5 || decide (0 ≤ r.lim ∧ r.lim ≤ 4096)) = true := by
    by_cases h5 : r.d = 5
    · simp [hl h5]
    · simp [h5]
  rw [e1, e2]
  simp [Bool.and_assoc]

set_option maxHeartbeats 4000000 in
theorem is_any (r : Req) (w : World) (h : r.Ok) : Calls Try.prog 12 #[reqV r] w fun e w' => e = .returned (.bool (isB r)) ∧ Below w.heap.size w w' := by
  have HT := Lib.hid (is_tail r)
  have HB : Hid (isB r = (decide (1 ≤ r.d ∧ r.d ≤ 5) && (r.d != 5 || decide (0 ≤ r.lim ∧ r.lim ≤ 4096)) && decide (r.key.size ≤ 16) && decide (r.val.size ≤ 32) && decide (r.old.size ≤ 32))) := rfl
  obtain ⟨d, ht, hg, hr, key, val, old, lim, ten, qk, qb, rts⟩ := r
  obtain ⟨h1, h2, h3, h4, h5⟩ := h
  dsimp only at h1 h2 h3 h4 h5 HB HT
  generalize isB _ = res at *
  clear h1 h2 h3
  obtain ⟨a1, ha1⟩ : ∃ a1, inB 16 [(key.size : Int)] = a1 := ⟨_, rfl⟩
  obtain ⟨a2, ha2⟩ : ∃ a2, inB 32 [(val.size : Int), (old.size : Int)] = a2 := ⟨_, rfl⟩
  obtain ⟨a3, ha3⟩ : ∃ a3, inB 4096 [lim] = a3 := ⟨_, rfl⟩
  have H1 := Lib.hid ha1
  have H2 := Lib.hid ha2
  have H3 := Lib.hid ha3
  clear ha1 ha2 ha3
  obtain ⟨dl, du⟩ := h4
  clear h5
  rcases (show d < 1 ∨ 5 < d ∨ (1 ≤ d ∧ d < 5) ∨ d = 5 from by omega) with hd | hd | ⟨hd, hd2⟩ | rfl
  · have q1 : decide (1 ≤ d ∧ d ≤ 5) = false := by simp; omega
    have HQ := Lib.hid q1
    clear q1
    go_enter Try.func12, Try.ntmps12
    go_wp2_with fail
    go_ret
    exact ⟨ret_bool (by rw [HB.out, HQ.out]; rfl), (Below.refl _ _).alloc (Nat.le_refl _) _⟩
  · have q1 : decide (1 ≤ d ∧ d ≤ 5) = false := by simp; omega
    have HQ := Lib.hid q1
    clear q1
    go_enter Try.func12, Try.ntmps12
    go_wp2_with fail
    go_ret
    exact ⟨ret_bool (by rw [HB.out, HQ.out]; rfl), (Below.refl _ _).alloc (Nat.le_refl _) _⟩
  · have hT := HT.out ⟨hd, by omega⟩ (fun h => by omega)
    rw [H1.out, H2.out] at hT
    have HR := Lib.hid hT
    clear hT
    have q5 : ((d : Int) == 5) = false := by simp; omega
    cases a1
    all_goals
      go_enter Try.func12, Try.ntmps12
      go_wp2_with fail
      refine (within_any 16 [(key.size : Int)] _ 1 _ (Fresh.new _ _ _ _ (by simp)) rfl (by omega)).mono ?_
      rw [H1.out]
      rintro e w1 ⟨rfl, rfl⟩
      go_wp2_with fail
    · go_ret
      exact ⟨ret_bool (by rw [HR.out]; rfl), Below.new ((Below.refl _ _).alloc (Nat.le_refl _) _) _⟩
    · refine (within_any 32 [(val.size : Int), (old.size : Int)] _ 2 _ (Fresh.new _ _ _ _ (by simp)) rfl (by omega)).mono ?_
      rw [H2.out]
      rintro e w1 ⟨rfl, rfl⟩
      go_wp2_with fail
      go_ret
      exact ⟨ret_bool (by rw [HR.out]; simp), Below.new (Below.new ((Below.refl _ _).alloc (Nat.le_refl _) _) _) _⟩
  · cases a3 with
    | false =>
      have q1 : decide (0 ≤ lim ∧ lim ≤ 4096) = false := by have := H3.out; rw [inB_one] at this; exact this
      have HQ := Lib.hid q1
      clear q1
      go_enter Try.func12, Try.ntmps12
      go_wp2_with fail
      refine (within_any 4096 [lim] _ 1 _ (Fresh.new _ _ _ _ (by simp)) rfl (by omega)).mono ?_
      rw [H3.out]
      rintro e w1 ⟨rfl, rfl⟩
      go_wp2_with fail
      go_ret
      exact ⟨ret_bool (by rw [HB.out, HQ.out]; rfl), Below.new ((Below.refl _ _).alloc (Nat.le_refl _) _) _⟩
    | true =>
      have q1 : 0 ≤ lim ∧ lim ≤ 4096 := by have := H3.out; rw [inB_one] at this; simpa using this
      have hT := HT.out (by omega) (fun _ => q1)
      rw [H1.out, H2.out] at hT
      have HR := Lib.hid hT
      clear hT q1
      cases a1
      all_goals
        go_enter Try.func12, Try.ntmps12
        go_wp2_with fail
        refine (within_any 4096 [lim] _ 1 _ (Fresh.new _ _ _ _ (by simp)) rfl (by omega)).mono ?_
        rw [H3.out]
        rintro e w1 ⟨rfl, rfl⟩
        go_wp2_with fail
        refine (within_any 16 [(key.size : Int)] _ 1 _ (Fresh.new _ _ _ _ (by simp)) rfl (by omega)).mono ?_
        rw [H1.out]
        rintro e w1 ⟨rfl, rfl⟩
        go_wp2_with fail
      · go_ret
        exact ⟨ret_bool (by rw [HR.out]; rfl), Below.new (Below.new ((Below.refl _ _).alloc (Nat.le_refl _) _) _) _⟩
      · refine (within_any 32 [(val.size : Int), (old.size : Int)] _ 2 _ (Fresh.new _ _ _ _ (by simp)) rfl (by omega)).mono ?_
        rw [H2.out]
        rintro e w1 ⟨rfl, rfl⟩
        go_wp2_with fail
        go_ret
        exact ⟨ret_bool (by rw [HR.out]; simp), Below.new (Below.new (Below.new ((Below.refl _ _).alloc (Nat.le_refl _) _) _) _) _⟩

end Go.Proofs.Ytjlfgmjcmicoaaa
