/- Rows of the law: references, Bools, numbers; how many live. -/
import Derived.Test.YtbbadkgmnfjfaaaRow
import Derived.Test.YtbbadkgmnfjfaaaInvC
import Derived.OwnWalk
namespace Go.Proofs.Ytbbadkgmnfjfaaa
open Go.RowKit
set_option maxRecDepth 100000
set_option maxHeartbeats 4000000

def bc (L : List Bool) : List Value := L.map .bool
def ic (H : List Int) : List Value := H.map (.int .i64)
/-- The three rows. -/
structure R3 (W : World) (B : Nat) (at' al ah : Option Addr) (ct cl ch : Nat) (T : List Rf) (L : List Bool) (H : List Int) : Prop where
  t : W.ownsRow B 36 2 (.slice at' T.length ct) T.length (rc T)
  l : W.ownsRow B 4 1 (.slice al L.length cl) L.length (bc L)
  h : W.ownsRow B 3 1 (.slice ah H.length ch) H.length (ic H)
theorem row1_cells {W : World} {B : Nat} {e : TypeId} {ao : Option Addr} {cap n : Nat} {xs : List Value} (h : W.ownsRow B e 1 (.slice ao n cap) n xs) (i : Nat) (v : Value) (hi : xs[i]? = some v) :
    ∃ g, ao = some ⟨g, 0, none⟩ ∧ n ≤ cap ∧ W.cell? ⟨g, i, none⟩ = some v ∧ W.frozen? ⟨g, i, none⟩ = false := by
  have hl := (List.getElem?_eq_some_iff.1 hi).1
  obtain ⟨h1, h2⟩ := id h
  rcases h2 with ⟨_, h2⟩ | ⟨g, cap', cur, e, _, _, hc1, _, _⟩
  · omega
  · injection e with e1 e2 e3
    subst e1 e3
    exact ⟨g, rfl, hc1, (h.cellAt _ (by omega)).trans hi, h.frozenAt _⟩
theorem R3.below {W W' : World} {B : Nat} {at' al ah : Option Addr} {ct cl ch : Nat} {T : List Rf} {L : List Bool} {H : List Int} (h : R3 W B at' al ah ct cl ch T L H) (hb : Below W.heap.size W W') : R3 W' B at' al ah ct cl ch T L H :=
  ⟨row_keep h.t fun k hk => hb.block k (h.t.lt k hk).2, row_keep h.l fun k hk => hb.block k (h.l.lt k hk).2, row_keep h.h fun k hk => hb.block k (h.h.lt k hk).2⟩
theorem R3.turned {W W' : World} {B p a g : Nat} {s : Sb} {at' al ah : Option Addr} {ct cl ch : Nat} {T : List Rf} {L : List Bool} {H : List Int} (h : R3 W B at' al ah ct cl ch T L H) (hA : Si.At W p a g s) (ht : Turned [a, g] W W') : R3 W' B at' al ah ct cl ch T L H := by
  have key : ∀ {e : TypeId} {z n : Nat} {v : Value} {xs : List Value}, W.ownsRow B e z v n xs → e ≠ 65 → e ≠ 82 → W'.ownsRow B e z v n xs := by
    intro e z n v xs h h1 h2
    refine row_keep h fun b hb => ht.block b (h.lt b hb).2 ?_
    intro hm
    rcases (show b = a ∨ b = g by simpa using hm) with rfl | rfl
    · exact row_apart h hA.ha (Ne.symm h1) hb
    · exact row_apart h hA.hg (Ne.symm h2) hb
  exact ⟨key h.t (by decide) (by decide), key h.l (by decide) (by decide), key h.h (by decide) (by decide)⟩

theorem R3.growT {W W' : World} {B : Nat} {at' al ah bt : Option Addr} {ct cl ch et n : Nat} {T : List Rf} {L : List Bool} {H : List Int} {r : Rf} (h : R3 W B at' al ah ct cl ch T L H) (hl : T.length = n) (hg : W.grownBy W' (Value.slice at' n ct).ownBlock)
    (hn : W'.ownsRow B 36 2 (.slice bt (n + 1) et) (n + 1) (rc T ++ [.int .i64 r.s, .int .u32 r.g])) : R3 W' B bt al ah et cl ch (T ++ [r]) L H := by
  subst hl
  refine ⟨by rw [List.length_append, rc_append]; exact hn, ?_, ?_⟩
  · exact row_keep h.l fun k hk => hg.block k (h.l.lt k hk).2 (row_two h.l h.t (by decide) hk)
  · exact row_keep h.h fun k hk => hg.block k (h.h.lt k hk).2 (row_two h.h h.t (by decide) hk)
theorem R3.growL {W W' : World} {B : Nat} {at' al ah bt : Option Addr} {ct cl ch et n : Nat} {T : List Rf} {L : List Bool} {H : List Int} {r : Bool} (h : R3 W B at' al ah ct cl ch T L H) (hl : L.length = n) (hg : W.grownBy W' (Value.slice al n cl).ownBlock)
    (hn : W'.ownsRow B 4 1 (.slice bt (n + 1) et) (n + 1) (bc L ++ [.bool r])) : R3 W' B at' bt ah ct et ch T (L ++ [r]) H := by
  subst hl
  refine ⟨?_, by rw [List.length_append, show bc (L ++ [r]) = bc L ++ [.bool r] from by simp [bc]]; exact hn, ?_⟩
  · exact row_keep h.t fun k hk => hg.block k (h.t.lt k hk).2 (row_two h.t h.l (by decide) hk)
  · exact row_keep h.h fun k hk => hg.block k (h.h.lt k hk).2 (row_two h.h h.l (by decide) hk)
theorem R3.growH {W W' : World} {B : Nat} {at' al ah bt : Option Addr} {ct cl ch et n : Nat} {T : List Rf} {L : List Bool} {H : List Int} {r : Int} (h : R3 W B at' al ah ct cl ch T L H) (hl : H.length = n) (hg : W.grownBy W' (Value.slice ah n ch).ownBlock)
    (hn : W'.ownsRow B 3 1 (.slice bt (n + 1) et) (n + 1) (ic H ++ [.int .i64 r])) : R3 W' B at' al bt ct cl et T L (H ++ [r]) := by
  subst hl
  refine ⟨?_, ?_, by rw [List.length_append, show ic (H ++ [r]) = ic H ++ [.int .i64 r] from by simp [ic]]; exact hn⟩
  · exact row_keep h.t fun k hk => hg.block k (h.t.lt k hk).2 (row_two h.t h.h (by decide) hk)
  · exact row_keep h.l fun k hk => hg.block k (h.l.lt k hk).2 (row_two h.l h.h (by decide) hk)
/-- What grows a row of the law's leaves the slab alone. -/
theorem at_grown {W W' : World} {B p a g n z : Nat} {s : Sb} {e : TypeId} {v : Value} {xs : List Value} (hA : Si.At W p a g s) (h : W.ownsRow B e z v n xs) (he : e = 36 ∨ e = 4 ∨ e = 3) (hg : W.grownBy W' v.ownBlock) : Si.At W' p a g s := by
  have h1 : 67 ≠ e := by rcases he with rfl | rfl | rfl <;> decide
  have h2 : 65 ≠ e := by rcases he with rfl | rfl | rfl <;> decide
  have h3 : 82 ≠ e := by rcases he with rfl | rfl | rfl <;> decide
  exact ⟨hA.hp.grown hg (Ne.symm (row_apart h hA.hp h1)), hA.ha.grown hg (Ne.symm (row_apart h hA.ha h2)), hA.hg.grown hg (Ne.symm (row_apart h hA.hg h3))⟩
theorem infoB : ∃ i0 : TypeInfo, Try.prog.info? 4 = some i0 ∧ i0.zero = some (.bool false) ∧ i0.size = 1 ∧ i0.bytes = 1 := by
  have h : (Try.prog.info? 4).map (fun i => (i.zero, i.size, i.bytes)) = some (some (.bool false), 1, 1) := by kernel_rfl
  cases hi : Try.prog.info? 4 with
  | none => rw [hi] at h; simp at h
  | some i0 =>
    rw [hi] at h
    simp only [Option.map_some, Option.some.injEq, Prod.mk.injEq] at h
    exact ⟨i0, rfl, h.1, h.2.1, h.2.2⟩
theorem infoI : ∃ i0 : TypeInfo, Try.prog.info? 3 = some i0 ∧ i0.zero = some (.int .i64 0) ∧ i0.size = 1 ∧ i0.bytes = 8 := by
  have h : (Try.prog.info? 3).map (fun i => (i.zero, i.size, i.bytes)) = some (some (.int .i64 0), 1, 8) := by kernel_rfl
  cases hi : Try.prog.info? 3 with
  | none => rw [hi] at h; simp at h
  | some i0 =>
    rw [hi] at h
    simp only [Option.map_some, Option.some.injEq, Prod.mk.injEq] at h
    exact ⟨i0, rfl, h.1, h.2.1, h.2.2⟩
/-- One new cell, in a block of its own. -/
theorem news_one (W : World) (v : Value) (e : TypeId) : ∀ (q : Nat) u, [v][q]? = some u → (W.alloc (.cells #[v] e)).cell? ((⟨W.heap.size, 0, none⟩ : Addr).add q) = some u := by
  intro q u hq
  have D := Fresh.new W W.heap.size #[v] e rfl
  rw [Addr.add_lit, Nat.zero_add, D.cell q]
  simpa using hq
/-- What is stored into a row of the law's. -/
theorem R3.setL {W : World} {B gl : Nat} {at' ah : Option Addr} {ct cl ch : Nat} {T : List Rf} {L : List Bool} {H : List Int} (h : R3 W B at' (some ⟨gl, 0, none⟩) ah ct cl ch T L H) (j : Nat) (c : Bool) : R3 (W.setCell ⟨gl, j, none⟩ (.bool c)) B at' (some ⟨gl, 0, none⟩) ah ct cl ch T (L.set j c) H := by
  have hl := h.l.stored j (.bool c)
  refine ⟨?_, by rw [List.length_set]; exact (show bc (L.set j c) = (bc L).set j (.bool c) from by simp [bc, List.map_set]) ▸ hl.1, ?_⟩
  · exact row_keep h.t fun k hk => Below.heap_setCell W ⟨gl, j, none⟩ _ k (fun e => row_two h.t h.l (by decide) hk (by rw [e]; rfl))
  · exact row_keep h.h fun k hk => Below.heap_setCell W ⟨gl, j, none⟩ _ k (fun e => row_two h.h h.l (by decide) hk (by rw [e]; rfl))
theorem R3.setH {W : World} {B gl : Nat} {at' al : Option Addr} {ct cl ch : Nat} {T : List Rf} {L : List Bool} {H : List Int} (h : R3 W B at' al (some ⟨gl, 0, none⟩) ct cl ch T L H) (j : Nat) (c : Int) : R3 (W.setCell ⟨gl, j, none⟩ (.int .i64 c)) B at' al (some ⟨gl, 0, none⟩) ct cl ch T L (H.set j c) := by
  have hl := h.h.stored j (.int .i64 c)
  refine ⟨?_, ?_, by rw [List.length_set]; exact (show ic (H.set j c) = (ic H).set j (.int .i64 c) from by simp [ic, List.map_set]) ▸ hl.1⟩
  · exact row_keep h.t fun k hk => Below.heap_setCell W ⟨gl, j, none⟩ _ k (fun e => row_two h.t h.h (by decide) hk (by rw [e]; rfl))
  · exact row_keep h.l fun k hk => Below.heap_setCell W ⟨gl, j, none⟩ _ k (fun e => row_two h.l h.h (by decide) hk (by rw [e]; rfl))
theorem at_off {W : World} {B p a g n z gl j : Nat} {s : Sb} {e : TypeId} {cap : Nat} {xs : List Value} (hA : Si.At W p a g s) (h : W.ownsRow B e z (.slice (some ⟨gl, 0, none⟩) n cap) n xs) (he : e = 36 ∨ e = 4 ∨ e = 3) (v : Value) : Si.At (W.setCell ⟨gl, j, none⟩ v) p a g s := by
  have h1 : 67 ≠ e := by rcases he with rfl | rfl | rfl <;> decide
  have h2 : 65 ≠ e := by rcases he with rfl | rfl | rfl <;> decide
  have h3 : 82 ≠ e := by rcases he with rfl | rfl | rfl <;> decide
  exact hA.off (fun e => row_apart h hA.hp h1 (by rw [e]; rfl)) (fun e => row_apart h hA.ha h2 (by rw [e]; rfl)) (fun e => row_apart h hA.hg h3 (by rw [e]; rfl)) j v

theorem R3.lcell {W : World} {B gl : Nat} {at' ah : Option Addr} {ct cl ch : Nat} {T : List Rf} {L : List Bool} {H : List Int} (h : R3 W B at' (some ⟨gl, 0, none⟩) ah ct cl ch T L H) {j : Nat} {c : Bool} (hc : L[j]? = some c) : W.cell? ⟨gl, j, none⟩ = some (.bool c) ∧ W.frozen? ⟨gl, j, none⟩ = false := by
  obtain ⟨g', e, _, h1, h2⟩ := row1_cells h.l j (.bool c) (by unfold bc; rw [List.getElem?_map, hc]; rfl)
  cases e
  exact ⟨h1, h2⟩
theorem R3.hcell {W : World} {B gl : Nat} {at' al : Option Addr} {ct cl ch : Nat} {T : List Rf} {L : List Bool} {H : List Int} (h : R3 W B at' al (some ⟨gl, 0, none⟩) ct cl ch T L H) {j : Nat} {c : Int} (hc : H[j]? = some c) : W.cell? ⟨gl, j, none⟩ = some (.int .i64 c) ∧ W.frozen? ⟨gl, j, none⟩ = false := by
  obtain ⟨g', e, _, h1, h2⟩ := row1_cells h.h j (.int .i64 c) (by unfold ic; rw [List.getElem?_map, hc]; rfl)
  cases e
  exact ⟨h1, h2⟩
theorem R3.tcell {W : World} {B gl : Nat} {al ah : Option Addr} {ct cl ch : Nat} {T : List Rf} {L : List Bool} {H : List Int} (h : R3 W B (some ⟨gl, 0, none⟩) al ah ct cl ch T L H) {j : Nat} {r : Rf} (hc : T[j]? = some r) : W.cell? ⟨gl, j * 2, none⟩ = some (.int .i64 r.s) ∧ W.cell? ⟨gl, j * 2 + 1, none⟩ = some (.int .u32 r.g) := by
  obtain ⟨g', e, _, h1, h2⟩ := rc_cells h.t j r hc
  cases e
  exact ⟨h1, h2⟩
theorem R3.drew {W : World} {B : Nat} {at' al ah : Option Addr} {ct cl ch : Nat} {T : List Rf} {L : List Bool} {H : List Int} (h : R3 W B at' al ah ct cl ch T L H) : R3 W.drew B at' al ah ct cl ch T L H := ⟨h.t.drew, h.l.drew, h.h.drew⟩

theorem countP_take_succ (L : List Bool) (k : Nat) (c : Bool) (h : L[k]? = some c) : (L.take (k + 1)).countP id = (L.take k).countP id + (if c = true then 1 else 0) := by
  rw [List.take_add_one, h, List.countP_append]
  cases c <;> simp
theorem count_any {W : World} {B : Nat} {ao : Option Addr} {cap : Nat} (L : List Bool) (h : W.ownsRow B 4 1 (.slice ao L.length cap) L.length (bc L)) (hl : L.length ≤ 1000000) :
    Calls Try.prog 18 #[.slice ao L.length cap] W fun e w' => e = .returned (.int .i64 (L.countP id)) ∧ w' = W := by
  have HH := Lib.hid h
  have HE : Hid (((L.take L.length).countP id : Nat) = L.countP id) := by show _ = _; rw [List.take_length]
  obtain ⟨n, hn⟩ : ∃ n, L.length = n := ⟨_, rfl⟩
  rw [hn] at hl HE ⊢
  have HN := Lib.hid hn
  clear h hn
  go_enter Try.func18, Try.ntmps18
  go_wp2_with fail
  go_loopw [3, 4] (fun c i wr => ∃ k : Nat, k ≤ n ∧ i = .int .i64 k ∧ c = .int .i64 ((L.take k).countP id : Nat) ∧ wr = W) (fun _ i _ => n - (intOf i).toNat)
  case atStart => exact ⟨0, by omega, rfl, by simp, rfl⟩
  case round =>
    obtain ⟨k, hk, rfl, rfl, hw⟩ := hrel
    obtain rfl := hw
    have k0 : (0 : Int) ≤ (k : Int) := by omega
    by_cases hlt : k < n
    · have k1 : (k : Int) < (n : Int) := by omega
      have k2 : decide (k < n) = true := decide_eq_true hlt
      obtain ⟨c, hc⟩ : ∃ c, L[k]? = some c := ⟨L[k]'(by rw [HN.out]; exact hlt), List.getElem?_eq_getElem _⟩
      have hH := HH.out
      rw [HN.out] at hH
      obtain ⟨g, rfl, hcap, e0, _⟩ := row1_cells hH k (.bool c) (by unfold bc; rw [List.getElem?_map, hc]; rfl)
      have HC := Lib.hid hc
      have hcnt : (L.take k).countP id ≤ k := Nat.le_trans List.countP_le_length (by simp; omega)
      have HS := Lib.hid (countP_take_succ L k c hc)
      obtain ⟨m, hm⟩ : ∃ m : Nat, (L.take k).countP id = m := ⟨_, rfl⟩
      rw [hm] at hcnt HS ⊢
      clear hc hH hm
      cases c
      · go_wp2_with fail
        go_roundw
        case rel => exact ⟨k + 1, by omega, by go_num, by rw [HS.out]; simp, trivial⟩
        case measure => simp [intOf]; omega
      · go_wp2_with fail
        go_roundw
        case rel => exact ⟨k + 1, by omega, by go_num, by rw [HS.out]; simp, trivial⟩
        case measure => simp [intOf]; omega
    · obtain rfl : k = n := by omega
      rw [HE.out]
      go_wp2_with fail
      go_ret
      exact ⟨rfl, rfl⟩
end Go.Proofs.Ytbbadkgmnfjfaaa
