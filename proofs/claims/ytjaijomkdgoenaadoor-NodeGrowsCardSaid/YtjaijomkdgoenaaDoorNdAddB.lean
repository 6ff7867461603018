/- Add, Turn, Cut (printed by mkndadd.py). -/
import Derived.Test.YtjaijomkdgoenaaDoorNdWith
namespace Go.Proofs.YtjaijomkdgoenaaDoor.Nd
open Go.RowKit
open Mn
set_option maxRecDepth 1000000
set_option maxHeartbeats 4000000

theorem results_cell_tmp {fn : Func} {p u : Tmp} {ty : TypeId} (h : fn.results = #[.cell p ty, .tmp u]) (tmps : Array Value) (P : Program) (w : World) :
    (results fn tmps).run P w =
      ((asAddr (tmps.getD p undef)).run P w).andThen fun a w₁ => ((loadVar ty a).run P w₁).andThen fun v w₂ => .ok (.tuple #[v, tmps.getD u undef]) w₂ := by
  simp only [results, h]
  simp [Sem.run_bind, Result.andThen]

/-- The node of no node. -/
def zeroNo : No := ⟨0, ⟨#[]⟩, ⟨#[]⟩, ⟨#[]⟩, [], []⟩
theorem zeroNo_at {W : World} (h : Rm W) : NdAt W zeroNo none 0 none 0 := ⟨h, BR.nil W, RR.nil W, by decide, by decide, by decide⟩

/-- The error of Add. -/
def addE (n : No) (b : UInt8) (s g : Int) (keep : Bool) : Int := if n.usable = false ∨ impR s g = true then 4 else if b ∈ n.bs then 8 else if keep = true ∧ n.full = true then 14 else 0
/-- The node that Add makes. -/
def addN (n : No) (b : UInt8) (s g : Int) (keep : Bool) : No := if addE n b s g keep = 0 then n.kids (kindOf n keep (n.bs.length + 1)) (n.ens.insertIdx (placeIx b n.ens) (b, s, g)) else zeroNo
/-- The error of Turn. -/
def turnE (n : No) (b : UInt8) (s g : Int) : Int := if n.usable = false ∨ impR s g = true then 4 else if b ∈ n.bs then 0 else 5
def turnN (n : No) (b : UInt8) (s g : Int) : No := if turnE n b s g = 0 then n.kids n.k (turnS b s g n.ens) else zeroNo
/-- The error of Cut. -/
def cutE (n : No) (b : UInt8) : Int := if n.usable = false then 4 else if b ∈ n.bs then 0 else 5
def cutN (n : No) (b : UInt8) (keep : Bool) : No := if cutE n b = 0 then n.kids (kindOf n keep (n.bs.length - 1)) (takeS b n.ens) else zeroNo

/-- What a call gives that makes a node: the node m and the error E. -/
def MkP (W : World) (m : No) (E : Int) (e : Ending) (w' : World) : Prop :=
  ∃ ba bc ka kc, e = .returned (.tuple #[m.val ba bc ka kc, .int .i64 E]) ∧ Below W.heap.size W w' ∧ NdAt w' m ba bc ka kc

theorem mem_in {n : No} {b : UInt8} (he : n.bs.length = n.rs.length) (hr : Ris n.bs) : isIn b n.ens = decide (b ∈ n.bs) := by
  rw [Bool.eq_iff_iff, isIn_iff (ens_srt he hr), decide_eq_true_iff]
  constructor
  · rintro ⟨x, hx, rfl⟩
    rw [← ens_bs he]
    exact List.mem_map_of_mem (f := (·.1)) hx
  · intro h
    rw [← ens_bs he] at h
    obtain ⟨x, hx, h⟩ := List.mem_map.1 h
    exact ⟨x, hx, h⟩

/-- The boxes of a call: the node, the reference, the result, the view. -/
structure Bx4 (W W4 : World) (P0 P1 P2 P3 : Nat) (n : No) (ba : Option Addr) (bn bc : Nat) (ka : Option Addr) (kn kc : Nat) (s g : Int) : Prop where
  low : Below W.heap.size W W4
  f0 : Fresh W4 P0 #[.int .i64 n.k, .string n.c, .string n.v, .string n.p, .slice ba bn bc, .slice ka kn kc] 26
  f1 : Fresh W4 P1 #[.int .i64 s, .int .u32 g] 29
  f2 : Fresh W4 P2 zeroC 26
  f3 : Fresh W4 P3 #[.int .i64 n.k, .string n.c, .string n.v, .string n.p, .slice ba bn bc, .slice ka kn kc] 49
  hp : W.heap.size ≤ P2
section
variable {W W4 : World} {P0 P1 P2 P3 : Nat} {n : No} {ba : Option Addr} {bn bc : Nat} {ka : Option Addr} {kn kc : Nat} {s g : Int}
theorem Bx4.node (h : Bx4 W W4 P0 P1 P2 P3 n ba bn bc ka kn kc s g) {w : World} (hb : Below W4.heap.size W4 w) :
    w.cell? ⟨P0, 0, none⟩ = some (.int .i64 n.k) ∧ w.cell? ⟨P0, 1, none⟩ = some (.string n.c) ∧ w.cell? ⟨P0, 2, none⟩ = some (.string n.v) ∧ w.cell? ⟨P0, 3, none⟩ = some (.string n.p) ∧ w.cell? ⟨P0, 4, none⟩ = some (.slice ba bn bc) ∧ w.cell? ⟨P0, 5, none⟩ = some (.slice ka kn kc) := box6 (h.f0.below hb)
theorem Bx4.view (h : Bx4 W W4 P0 P1 P2 P3 n ba bn bc ka kn kc s g) {w : World} (hb : Below W4.heap.size W4 w) :
    w.cell? ⟨P3, 0, none⟩ = some (.int .i64 n.k) ∧ w.cell? ⟨P3, 1, none⟩ = some (.string n.c) ∧ w.cell? ⟨P3, 2, none⟩ = some (.string n.v) ∧ w.cell? ⟨P3, 3, none⟩ = some (.string n.p) ∧ w.cell? ⟨P3, 4, none⟩ = some (.slice ba bn bc) ∧ w.cell? ⟨P3, 5, none⟩ = some (.slice ka kn kc) := box6 (h.f3.below hb)
theorem Bx4.ref (h : Bx4 W W4 P0 P1 P2 P3 n ba bn bc ka kn kc s g) {w : World} (hb : Below W4.heap.size W4 w) :
    w.cell? ⟨P1, 0, none⟩ = some (.int .i64 s) ∧ w.cell? ⟨P1, 1, none⟩ = some (.int .u32 g) := ⟨(h.f1.below hb).cell 0, (h.f1.below hb).cell 1⟩
theorem Bx4.res (h : Bx4 W W4 P0 P1 P2 P3 n ba bn bc ka kn kc s g) {w : World} (hb : Below W4.heap.size W4 w) :
    (w.cell? ⟨P2, 0, none⟩ = some (.int .i64 0) ∧ w.cell? ⟨P2, 1, none⟩ = some (.string ⟨#[]⟩) ∧ w.cell? ⟨P2, 2, none⟩ = some (.string ⟨#[]⟩) ∧ w.cell? ⟨P2, 3, none⟩ = some (.string ⟨#[]⟩) ∧ w.cell? ⟨P2, 4, none⟩ = some (.slice none 0 0) ∧ w.cell? ⟨P2, 5, none⟩ = some (.slice none 0 0)) ∧
    (w.frozen? ⟨P2, 0, none⟩ = false ∧ w.frozen? ⟨P2, 1, none⟩ = false ∧ w.frozen? ⟨P2, 2, none⟩ = false ∧ w.frozen? ⟨P2, 3, none⟩ = false ∧ w.frozen? ⟨P2, 4, none⟩ = false ∧ w.frozen? ⟨P2, 5, none⟩ = false) :=
  ⟨box6 (h.f2.below hb), (h.f2.below hb).thawed 0, (h.f2.below hb).thawed 1, (h.f2.below hb).thawed 2, (h.f2.below hb).thawed 3, (h.f2.below hb).thawed 4, (h.f2.below hb).thawed 5⟩
/-- The result's box, once written. -/
theorem Bx4.fin (h : Bx4 W W4 P0 P1 P2 P3 n ba bn bc ka kn kc s g) {w : World} (hb : Below W4.heap.size W4 w) (v0 v1 v2 v3 v4 v5 : Value) {w' : World}
    (hw : w' = (((((w.setCell ⟨P2, 0, none⟩ v0).setCell ⟨P2, 1, none⟩ v1).setCell ⟨P2, 2, none⟩ v2).setCell ⟨P2, 3, none⟩ v3).setCell ⟨P2, 4, none⟩ v4).setCell ⟨P2, 5, none⟩ v5) :
    Turned [P2] w w' ∧ Below W.heap.size W w' ∧ w'.cell? ⟨P2, 0, none⟩ = some v0 ∧ w'.cell? ⟨P2, 1, none⟩ = some v1 ∧ w'.cell? ⟨P2, 2, none⟩ = some v2 ∧ w'.cell? ⟨P2, 3, none⟩ = some v3 ∧ w'.cell? ⟨P2, 4, none⟩ = some v4 ∧ w'.cell? ⟨P2, 5, none⟩ = some v5 := by
  have T : Turned [P2] w w' := by
    rw [hw]
    exact ((((((Turned.refl _ w).setCell (.inl (by simp)) _ _).setCell (.inl (by simp)) _ _).setCell (.inl (by simp)) _ _).setCell (.inl (by simp)) _ _).setCell (.inl (by simp)) _ _).setCell (.inl (by simp)) _ _
  have F : Fresh w' P2 #[v0, v1, v2, v3, v4, v5] 26 := by
    rw [hw]
    exact ((((((h.f2.below hb).set 0 _).set 1 _).set 2 _).set 3 _).set 4 _).set 5 _
  have B := Below.step h.low hb
  exact ⟨T, T.below B (by intro k hk; simp at hk; have := h.hp; omega) B.size, box6 F⟩
theorem zeroC_no (i : Nat) (k : Int) : zeroC[i]? ≠ some (.int .u8 k) := by
  intro h
  unfold zeroC at h
  rcases i with _ | _ | _ | _ | _ | _ | i <;> simp at h
theorem zeroC_no2 (i : Nat) (k : Int) : zeroC[i]? ≠ some (.int .u32 k) := by
  intro h
  unfold zeroC at h
  rcases i with _ | _ | _ | _ | _ | _ | i <;> simp at h
/-- A node that was made before, behind the turn of a box that was zero. -/
theorem NdAt.turned {w w' : World} {m : No} {b' : Option Addr} {c' : Nat} {k' : Option Addr} {l' : Nat} {P : Nat} (h : NdAt w m b' c' k' l') (ht : Turned [P] w w') (hr : Rm w') (hz : Fresh w P zeroC 26) : NdAt w' m b' c' k' l' := by
  refine ⟨hr, ?_, ?_, h.bl, h.rl, h.cl⟩
  · obtain ⟨ao, cap, e1, h2⟩ := h.b
    cases e1
    refine ⟨_, _, rfl, fun j k hj => ?_⟩
    obtain ⟨b, o, e, h4, h5⟩ := h2 j k hj
    refine ⟨b, o, e, Nat.lt_of_lt_of_le h4 ht.size, ?_⟩
    have hne : b ≠ P := by
      rintro rfl
      rw [hz.cell] at h5
      exact zeroC_no _ _ h5
    refine Eq.trans ?_ h5
    exact cell_same (p := ⟨b, o + j, none⟩) (ht.block b h4 (by simpa using hne))
  · obtain ⟨ao, cap, e1, h2⟩ := h.r
    cases e1
    refine ⟨_, _, rfl, fun j k hj => ?_⟩
    obtain ⟨b, o, e, h4, h5, h6⟩ := h2 j k hj
    have hne : b ≠ P := by
      rintro rfl
      rw [hz.cell] at h6
      exact zeroC_no2 _ _ h6
    refine ⟨b, o, e, Nat.lt_of_lt_of_le h4 ht.size, ?_, ?_⟩
    · exact Eq.trans (cell_same (p := ⟨b, o + j * 2, none⟩) (ht.block b h4 (by simpa using hne))) h5
    · exact Eq.trans (cell_same (p := ⟨b, o + j * 2 + 1, none⟩) (ht.block b h4 (by simpa using hne))) h6
end
/-- The boxes of a call: the node, the result, the view. -/
structure Bx3 (W W4 : World) (P0 P2 P3 : Nat) (n : No) (ba : Option Addr) (bn bc : Nat) (ka : Option Addr) (kn kc : Nat) : Prop where
  low : Below W.heap.size W W4
  f0 : Fresh W4 P0 #[.int .i64 n.k, .string n.c, .string n.v, .string n.p, .slice ba bn bc, .slice ka kn kc] 26
  f2 : Fresh W4 P2 zeroC 26
  f3 : Fresh W4 P3 #[.int .i64 n.k, .string n.c, .string n.v, .string n.p, .slice ba bn bc, .slice ka kn kc] 49
  hp : W.heap.size ≤ P2
section
variable {W W4 : World} {P0 P2 P3 : Nat} {n : No} {ba : Option Addr} {bn bc : Nat} {ka : Option Addr} {kn kc : Nat}
theorem Bx3.node (h : Bx3 W W4 P0 P2 P3 n ba bn bc ka kn kc) {w : World} (hb : Below W4.heap.size W4 w) :
    w.cell? ⟨P0, 0, none⟩ = some (.int .i64 n.k) ∧ w.cell? ⟨P0, 1, none⟩ = some (.string n.c) ∧ w.cell? ⟨P0, 2, none⟩ = some (.string n.v) ∧ w.cell? ⟨P0, 3, none⟩ = some (.string n.p) ∧ w.cell? ⟨P0, 4, none⟩ = some (.slice ba bn bc) ∧ w.cell? ⟨P0, 5, none⟩ = some (.slice ka kn kc) := box6 (h.f0.below hb)
theorem Bx3.view (h : Bx3 W W4 P0 P2 P3 n ba bn bc ka kn kc) {w : World} (hb : Below W4.heap.size W4 w) :
    w.cell? ⟨P3, 0, none⟩ = some (.int .i64 n.k) ∧ w.cell? ⟨P3, 1, none⟩ = some (.string n.c) ∧ w.cell? ⟨P3, 2, none⟩ = some (.string n.v) ∧ w.cell? ⟨P3, 3, none⟩ = some (.string n.p) ∧ w.cell? ⟨P3, 4, none⟩ = some (.slice ba bn bc) ∧ w.cell? ⟨P3, 5, none⟩ = some (.slice ka kn kc) := box6 (h.f3.below hb)
theorem Bx3.res (h : Bx3 W W4 P0 P2 P3 n ba bn bc ka kn kc) {w : World} (hb : Below W4.heap.size W4 w) :
    (w.cell? ⟨P2, 0, none⟩ = some (.int .i64 0) ∧ w.cell? ⟨P2, 1, none⟩ = some (.string ⟨#[]⟩) ∧ w.cell? ⟨P2, 2, none⟩ = some (.string ⟨#[]⟩) ∧ w.cell? ⟨P2, 3, none⟩ = some (.string ⟨#[]⟩) ∧ w.cell? ⟨P2, 4, none⟩ = some (.slice none 0 0) ∧ w.cell? ⟨P2, 5, none⟩ = some (.slice none 0 0)) ∧
    (w.frozen? ⟨P2, 0, none⟩ = false ∧ w.frozen? ⟨P2, 1, none⟩ = false ∧ w.frozen? ⟨P2, 2, none⟩ = false ∧ w.frozen? ⟨P2, 3, none⟩ = false ∧ w.frozen? ⟨P2, 4, none⟩ = false ∧ w.frozen? ⟨P2, 5, none⟩ = false) :=
  ⟨box6 (h.f2.below hb), (h.f2.below hb).thawed 0, (h.f2.below hb).thawed 1, (h.f2.below hb).thawed 2, (h.f2.below hb).thawed 3, (h.f2.below hb).thawed 4, (h.f2.below hb).thawed 5⟩
/-- The result's box, once written. -/
theorem Bx3.fin (h : Bx3 W W4 P0 P2 P3 n ba bn bc ka kn kc) {w : World} (hb : Below W4.heap.size W4 w) (v0 v1 v2 v3 v4 v5 : Value) {w' : World}
    (hw : w' = (((((w.setCell ⟨P2, 0, none⟩ v0).setCell ⟨P2, 1, none⟩ v1).setCell ⟨P2, 2, none⟩ v2).setCell ⟨P2, 3, none⟩ v3).setCell ⟨P2, 4, none⟩ v4).setCell ⟨P2, 5, none⟩ v5) :
    Turned [P2] w w' ∧ Below W.heap.size W w' ∧ w'.cell? ⟨P2, 0, none⟩ = some v0 ∧ w'.cell? ⟨P2, 1, none⟩ = some v1 ∧ w'.cell? ⟨P2, 2, none⟩ = some v2 ∧ w'.cell? ⟨P2, 3, none⟩ = some v3 ∧ w'.cell? ⟨P2, 4, none⟩ = some v4 ∧ w'.cell? ⟨P2, 5, none⟩ = some v5 := by
  have T : Turned [P2] w w' := by
    rw [hw]
    exact ((((((Turned.refl _ w).setCell (.inl (by simp)) _ _).setCell (.inl (by simp)) _ _).setCell (.inl (by simp)) _ _).setCell (.inl (by simp)) _ _).setCell (.inl (by simp)) _ _).setCell (.inl (by simp)) _ _
  have F : Fresh w' P2 #[v0, v1, v2, v3, v4, v5] 26 := by
    rw [hw]
    exact ((((((h.f2.below hb).set 0 _).set 1 _).set 2 _).set 3 _).set 4 _).set 5 _
  have B := Below.step h.low hb
  exact ⟨T, T.below B (by intro k hk; simp at hk; have := h.hp; omega) B.size, box6 F⟩
end
end Go.Proofs.YtjaijomkdgoenaaDoor.Nd
