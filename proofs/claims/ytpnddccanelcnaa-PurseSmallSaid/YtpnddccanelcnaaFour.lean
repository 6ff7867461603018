/- Four purses beside one another, and three boxes. -/
import Derived.Test.YtpnddccanelcnaaCopy
import Derived.Test.YtpnddccanelcnaaOnceW
namespace Go.Proofs.Ytpnddccanelcnaa
open Go.RowKit
set_option maxRecDepth 100000

structure Pl where
  p : Nat
  a : Nat
  m : Nat
def Pl.v (x : Pl) : Value := .pointer (some ⟨x.p, 0, none⟩)
def Pl.bs (x : Pl) : List Nat := [x.a, x.m]
def AtP (W : World) (x : Pl) (s : Pu) : Prop := At W x.p x.a x.m s
def Pl.Under (x : Pl) (n : Nat) : Prop := x.p < n ∧ x.a < n ∧ x.m < n
def Pl.Above (x : Pl) (n : Nat) : Prop := n ≤ x.p ∧ n ≤ x.a ∧ n ≤ x.m
theorem AtP.under {W : World} {x : Pl} {s : Pu} (h : AtP W x s) : x.Under W.heap.size := ⟨h.hp.lt, h.ha.lt, h.hm.lt⟩
def Apart (x y : Pl) : Prop := x.p ∉ y.bs ∧ x.a ∉ y.bs ∧ x.m ∉ y.bs
theorem Apart.old {x y : Pl} {n : Nat} (h : x.Under n) (k : y.Above n) : Apart x y ∧ Apart y x := by
  obtain ⟨h1, h2, h3⟩ := h
  obtain ⟨k1, k2, k3⟩ := k
  unfold Apart Pl.bs
  refine ⟨⟨?_, ?_, ?_⟩, ?_, ?_, ?_⟩ <;> simp <;> omega
theorem Pl.Above.bs {x : Pl} {n : Nat} (h : x.Above n) : ∀ k ∈ x.bs, n ≤ k := by
  intro k hk
  obtain ⟨_, h2, h3⟩ := h
  simp [Pl.bs] at hk
  rcases hk with rfl | rfl <;> assumption
theorem AtP.other {W W' : World} {x y : Pl} {s : Pu} (h : AtP W x s) (ht : Turned y.bs W W') (k : Apart x y) : AtP W' x s :=
  ⟨ht.other h.hp k.1, ht.other h.ha k.2.1, h.hm.turned ht k.2.2⟩
theorem AtP.under_below {W W' : World} {x : Pl} {s : Pu} (h : AtP W x s) (hb : Below W.heap.size W W') : AtP W' x s := At.below h hb

/-- What stands: the world of the call is below; the purse and its three copies; the boxes of what it had. -/
structure Four (w : World) (X Y Z V : Pl) (b1 b2 b3 : Nat) (c1 c2 c3 : Array Value) (sx sy sz sv : Pu) (W : World) : Prop where
  low : Below w.heap.size w W
  x : AtP W X sx
  y : AtP W Y sy
  z : AtP W Z sz
  v : AtP W V sv
  f1 : Fresh W b1 c1 24
  f2 : Fresh W b2 c2 24
  f3 : Fresh W b3 c3 24
structure Sep (n : Nat) (X Y Z V : Pl) (b1 b2 b3 : Nat) : Prop where
  yn : Y.Above n
  zn : Z.Above n
  vn : V.Above n
  yx : Apart X Y
  yz : Apart Z Y
  yv : Apart V Y
  zx : Apart X Z
  zy : Apart Y Z
  zv : Apart V Z
  vx : Apart X V
  vy : Apart Y V
  vz : Apart Z V
  by1 : b1 ∉ Y.bs ∧ b2 ∉ Y.bs ∧ b3 ∉ Y.bs
  bz1 : b1 ∉ Z.bs ∧ b2 ∉ Z.bs ∧ b3 ∉ Z.bs
  bv1 : b1 ∉ V.bs ∧ b2 ∉ V.bs ∧ b3 ∉ V.bs

section
variable {w W W' : World} {X Y Z V : Pl} {b1 b2 b3 : Nat} {c1 c2 c3 : Array Value} {sx sy sz sv s' : Pu}
theorem Four.on (h : Four w X Y Z V b1 b2 b3 c1 c2 c3 sx sy sz sv W) (hb : Below W.heap.size W W') : Four w X Y Z V b1 b2 b3 c1 c2 c3 sx sy sz sv W' :=
  ⟨h.low.trans (hb.mono h.low.size), h.x.under_below hb, h.y.under_below hb, h.z.under_below hb, h.v.under_below hb, h.f1.below hb, h.f2.below hb, h.f3.below hb⟩
theorem Four.ty (h : Four w X Y Z V b1 b2 b3 c1 c2 c3 sx sy sz sv W) (k : Sep w.heap.size X Y Z V b1 b2 b3) (ht : Turned Y.bs W W') (ha : AtP W' Y s') : Four w X Y Z V b1 b2 b3 c1 c2 c3 sx s' sz sv W' :=
  ⟨ht.below h.low k.yn.bs h.low.size, h.x.other ht k.yx, ha, h.z.other ht k.yz, h.v.other ht k.yv, ht.other h.f1 k.by1.1, ht.other h.f2 k.by1.2.1, ht.other h.f3 k.by1.2.2⟩
theorem Four.tz (h : Four w X Y Z V b1 b2 b3 c1 c2 c3 sx sy sz sv W) (k : Sep w.heap.size X Y Z V b1 b2 b3) (ht : Turned Z.bs W W') (ha : AtP W' Z s') : Four w X Y Z V b1 b2 b3 c1 c2 c3 sx sy s' sv W' :=
  ⟨ht.below h.low k.zn.bs h.low.size, h.x.other ht k.zx, h.y.other ht k.zy, ha, h.v.other ht k.zv, ht.other h.f1 k.bz1.1, ht.other h.f2 k.bz1.2.1, ht.other h.f3 k.bz1.2.2⟩
theorem Four.tv (h : Four w X Y Z V b1 b2 b3 c1 c2 c3 sx sy sz sv W) (k : Sep w.heap.size X Y Z V b1 b2 b3) (ht : Turned V.bs W W') (ha : AtP W' V s') : Four w X Y Z V b1 b2 b3 c1 c2 c3 sx sy sz s' W' :=
  ⟨ht.below h.low k.vn.bs h.low.size, h.x.other ht k.vx, h.y.other ht k.vy, h.z.other ht k.vz, ha, ht.other h.f1 k.bv1.1, ht.other h.f2 k.bv1.2.1, ht.other h.f3 k.bv1.2.2⟩
theorem Turned.under {x : Pl} (ht : Turned x.bs W W') (hx : x.Above w.heap.size) (hb : Below w.heap.size w W) : Below w.heap.size w W' := ht.below hb hx.bs hb.size
end

section
variable {w W W' : World} {X Y Z V : Pl} {b1 b2 b3 : Nat} {c1 c2 c3 : Array Value} {sx sy sz sv s' : Pu}
theorem fx_has (h : Four w X Y Z V b1 b2 b3 c1 c2 c3 sx sy sz sv W) {k b : Int} (e1 : sx.hk = k) (e2 : sx.hb = b) : Calls Try.prog 19 #[X.v] W fun e w' => e = .returned (lim k b) ∧ Four w X Y Z V b1 b2 b3 c1 c2 c3 sx sy sz sv w' := by
  subst e1 e2
  exact (has_any h.x).mono fun e w' k => ⟨k.1, h.on k.2⟩
theorem fx_bound (h : Four w X Y Z V b1 b2 b3 c1 c2 c3 sx sy sz sv W) {k b : Int} (e1 : sx.bk = k) (e2 : sx.bb = b) : Calls Try.prog 20 #[X.v] W fun e w' => e = .returned (lim k b) ∧ Four w X Y Z V b1 b2 b3 c1 c2 c3 sx sy sz sv w' := by
  subst e1 e2
  exact (bound_any h.x).mono fun e w' k => ⟨k.1, h.on k.2⟩
theorem fx_open (h : Four w X Y Z V b1 b2 b3 c1 c2 c3 sx sy sz sv W) {k : Int} (e1 : (sx.tk.length : Int) = k) : Calls Try.prog 22 #[X.v] W fun e w' => e = .returned (.int .i64 k) ∧ Four w X Y Z V b1 b2 b3 c1 c2 c3 sx sy sz sv w' := by
  subst e1
  exact (open_any h.x).mono fun e w' k => ⟨k.1, by rw [k.2]; exact h⟩
theorem fy_has (h : Four w X Y Z V b1 b2 b3 c1 c2 c3 sx sy sz sv W) {k b : Int} (e1 : sy.hk = k) (e2 : sy.hb = b) : Calls Try.prog 19 #[Y.v] W fun e w' => e = .returned (lim k b) ∧ Four w X Y Z V b1 b2 b3 c1 c2 c3 sx sy sz sv w' := by
  subst e1 e2
  exact (has_any h.y).mono fun e w' k => ⟨k.1, h.on k.2⟩
theorem fy_bound (h : Four w X Y Z V b1 b2 b3 c1 c2 c3 sx sy sz sv W) {k b : Int} (e1 : sy.bk = k) (e2 : sy.bb = b) : Calls Try.prog 20 #[Y.v] W fun e w' => e = .returned (lim k b) ∧ Four w X Y Z V b1 b2 b3 c1 c2 c3 sx sy sz sv w' := by
  subst e1 e2
  exact (bound_any h.y).mono fun e w' k => ⟨k.1, h.on k.2⟩
theorem fy_open (h : Four w X Y Z V b1 b2 b3 c1 c2 c3 sx sy sz sv W) {k : Int} (e1 : (sy.tk.length : Int) = k) : Calls Try.prog 22 #[Y.v] W fun e w' => e = .returned (.int .i64 k) ∧ Four w X Y Z V b1 b2 b3 c1 c2 c3 sx sy sz sv w' := by
  subst e1
  exact (open_any h.y).mono fun e w' k => ⟨k.1, by rw [k.2]; exact h⟩
theorem fz_has (h : Four w X Y Z V b1 b2 b3 c1 c2 c3 sx sy sz sv W) {k b : Int} (e1 : sz.hk = k) (e2 : sz.hb = b) : Calls Try.prog 19 #[Z.v] W fun e w' => e = .returned (lim k b) ∧ Four w X Y Z V b1 b2 b3 c1 c2 c3 sx sy sz sv w' := by
  subst e1 e2
  exact (has_any h.z).mono fun e w' k => ⟨k.1, h.on k.2⟩
theorem fz_bound (h : Four w X Y Z V b1 b2 b3 c1 c2 c3 sx sy sz sv W) {k b : Int} (e1 : sz.bk = k) (e2 : sz.bb = b) : Calls Try.prog 20 #[Z.v] W fun e w' => e = .returned (lim k b) ∧ Four w X Y Z V b1 b2 b3 c1 c2 c3 sx sy sz sv w' := by
  subst e1 e2
  exact (bound_any h.z).mono fun e w' k => ⟨k.1, h.on k.2⟩
theorem fz_open (h : Four w X Y Z V b1 b2 b3 c1 c2 c3 sx sy sz sv W) {k : Int} (e1 : (sz.tk.length : Int) = k) : Calls Try.prog 22 #[Z.v] W fun e w' => e = .returned (.int .i64 k) ∧ Four w X Y Z V b1 b2 b3 c1 c2 c3 sx sy sz sv w' := by
  subst e1
  exact (open_any h.z).mono fun e w' k => ⟨k.1, by rw [k.2]; exact h⟩
theorem fv_has (h : Four w X Y Z V b1 b2 b3 c1 c2 c3 sx sy sz sv W) {k b : Int} (e1 : sv.hk = k) (e2 : sv.hb = b) : Calls Try.prog 19 #[V.v] W fun e w' => e = .returned (lim k b) ∧ Four w X Y Z V b1 b2 b3 c1 c2 c3 sx sy sz sv w' := by
  subst e1 e2
  exact (has_any h.v).mono fun e w' k => ⟨k.1, h.on k.2⟩
theorem fv_bound (h : Four w X Y Z V b1 b2 b3 c1 c2 c3 sx sy sz sv W) {k b : Int} (e1 : sv.bk = k) (e2 : sv.bb = b) : Calls Try.prog 20 #[V.v] W fun e w' => e = .returned (lim k b) ∧ Four w X Y Z V b1 b2 b3 c1 c2 c3 sx sy sz sv w' := by
  subst e1 e2
  exact (bound_any h.v).mono fun e w' k => ⟨k.1, h.on k.2⟩
theorem fv_open (h : Four w X Y Z V b1 b2 b3 c1 c2 c3 sx sy sz sv W) {k : Int} (e1 : (sv.tk.length : Int) = k) : Calls Try.prog 22 #[V.v] W fun e w' => e = .returned (.int .i64 k) ∧ Four w X Y Z V b1 b2 b3 c1 c2 c3 sx sy sz sv w' := by
  subst e1
  exact (open_any h.v).mono fun e w' k => ⟨k.1, by rw [k.2]; exact h⟩
end

theorem copyP {W : World} {x : Pl} {s : Pu} (h : AtP W x s) :
    Calls Try.prog 13 #[x.v] W fun e w' => ∃ y : Pl, y.Above W.heap.size ∧ e = .returned y.v ∧ Below W.heap.size W w' ∧ AtP w' y s :=
  (copy_any h).mono fun _ _ ⟨p', a', m', h1, h2, h3, h4, h5, h6⟩ => ⟨⟨p', a', m'⟩, ⟨h1, h2, h3⟩, h4, h5, h6⟩
end Go.Proofs.Ytpnddccanelcnaa
