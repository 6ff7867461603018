/- The reference model's list of tickets, and the open ones among them. -/
import Derived.Test.YtpnddccanelcnaaAct
namespace Go.Proofs.Ytpnddccanelcnaa
open Go.RowKit
set_option maxRecDepth 100000

structure Tq where
  k : Int
  b : Int
  o : Bool
structure Rp where
  gk : Int
  gb : Int
  hk : Int
  hb : Int
  l : List Tq
def tkOf : Int → List Tq → List Tk
  | _, [] => []
  | n, t :: l => (if t.o = true then [⟨n + 1, t.k, t.b⟩] else []) ++ tkOf (n + 1) l
theorem tkOf_snoc (t : Tq) : ∀ (l : List Tq) (n : Int), tkOf n (l ++ [t]) = tkOf n l ++ (if t.o = true then [⟨n + (l.length : Int) + 1, t.k, t.b⟩] else [])
  | [], n => by simp [tkOf]
  | x :: l, n => by
    rw [List.cons_append]
    unfold tkOf
    rw [tkOf_snoc t l (n + 1), List.append_assoc, show n + 1 + (l.length : Int) + 1 = n + ((x :: l).length : Int) + 1 from by simp only [List.length_cons]; omega]
theorem tkOf_ge : ∀ (l : List Tq) (n : Int) (t : Tk), t ∈ tkOf n l → n < t.n
  | [], _, _, h => by simp [tkOf] at h
  | x :: l, n, t, h => by
    unfold tkOf at h
    rcases List.mem_append.1 h with h | h
    · split at h
      · simp at h; subst h; show n < n + 1; omega
      · simp at h
    · have := tkOf_ge l (n + 1) t h; omega
def isO (l : List Tq) (j : Nat) : Bool := (l[j]?.map Tq.o).getD false
def setOff (l : List Tq) (j : Nat) : List Tq := l.modify j (fun t => { t with o := false })
theorem setOff_length (l : List Tq) (j : Nat) : (setOff l j).length = l.length := by unfold setOff; simp
theorem get_tkOf : ∀ (l : List Tq) (n : Int) (j : Nat), getT (tkOf n l) (n + (j : Int) + 1) = if isO l j = true then (l[j]?.map fun t => (⟨n + (j : Int) + 1, t.k, t.b⟩ : Tk)) else none
  | [], n, j => by simp [tkOf, getT, isO]
  | x :: l, n, 0 => by
    unfold tkOf getT isO
    rw [List.find?_append]
    cases hx : x.o with
    | true => simp [hx]
    | false =>
      simp [hx]
      intro t ht
      have := tkOf_ge l (n + 1) t ht
      omega
  | x :: l, n, j + 1 => by
    have ih := get_tkOf l (n + 1) j
    have e : n + 1 + (j : Int) + 1 = n + ((j + 1 : Nat) : Int) + 1 := by omega
    rw [e] at ih
    unfold tkOf
    rw [show isO (x :: l) (j + 1) = isO l j from rfl, show (x :: l)[j + 1]? = l[j]? from rfl, ← ih]
    unfold getT
    rw [List.find?_append]
    cases hx : x.o with
    | true =>
      have : ¬ n + 1 = n + ((j : Int) + 1) + 1 := by omega
      simp [this]
    | false => simp
theorem del_tkOf : ∀ (l : List Tq) (n : Int) (j : Nat), delT (tkOf n l) (n + (j : Int) + 1) = tkOf n (setOff l j)
  | [], n, j => by simp [tkOf, delT, setOff]
  | x :: l, n, 0 => by
    have e : setOff (x :: l) 0 = { x with o := false } :: l := by unfold setOff; simp
    rw [e]
    unfold tkOf delT
    rw [List.filter_append]
    have h2 : (tkOf (n + 1) l).filter (fun t => !t.n == n + ((0 : Nat) : Int) + 1) = tkOf (n + 1) l := List.filter_eq_self.2 (fun t ht => by
      have := tkOf_ge l (n + 1) t ht
      simp
      omega)
    rw [h2]
    cases hx : x.o <;> simp
  | x :: l, n, j + 1 => by
    have ih := del_tkOf l (n + 1) j
    have e : n + 1 + (j : Int) + 1 = n + ((j + 1 : Nat) : Int) + 1 := by omega
    rw [e] at ih
    have e2 : setOff (x :: l) (j + 1) = x :: setOff l j := by unfold setOff; simp
    rw [e2]
    unfold tkOf
    rw [← ih]
    unfold delT
    rw [List.filter_append]
    cases hx : x.o with
    | true =>
      have : ¬ n + 1 = n + ((j : Int) + 1) + 1 := by omega
      simp [this]
    | false => simp
theorem get_tkOf_out (l : List Tq) (x : Int) (h : x < 1 ∨ (l.length : Int) < x) : getT (tkOf 0 l) x = none := by
  by_cases hx : 1 ≤ x
  · have h1 := get_tkOf l 0 (x - 1).toNat
    rw [show (0 : Int) + ((x - 1).toNat : Int) + 1 = x from by omega] at h1
    rw [h1]
    have : isO l (x - 1).toNat = false := by
      unfold isO
      rw [List.getElem?_eq_none (by omega)]
      rfl
    rw [this]
    rfl
  · unfold getT
    rw [List.find?_eq_none]
    intro t ht
    have := tkOf_ge l 0 t ht
    simp
    omega

structure Rel (s : Pu) (r : Rp) : Prop where
  gk : r.gk = s.lk
  gb : r.gb = s.lb
  hk : r.hk = s.hk
  hb : r.hb = s.hb
  last : s.last = (r.l.length : Int)
  tk : s.tk = tkOf 0 r.l

def resR (r : Rp) (x y : Int) : Rp := { r with l := r.l ++ [⟨x, y, true⟩] }
def refR (r : Rp) (j : Nat) : Rp := { r with l := setOff r.l j }
def comR (r : Rp) (j : Nat) (k b : Int) : Rp := { r with hk := r.hk + k, hb := r.hb + b, l := setOff r.l j }
def takeR (r : Rp) (x y : Int) : Rp := { r with hk := r.hk + x, hb := r.hb + y }
def payR (r : Rp) (x y : Int) : Rp := { r with hk := r.hk - x, hb := r.hb - y }

theorem Rel.res {s : Pu} {r : Rp} (h : Rel s r) (x y : Int) : Rel (resP s x y) (resR r x y) := by
  refine ⟨h.gk, h.gb, h.hk, h.hb, ?_, ?_⟩
  · show s.last + 1 = ((r.l ++ [_]).length : Int)
    rw [h.last]; simp
  · show s.tk ++ [_] = tkOf 0 (r.l ++ [_])
    rw [tkOf_snoc, h.tk, h.last]
    simp
theorem Rel.ref {s : Pu} {r : Rp} (h : Rel s r) (j : Nat) (t : Tk) (ht : t.n = (j : Int) + 1) : Rel (refP s t) (refR r j) := by
  refine ⟨h.gk, h.gb, h.hk, h.hb, ?_, ?_⟩
  · show s.last = ((setOff r.l j).length : Int)
    rw [setOff_length, h.last]
  · show delT s.tk t.n = tkOf 0 (setOff r.l j)
    rw [h.tk, ht, ← del_tkOf]
    simp
theorem Rel.com {s : Pu} {r : Rp} (h : Rel s r) (j : Nat) (t : Tk) (ht : t.n = (j : Int) + 1) : Rel (comP s t) (comR r j t.k t.b) := by
  have h2 := h.ref j t ht
  exact ⟨h.gk, h.gb, by show r.hk + t.k = s.hk + t.k; rw [h.hk], by show r.hb + t.b = s.hb + t.b; rw [h.hb], h2.last, h2.tk⟩
theorem Rel.take {s : Pu} {r : Rp} (h : Rel s r) (x y : Int) (hf : fitB s x y = true) : Rel (takeIf s x y) (takeR r x y) := by
  unfold takeIf
  rw [if_pos hf]
  exact ⟨h.gk, h.gb, by show r.hk + x = s.hk + x; rw [h.hk], by show r.hb + y = s.hb + y; rw [h.hb], h.last, h.tk⟩
theorem Rel.pay {s : Pu} {r : Rp} (h : Rel s r) (x y : Int) (hf : payB s x y = true) : Rel (payIf s x y) (payR r x y) := by
  rw [payIf_yes hf]
  exact ⟨h.gk, h.gb, by show r.hk - x = s.hk - x; rw [h.hk], by show r.hb - y = s.hb - y; rw [h.hb], h.last, h.tk⟩

/-- The cells of a list of tickets. -/
def Tq.cells (t : Tq) : List Value := [.int .u64 t.k, .int .u64 t.b, .bool t.o]
def tcells (l : List Tq) : List Value := l.flatMap Tq.cells
theorem tcells_length (l : List Tq) : (tcells l).length = l.length * 3 := by
  induction l with
  | nil => rfl
  | cons t l ih => simp only [tcells, List.flatMap_cons, List.length_append, List.length_cons] at *; rw [ih]; simp only [Tq.cells, List.length_cons, List.length_nil]; omega
theorem tcells_snoc (l : List Tq) (t : Tq) : tcells (l ++ [t]) = tcells l ++ t.cells := by simp [tcells]
theorem tcells_at : ∀ (l : List Tq) (i : Nat) (t : Tq), l[i]? = some t → (tcells l)[i * 3]? = some (.int .u64 t.k) ∧ (tcells l)[i * 3 + 1]? = some (.int .u64 t.b) ∧ (tcells l)[i * 3 + 2]? = some (.bool t.o)
  | [], _, _, h => by simp at h
  | x :: l, 0, t, h => by simp at h; subst h; exact ⟨rfl, rfl, rfl⟩
  | x :: l, i + 1, t, h => by
    obtain ⟨a, b, c⟩ := tcells_at l i t (by simpa using h)
    refine ⟨?_, ?_, ?_⟩
    · rw [show (i + 1) * 3 = i * 3 + 3 from by omega]; exact a
    · rw [show (i + 1) * 3 + 1 = i * 3 + 1 + 3 from by omega]; exact b
    · rw [show (i + 1) * 3 + 2 = i * 3 + 2 + 3 from by omega]; exact c
theorem tcells_one (l : List Tq) : ∀ u ∈ tcells l, u.oneCell' = true := by
  intro u hu
  obtain ⟨t, _, h⟩ := List.mem_flatMap.1 hu
  simp [Tq.cells] at h
  rcases h with rfl | rfl | rfl <;> rfl
theorem tcells_off : ∀ (l : List Tq) (j : Nat), j < l.length → (tcells l).set (j * 3 + 2) (.bool false) = tcells (setOff l j)
  | [], _, h => by simp at h
  | x :: l, 0, _ => by
    have e : setOff (x :: l) 0 = { x with o := false } :: l := by unfold setOff; simp
    rw [e]
    rfl
  | x :: l, j + 1, h => by
    have ih := tcells_off l j (by simpa using h)
    have e2 : setOff (x :: l) (j + 1) = x :: setOff l j := by unfold setOff; simp
    rw [e2, show tcells (x :: setOff l j) = x.cells ++ tcells (setOff l j) from by simp [tcells], ← ih, show tcells (x :: l) = x.cells ++ tcells l from by simp [tcells], List.set_append_right _ _ (by simp [Tq.cells]; omega)]
    congr 2
    simp [Tq.cells]
    omega

/-- A prefix's open amounts. -/
def sK (l : List Tq) (i : Nat) : Int := sumK (tkOf 0 (l.take i))
def sB (l : List Tq) (i : Nat) : Int := sumB (tkOf 0 (l.take i))
theorem sums_at (l : List Tq) (i : Nat) (t : Tq) (h : l[i]? = some t) : sK l (i + 1) = sK l i + (if t.o = true then t.k else 0) ∧ sB l (i + 1) = sB l i + (if t.o = true then t.b else 0) := by
  have hi : i < l.length := (List.getElem?_eq_some_iff.1 h).1
  have e : l.take (i + 1) = l.take i ++ [t] := by
    rw [List.take_succ_eq_append_getElem hi]
    congr 2
    exact (List.getElem?_eq_some_iff.1 h).2
  unfold sK sB
  rw [e, tkOf_snoc]
  cases ht : t.o with
  | true => rw [if_pos rfl, if_pos rfl, if_pos rfl]; exact sums_snoc _ _
  | false => simp
def nO (l : List Tq) (i : Nat) : Int := ((tkOf 0 (l.take i)).length : Int)
theorem nO_at (l : List Tq) (i : Nat) (t : Tq) (h : l[i]? = some t) : nO l (i + 1) = nO l i + (if t.o = true then 1 else 0) := by
  have hi : i < l.length := (List.getElem?_eq_some_iff.1 h).1
  have e : l.take (i + 1) = l.take i ++ [t] := by
    rw [List.take_succ_eq_append_getElem hi]
    congr 2
    exact (List.getElem?_eq_some_iff.1 h).2
  unfold nO
  rw [e, tkOf_snoc]
  cases ht : t.o <;> simp
end Go.Proofs.Ytpnddccanelcnaa
