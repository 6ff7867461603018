/- A region that draws its order, inside a fence, walked in one order: pure operations first; loads among themselves; nothing else beside a load. -/
import Derived.Test.YtfffifmpfkkgbaaKit
import Derived.OrdersIn
import Derived.TacticsIn
import Derived.Stop.Looks
namespace Go.Proofs.Ytfffifmpfkkgbaa
open Go.RowKit

section
variable {F : Fence} {n : Nat} {P : Program} {ops : Array Oper} {Q : Exit → Act → World → Prop}

def isRead (o : Oper) : Bool := match o.op with | .load .. => true | _ => false
theorem isRead_spec {o : Oper} (h : isRead o = true) : ∃ t a, o.op = .load t a := by
  unfold isRead at h
  split at h
  · exact ⟨_, _, ‹_›⟩
  · cases h
theorem isRead_about {o : Oper} (h : isRead o = true) (w : World) (ρ : Operand → Value) : o.about P w ρ = none := by
  obtain ⟨t, a, e⟩ := isRead_spec h
  unfold Oper.about
  rw [e]
theorem isRead_looks {o : Oper} (h : isRead o = true) (ρ : Operand → Value) : ∃ s : Sem Value, s.Looks ∧ execOp ρ o = (do pure (.value (← s)) : Sem Next) := by
  obtain ⟨t, a, e⟩ := isRead_spec h
  refine ⟨Instr.loadAt t (ρ a), ?_, by unfold execOp; rw [e]⟩
  unfold Instr.loadAt
  refine Sem.Looks.bind ?_ (fun ad => ?_)
  · unfold Instr.sureAddr
    split <;> trivial
  · unfold loadVar
    refine Sem.Looks.bind ?_ (fun b => ?_)
    · unfold isAgg
      refine (underlying_looks _).bind fun _ => ?_
      split <;> trivial
    · cases b
      · exact load_looks _ _
      · exact (sizeOf_looks _).bind fun _ => (loadCells_looks _ _).bind fun _ => trivial

/-- A load at a world: what it yields. -/
def ReadsAt (P : Program) (ops : Array Oper) (o : Oper) (v : Value) (a : Act) (w : World) : Prop :=
  (Region.wanted o (yielded ops a.tmps) = true ∧ (execOp a.eval o).run P w = .ok (.value v) w) ∨ (Region.wanted o (yielded ops a.tmps) = false ∧ v = undef)
theorem ReadsAt.of_same {o : Oper} {v : Value} {a a' : Act} {w : World} (hy : ReadsAt P ops o v a w) (he : execOp a'.eval o = execOp a.eval o)
    (hw : Region.wanted o (yielded ops a'.tmps) = Region.wanted o (yielded ops a.tmps)) : ReadsAt P ops o v a' w := by
  unfold ReadsAt at *
  rw [he, hw]
  exact hy
theorem ReadsAt.wpOpIn {i : Nat} {o : Oper} {v : Value} {a : Act} {w : World} (hro : F.round = none) (hi : ops[i]? = some o) (hr : isRead o = true) (hy : ReadsAt P ops o v a w)
    {K : Act → World → Prop} (h : K (a.put o.dst v) w) : Go.wpOpIn F n P ops Q i K a w := by
  unfold Go.wpOpIn
  simp only [hi]
  have hab : ∀ f, o.about P w a.eval = some f → F.fn f := fun f hf => by rw [isRead_about hr] at hf; cases hf
  rcases hy with ⟨hw, hv⟩ | ⟨hw, rfl⟩
  · simp only [hw, if_true, Oper.wpIn, hro, Oper.semAt_none, hv, Oper.uponIn]; exact ⟨hab, h⟩
  · simp only [hw, Bool.false_eq_true, if_false]; exact ⟨hab, h⟩
theorem readsAt_of {i : Nat} {o : Oper} {a : Act} {w : World} (hro : F.round = none) (hi : ops[i]? = some o) (hr : isRead o = true) (hQ : ∀ c a w, ¬ Q (.panic c) a w)
    {K : Act → World → Prop} (h : Go.wpOpIn F n P ops Q i K a w) : ∃ v, ReadsAt P ops o v a w ∧ K (a.put o.dst v) w := by
  unfold Go.wpOpIn at h
  simp only [hi] at h
  split at h
  · rename_i hw
    obtain ⟨s, hs, he⟩ := isRead_looks hr a.eval
    unfold Oper.wpIn at h
    have h2 := h.2
    rw [hro, Oper.semAt_none, he] at h2
    have hrun : ∀ r, s.run P w = r → (do pure (.value (← s)) : Sem Next).run P w = match r with | .ok v w' => .ok (.value v) w' | .halt x w' => .halt x w' := by
      rintro r rfl
      show (Sem.bind s (fun v => (pure (Next.value v) : Sem Next))).run P w = _
      rw [Sem.run_bind']
      cases s.run P w <;> rfl
    cases hsr : s.run P w with
    | ok v w' =>
      have hw' : w' = w := hs.ok hsr
      subst hw'
      rw [hrun _ hsr] at h2
      exact ⟨v, .inl ⟨hw, by rw [he, hrun _ hsr]⟩, h2⟩
    | halt x w' =>
      rw [hrun _ hsr] at h2
      cases x <;> simp only [Oper.uponIn] at h2
      exact absurd h2 (hQ _ _ _)
  · rename_i hw
    exact ⟨undef, .inr ⟨by simpa using hw, rfl⟩, h.2⟩

def wpMix (F : Fence) (n : Nat) (P : Program) (ops : Array Oper) (Q : Exit → Act → World → Prop) (ps : List Nat) : List Nat → Act → World → Prop
  | [], a, w => Q .normal a w
  | i :: rest, a, w => match ops[i]? with
    | none => False
    | some o => if ps.contains i then ∃ v, YieldsFenced P ops o v a ∧ wpMix F n P ops Q ps rest (a.put o.dst v) w
                else wpOpIn F n P ops Q i (wpMix F n P ops Q ps rest) a w

theorem mix_pure {ps : List Nat} {i : Nat} {o : Oper} {v : Value} {rest : List Nat} {a : Act} {w : World} (hi : ops[i]? = some o) (hp : ps.contains i = true) (hy : YieldsFenced P ops o v a)
    (h : wpMix F n P ops Q ps rest (a.put o.dst v) w) : wpMix F n P ops Q ps (i :: rest) a w := by
  unfold wpMix
  simp only [hi, hp, if_true]
  exact ⟨v, hy, h⟩
theorem mix_step {ps : List Nat} {i : Nat} {o : Oper} {rest : List Nat} {a : Act} {w : World} (ho : ops[i]? = some o) (hp : ps.contains i = false)
    (h : ∀ K' : Act → World → Prop, (∀ a w, wpMix F n P ops Q ps rest a w → K' a w) → if Region.wanted o (yielded ops a.tmps) = true then Oper.wpIn F n P o a w K' Q else (∀ f, o.about P w a.eval = some f → F.fn f) ∧ K' (a.put o.dst undef) w) : wpMix F n P ops Q ps (i :: rest) a w := by
  unfold wpMix
  simp only [ho, hp]
  exact wpOpIn_step ho h
theorem mix_done {ps : List Nat} {a : Act} {w : World} (h : Q .normal a w) : wpMix F n P ops Q ps [] a w := h

/-- Which two neighbours may change places. -/
def mayPass (ops : Array Oper) (ps : List Nat) (j i : Nat) : Bool := match ops[j]?, ops[i]? with
  | some oj, some oi => oj.apart ops oi && oi.apart ops oj && (ps.contains j || (isRead oj && (ps.contains i || isRead oi)))
  | _, _ => false

theorem mix_swap {ps : List Nat} (hro : F.round = none) (hsel : ∀ (j : Nat) (o : Oper) cs b, ops[j]? = some o → o.op ≠ .select cs b) (hQ : ∀ c a w, ¬ Q (.panic c) a w)
    {i j : Nat} {rest : List Nat} {a : Act} {w : World} (hp : mayPass ops ps j i = true) (h : wpMix F n P ops Q ps (j :: i :: rest) a w) : wpMix F n P ops Q ps (i :: j :: rest) a w := by
  unfold mayPass at hp
  split at hp
  case h_2 => cases hp
  rename_i oj oi hj hi
  simp only [Bool.and_eq_true, Bool.or_eq_true] at hp
  obtain ⟨⟨hap, hap'⟩, hk⟩ := hp
  obtain ⟨h1, h2, h3⟩ := Oper.apart_spec hap
  have si := fun cs b => hsel i oi cs b hi
  have sj := fun cs b => hsel j oj cs b hj
  have wp_cons : ∀ (k : Nat) (o : Oper) (rest : List Nat) (a : Act) (w : World), ops[k]? = some o → (wpMix F n P ops Q ps (k :: rest) a w ↔ if ps.contains k then ∃ v, YieldsFenced P ops o v a ∧ wpMix F n P ops Q ps rest (a.put o.dst v) w else wpOpIn F n P ops Q k (wpMix F n P ops Q ps rest) a w) := by
    intro k o rest a w hk
    conv => lhs; unfold wpMix
    simp only [hk]
  have e1 := wp_cons j oj (i :: rest) a w hj
  rw [e1] at h
  cases pj : ps.contains j with
  | true =>
    rw [pj] at h
    simp only [if_true] at h
    obtain ⟨u, hu, h⟩ := h
    rw [wp_cons i oi rest _ w hi] at h
    rw [wp_cons i oi (j :: rest) a w hi]
    cases pi : ps.contains i with
    | true =>
      rw [pi] at h
      simp only [if_true] at h ⊢
      obtain ⟨v, hv, h⟩ := h
      have hv' : YieldsFenced P ops oi v a := hv.of_same (execOp_put oi si a oj.dst u h1).symm (wanted_put oi a oj.dst u h1).symm (fun w => (about_put oi w a oj.dst u h1).symm)
      refine ⟨v, hv', ?_⟩
      rw [wp_cons j oj rest _ w hj, pj]
      simp only [if_true]
      refine ⟨u, hu.of_same (execOp_put oj sj a oi.dst v h3) (wanted_put oj a oi.dst v h3) (fun w => about_put oj w a oi.dst v h3), ?_⟩
      rw [← Act.put_comm a u v h2]
      exact h
    | false =>
      rw [pi] at h
      simp only [Bool.false_eq_true, if_false] at h ⊢
      have := wpOpIn_put (oi := oj) (oj := oi) hro hi hap sj si (fun c a w hc => absurd hc (hQ _ _ _)) hu h
      refine wpOpIn_mono (fun a' w' h' => ?_) this
      rw [wp_cons j oj rest a' w' hj, pj]
      simp only [if_true]
      exact ⟨u, h'.1, h'.2⟩
  | false =>
    rw [pj] at h hk
    simp only [Bool.false_eq_true, if_false, false_or] at h hk
    obtain ⟨rj, hk⟩ := hk
    obtain ⟨u, hu, h⟩ := readsAt_of hro hj rj hQ h
    rw [wp_cons i oi rest _ w hi] at h
    rw [wp_cons i oi (j :: rest) a w hi]
    cases pi : ps.contains i with
    | true =>
      rw [pi] at h
      simp only [if_true] at h ⊢
      obtain ⟨v, hv, h⟩ := h
      refine ⟨v, hv.of_same (execOp_put oi si a oj.dst u h1).symm (wanted_put oi a oj.dst u h1).symm (fun w => (about_put oi w a oj.dst u h1).symm), ?_⟩
      rw [wp_cons j oj rest _ w hj, pj]
      simp only [Bool.false_eq_true, if_false]
      refine ReadsAt.wpOpIn hro hj rj (hu.of_same (execOp_put oj sj a oi.dst v h3) (wanted_put oj a oi.dst v h3)) ?_
      rw [← Act.put_comm a u v h2]
      exact h
    | false =>
      rw [pi] at h hk
      simp only [Bool.false_eq_true, if_false, false_or] at h hk ⊢
      obtain ⟨v, hv, h⟩ := readsAt_of hro hi hk hQ h
      refine ReadsAt.wpOpIn hro hi hk (hv.of_same (execOp_put oi si a oj.dst u h1).symm (wanted_put oi a oj.dst u h1).symm) ?_
      rw [wp_cons j oj rest _ w hj, pj]
      simp only [Bool.false_eq_true, if_false]
      refine ReadsAt.wpOpIn hro hj rj (hu.of_same (execOp_put oj sj a oi.dst v h3) (wanted_put oj a oi.dst v h3)) ?_
      rw [← Act.put_comm a u v h2]
      exact h

/-- One behind all those that it may pass comes up first. -/
theorem mix_front {ps : List Nat} (hro : F.round = none) (hsel : ∀ (j : Nat) (o : Oper) cs b, ops[j]? = some o → o.op ≠ .select cs b) (hQ : ∀ c a w, ¬ Q (.panic c) a w)
    {i : Nat} {post : List Nat} : ∀ (pre : List Nat) (a : Act) (w : World), (∀ j ∈ pre, mayPass ops ps j i = true) → wpMix F n P ops Q ps (pre ++ i :: post) a w → wpMix F n P ops Q ps (i :: (pre ++ post)) a w
  | [], a, w, _, h => h
  | j :: pre, a, w, hp, h => by
    refine mix_swap hro hsel hQ (hp j (by simp)) ?_
    have h : wpMix F n P ops Q ps (j :: (pre ++ i :: post)) a w := h
    have ih := fun a w => mix_front (post := post) hro hsel hQ pre a w (fun k hk => hp k (by simp [hk]))
    unfold wpMix at h ⊢
    split
    · rename_i hj
      simp only [hj] at h
    · rename_i oj hj
      simp only [hj] at h
      split
      · rename_i pj
        simp only [pj, if_true] at h
        obtain ⟨u, hu, h⟩ := h
        exact ⟨u, hu, ih _ _ h⟩
      · rename_i pj
        simp only [pj] at h
        exact wpOpIn_mono (fun a w h => ih a w h) h

/-- What an operation hangs on: checked. -/
def closOk (ops : Array Oper) (cl : List Nat) : Bool := (List.range ops.size).all fun i => (List.range ops.size).all fun j => !(cl.getD i 0).testBit j || (match ops[i]? with
  | none => false
  | some o => o.after.any fun e => Region.binds .any e && decide (e.on < i) && (e.on == j || (cl.getD e.on 0).testBit j))
def pairsOk (ops : Array Oper) (ps cl : List Nat) : List Nat → Bool
  | [] => true
  | j :: rest => (rest.all fun i => (cl.getD i 0).testBit j || mayPass ops ps j i) && pairsOk ops ps cl rest
/-- Each stands behind what it waits for. -/
def ordOk (ops : Array Oper) : List Nat → List Nat → Bool
  | _, [] => true
  | done, i :: rest => (match ops[i]? with
    | none => false
    | some o => o.after.all fun e => !Region.binds .any e || done.contains e.on) && !done.contains i && ordOk ops (i :: done) rest
def mixOk (ops : Array Oper) (ps cl ord : List Nat) : Bool :=
  Region.noSelect ops && closOk ops cl && pairsOk ops ps cl ord && ordOk ops [] ord && (List.range ops.size).all fun i => ord.contains i

/-- What is listed is closed. -/
def Down (ops : Array Oper) (listed : Array Bool) : Prop := ∀ (m : Nat) (o : Oper), ops[m]? = some o → listed.getD m false = true → ∀ e ∈ o.after, Region.binds .any e = true → listed.getD e.on false = true

theorem clos_listed {cl : List Nat} (hc : closOk ops cl = true) {listed : Array Bool} (hd : Down ops listed) : ∀ (i : Nat) (o : Oper), ops[i]? = some o → (∀ e ∈ o.after, Region.binds .any e = true → listed.getD e.on false = true) →
    ∀ j, j < ops.size → (cl.getD i 0).testBit j = true → listed.getD j false = true := by
  intro i
  induction i using Nat.strongRecOn with
  | ind i ih =>
    intro o ho hall j hj ht
    have hi : i < ops.size := (Array.getElem?_eq_some_iff.1 ho).1
    unfold closOk at hc
    have h := List.all_eq_true.1 (List.all_eq_true.1 hc i (List.mem_range.2 hi)) j (List.mem_range.2 hj)
    rw [ht, ho] at h
    simp only [Bool.not_true, Bool.false_or] at h
    obtain ⟨e, he, hb⟩ := Array.any_eq_true'.1 h
    simp only [Bool.and_eq_true, decide_eq_true_eq, Bool.or_eq_true, beq_iff_eq] at hb
    obtain ⟨⟨hbi, hlt⟩, hor⟩ := hb
    have hle := hall e he hbi
    rcases hor with rfl | ht2
    · exact hle
    · have hs : e.on < ops.size := by omega
      obtain ⟨o2, ho2⟩ : ∃ o2, ops[e.on]? = some o2 := ⟨ops[e.on], Array.getElem?_eq_getElem hs⟩
      exact ih e.on hlt o2 ho2 (hd e.on o2 ho2 hle) j hj ht2

theorem pairs_spec {ps cl : List Nat} : ∀ {ord pre post : List Nat} {i : Nat}, pairsOk ops ps cl ord = true → ord = pre ++ i :: post → ∀ j ∈ pre, (cl.getD i 0).testBit j = true ∨ mayPass ops ps j i = true
  | _, [], _, _, _, _, j, hj => by cases hj
  | _, k :: pre, post, i, h, rfl, j, hj => by
    have h : pairsOk ops ps cl (k :: (pre ++ i :: post)) = true := h
    unfold pairsOk at h
    rw [Bool.and_eq_true] at h
    rcases List.mem_cons.1 hj with rfl | hj
    · have := List.all_eq_true.1 h.1 i (by simp)
      simpa using this
    · exact pairs_spec h.2 rfl j hj

theorem getD_set_self {listed : Array Bool} {i : Nat} (h : listed.getD i true = false) (d : Bool) : (listed.setIfInBounds i true).getD i d = true := by
  rcases Nat.lt_or_ge i listed.size with h' | h'
  · simp [h']
  · simp [Array.getElem?_eq_none h'] at h

theorem ord_spec : ∀ {ord done : List Nat}, ordOk ops done ord = true → (∀ i ∈ ord, ∃ o, ops[i]? = some o) ∧ ord.Nodup ∧ (∀ i ∈ ord, i ∉ done) ∧
    ∀ (pre post : List Nat) (i : Nat), ord = pre ++ i :: post → ∀ o, ops[i]? = some o → ∀ e ∈ o.after, Region.binds .any e = true → e.on ∈ done ∨ e.on ∈ pre
  | [], done, _ => ⟨by simp, by simp, by simp, fun pre post i h => by simp at h⟩
  | k :: ord, done, h => by
    unfold ordOk at h
    simp only [Bool.and_eq_true, Bool.not_eq_true'] at h
    obtain ⟨⟨h1, h2⟩, h3⟩ := h
    obtain ⟨a, b, c, d⟩ := ord_spec h3
    split at h1
    · cases h1
    rename_i o ho
    refine ⟨?_, ?_, ?_, ?_⟩
    · intro i hi
      rcases List.mem_cons.1 hi with rfl | hi
      · exact ⟨o, ho⟩
      · exact a i hi
    · refine List.nodup_cons.2 ⟨fun hk => c k hk (by simp), b⟩
    · intro i hi
      rcases List.mem_cons.1 hi with rfl | hi
      · simpa using h2
      · exact fun hd => c i hi (by simp [hd])
    · intro pre post i hpre o' ho' e he hbi
      cases pre with
      | nil =>
        simp at hpre
        obtain ⟨rfl, _⟩ := hpre
        rw [ho] at ho'
        cases ho'
        have := (Array.all_eq_true_iff_forall_mem.1 h1) e he
        simp only [hbi, Bool.not_true, Bool.false_or] at this
        exact .inl (by simpa using this)
      | cons q pre =>
        simp at hpre
        obtain ⟨rfl, hpre⟩ := hpre
        rcases d pre post i hpre o' ho' e he hbi with h | h
        · rcases List.mem_cons.1 h with h | h
          · exact .inr (by simp [h])
          · exact .inl h
        · exact .inr (by simp [h])

theorem any_of_mix {ps cl ord : List Nat} (hro : F.round = none) (hQ : ∀ c a w, ¬ Q (.panic c) a w) (hm : mixOk ops ps cl ord = true) :
    ∀ (fuel : Nat) (listed : Array Bool) (a : Act) (w : World), Down ops listed → listed.size = ops.size → (ord.filter fun k => !listed.getD k true).length ≤ fuel →
      wpMix F n P ops Q ps (ord.filter fun k => !listed.getD k true) a w → wpAnyIn F n P .any ops Q fuel listed a w := by
  unfold mixOk at hm
  simp only [Bool.and_eq_true] at hm
  obtain ⟨⟨⟨⟨hs, hc⟩, hp⟩, ho⟩, hall⟩ := hm
  have hsel := Region.noSelect_spec hs
  obtain ⟨o1, o2, _, o4⟩ := ord_spec ho
  have hmem : ∀ i, i < ops.size → i ∈ ord := fun i hi => by simpa using List.all_eq_true.1 hall i (List.mem_range.2 hi)
  -- an operation that may come up is among those that are left; if none may, none is left
  have ready_rem : ∀ (listed : Array Bool) i, i ∈ Region.ready .any ops listed → i ∈ ord.filter fun k => !listed.getD k true := by
    intro listed i hi
    obtain ⟨h0, o, ho, _⟩ := mem_ready.1 hi
    exact List.mem_filter.2 ⟨hmem i (Array.getElem?_eq_some_iff.1 ho).1, by simp [h0]⟩
  have head_ready : ∀ (listed : Array Bool), listed.size = ops.size → ∀ i rest, (ord.filter fun k => !listed.getD k true) = i :: rest → i ∈ Region.ready .any ops listed := by
    intro listed hsz i rest hf
    obtain ⟨pre, post, e, hpre, hi, _⟩ := List.filter_eq_cons_iff.1 hf
    obtain ⟨o, ho⟩ := o1 i (by rw [e]; simp)
    refine mem_ready.2 ⟨by simpa using hi, o, ho, fun ed hed hb => ?_⟩
    rcases o4 pre post i e o ho ed hed hb with h | h
    · cases h
    · have h1 := hpre ed.on h
      obtain ⟨o2, ho2⟩ := o1 ed.on (by rw [e]; simp [h])
      have hlt : ed.on < listed.size := by rw [hsz]; exact (Array.getElem?_eq_some_iff.1 ho2).1
      simp [hlt] at h1 ⊢
      exact h1
  intro fuel
  induction fuel with
  | zero =>
    intro listed a w hd hsz hl h
    have hnil : (ord.filter fun k => !listed.getD k true) = [] := List.eq_nil_of_length_eq_zero (by omega)
    refine ⟨?_, by rw [hnil] at h; exact h⟩
    cases hr : Region.ready .any ops listed with
    | nil => rfl
    | cons i rest =>
      have := ready_rem listed i (by rw [hr]; simp)
      rw [hnil] at this
      cases this
  | succ fuel ih =>
    intro listed a w hd hsz hl h
    refine ⟨fun hr => ?_, fun i hi => ?_⟩
    · have hnil : (ord.filter fun k => !listed.getD k true) = [] := by
        cases hf : ord.filter fun k => !listed.getD k true with
        | nil => rfl
        | cons i rest =>
          have := head_ready listed hsz i rest hf
          rw [hr] at this
          cases this
      rw [hnil] at h
      exact h
    · obtain ⟨h0, o, ho', hdeps⟩ := mem_ready.1 hi
      have hir := ready_rem listed i hi
      obtain ⟨P1, P2, e⟩ := List.append_of_mem hir
      have hP : pairsOk ops ps cl ord = true := hp
      -- where i stands in the whole order
      have hsub : ∀ j ∈ P1, mayPass ops ps j i = true := by
        intro j hj
        obtain ⟨A, B, e1, eA, eB⟩ := List.filter_eq_append_iff.1 e
        have hjA : j ∈ A := by rw [← eA] at hj; exact (List.mem_filter.1 hj).1
        obtain ⟨B1, B2, eB1, hB1, hi2, eB2⟩ := List.filter_eq_cons_iff.1 eB
        have hj0 : listed.getD j true = false := by
          rw [← eA] at hj
          simpa using (List.mem_filter.1 hj).2
        have := pairs_spec (pre := A ++ B1) (post := B2) (i := i) hP (by rw [e1, eB1, List.append_assoc]) j (by simp [hjA])
        rcases this with ht | h
        · exfalso
          obtain ⟨oj, hoj⟩ := o1 j (by rw [e1]; simp [hjA])
          have hjs := (Array.getElem?_eq_some_iff.1 hoj).1
          have := clos_listed hc hd i o ho' hdeps j hjs ht
          have hlt : j < listed.size := by omega
          simp [hlt] at this hj0
          rw [this] at hj0
          cases hj0
        · exact h
      rw [e] at h
      have h := mix_front hro hsel hQ P1 a w hsub h
      -- what is left behind it
      have hrem : (ord.filter fun k => !(listed.setIfInBounds i true).getD k true) = P1 ++ P2 := by
        have hnd : (P1 ++ i :: P2).Nodup := by rw [← e]; exact o2.filter _
        have hn1 : i ∉ P1 := fun h => by
          have := List.nodup_append.1 hnd
          exact this.2.2 i h i (by simp) rfl
        have hn2 : i ∉ P2 := by
          have := (List.nodup_append.1 hnd).2.1
          exact (List.nodup_cons.1 this).1
        have : (ord.filter fun k => !(listed.setIfInBounds i true).getD k true) = (ord.filter fun k => !listed.getD k true).filter fun k => k != i := by
          rw [List.filter_filter]
          refine List.filter_congr fun k _ => ?_
          by_cases hk : i = k
          · subst hk
            rw [getD_set_self h0]
            simp
          · rw [getD_set_ne true hk]
            have : (k != i) = true := by simp; exact fun h => hk h.symm
            rw [this]
            simp
        rw [this, e, List.filter_append, List.filter_cons]
        have f1 : P1.filter (fun k => k != i) = P1 := List.filter_eq_self.2 fun k hk => by simp; rintro rfl; exact hn1 hk
        have f2 : P2.filter (fun k => k != i) = P2 := List.filter_eq_self.2 fun k hk => by simp; rintro rfl; exact hn2 hk
        rw [f1, f2]
        simp
      have hd' : Down ops (listed.setIfInBounds i true) := by
        intro m om hom hlm ed hed hb
        by_cases him : i = m
        · subst him
          rw [ho'] at hom
          cases hom
          exact getD_set_true (hdeps ed hed hb)
        · rw [getD_set_ne false him] at hlm
          exact getD_set_true (hd m om hom hlm ed hed hb)
      have hgo : ∀ a w, wpMix F n P ops Q ps (P1 ++ P2) a w → wpAnyIn F n P .any ops Q fuel (listed.setIfInBounds i true) a w := by
        intro a w h
        refine ih _ a w hd' (by simpa using hsz) ?_ (by rw [hrem]; exact h)
        rw [hrem]
        rw [e] at hl
        simp at hl ⊢
        omega
      unfold wpMix at h
      simp only [ho'] at h
      split at h
      · obtain ⟨v, hv, h⟩ := h
        exact hv.wpOpIn hro ho' (hgo _ _ h)
      · exact wpOpIn_mono hgo h

theorem nodup_lt : ∀ (n : Nat) (l : List Nat), l.Nodup → (∀ k ∈ l, k < n) → l.length ≤ n
  | 0, [], _, _ => Nat.le_refl _
  | 0, k :: l, _, h => absurd (h k (by simp)) (by omega)
  | n + 1, l, hn, h => by
    have := nodup_lt n (l.erase n) (hn.erase n) (fun k hk => by
      have h1 := (hn.mem_erase_iff).1 hk
      have := h k h1.2
      have := h1.1
      omega)
    rw [List.length_erase] at this
    split at this <;> omega
/-- THE LAW. -/
theorem mix_any (ps cl ord : List Nat) {a : Act} {w : World} (hro : F.round = none) (hQ : ∀ c a w, ¬ Q (.panic c) a w) (hm : mixOk ops ps cl ord = true)
    (h : wpMix F n P ops Q ps ord a w) : wpAnyIn F n P .any ops Q ops.size (Array.replicate ops.size false) a w := by
  have hun : ∀ k, (Array.replicate ops.size false).getD k true = true → ops.size ≤ k := by
    intro k hk
    rcases Nat.lt_or_ge k ops.size with h | h
    · simp [h] at hk
    · exact h
  have hm2 := hm
  unfold mixOk at hm2
  simp only [Bool.and_eq_true] at hm2
  obtain ⟨o1, o2, _, _⟩ := ord_spec hm2.1.2
  have hlt : ∀ k ∈ ord, k < ops.size := fun k hk => by
    obtain ⟨o, ho⟩ := o1 k hk
    exact (Array.getElem?_eq_some_iff.1 ho).1
  have hf : (ord.filter fun k => !(Array.replicate ops.size false).getD k true) = ord := by
    refine List.filter_eq_self.2 fun k hk => ?_
    have := hlt k hk
    simp [this]
  refine any_of_mix hro hQ hm _ _ a w ?_ (by simp) ?_ (by rw [hf]; exact h)
  · intro m o ho hl
    have := (Array.getElem?_eq_some_iff.1 ho).1
    simp [this] at hl
  · rw [hf]
    exact nodup_lt _ _ o2 hlt
/-- The same exits, but no panic. -/
def calmQ (Q : Exit → Act → World → Prop) : Exit → Act → World → Prop
  | .panic _, _, _ => False
  | e, a, w => Q e a w
theorem calmQ_out {Q : Exit → Act → World → Prop} : ∀ e a w, calmQ Q e a w → Q e a w
  | .panic _, _, _, h => h.elim
  | .normal, _, _, h => h
  | .ret, _, _, h => h
  | .exit _, _, _, h => h
  | .goto _, _, _, h => h
  | .outgrown, _, _, h => h
theorem mix_end {ps : List Nat} {a : Act} {w : World} (h : Q .normal a w) : wpMix F n P ops (calmQ Q) ps [] a w := h
theorem region_mix (ps cl ord : List Nat) {id : Nat} {a : Act} {w : World} (hmx : P.follows .mixedOrders = true) (hro : F.round = none) (hm : mixOk ops ps cl ord = true)
    (h : wpMix F n P ops (calmQ Q) ps ord a w.drew) : (Code.region id ops true).wpIn F n P Q a w :=
  wpIn_mono (wpIn_region_any hmx (mix_any ps cl ord hro (fun _ _ _ h => h) hm h)) calmQ_out
end

theorem oper_inRound {F : Fence} {n : Nat} {P : Program} {o : Oper} {a : Act} {w : World} {K : Act → World → Prop} {Q : Exit → Act → World → Prop} (l : Nat) (hro : F.round = none) (hd : ∀ c, o.op ≠ .defer c)
    (h : o.wpIn F n P a w K Q) : o.wpIn (F.inRound l) n P a w K Q := by
  unfold Oper.wpIn at *
  refine ⟨h.1, ?_⟩
  have h2 := h.2
  rw [hro, Oper.semAt_none] at h2
  rw [Fence.inRound_round, Oper.semAt_some l _ _ hd]
  generalize (execOp a.eval o).run P w = r at *
  cases r with
  | ok x w' => cases x <;> exact h2
  | halt x w' => cases x <;> exact h2

def noDefers (ops : Array Oper) : Bool := ops.all fun o => match o.op with | .defer _ => false | _ => true
theorem noDefers_at {ops : Array Oper} (h : noDefers ops = true) {i : Nat} {o : Oper} (ho : ops[i]? = some o) : ∀ c, o.op ≠ .defer c := by
  intro c e
  obtain ⟨hi, rfl⟩ := Array.getElem?_eq_some_iff.1 ho
  have := (Array.all_eq_true.1 h) i hi
  rw [e] at this
  cases this

theorem any_inRound {F : Fence} {n : Nat} {P : Program} {md : Region.Mode} {ops : Array Oper} {Q : Exit → Act → World → Prop} (l : Nat) (hro : F.round = none) (hd : noDefers ops = true) :
    ∀ (fuel : Nat) (listed : Array Bool) (a : Act) (w : World), wpAnyIn F n P md ops Q fuel listed a w → wpAnyIn (F.inRound l) n P md ops Q fuel listed a w
  | 0, _, _, _, h => h
  | fuel + 1, listed, a, w, h => by
    refine ⟨h.1, fun i hi => ?_⟩
    have h2 := h.2 i hi
    unfold wpOpIn at h2 ⊢
    split
    · rename_i ho
      simp only [ho] at h2
      exact any_inRound l hro hd fuel _ _ _ h2
    · rename_i o ho
      simp only [ho] at h2
      split
      · rename_i hw
        simp only [hw, if_true] at h2
        exact oper_inRound l hro (noDefers_at hd ho) (Oper.wpIn_mono (fun a w => any_inRound l hro hd fuel _ a w) h2)
      · rename_i hw
        simp only [hw] at h2
        exact ⟨h2.1, any_inRound l hro hd fuel _ _ _ h2.2⟩

theorem region_inRound {n : Nat} {P : Program} {id : Nat} {ops : Array Oper} {Q : Exit → Act → World → Prop} {a : Act} {w : World} (l : Nat) (hd : noDefers ops = true) (hm : P.follows .mixedOrders = true)
    (h : wpAnyIn Fence.wide n P .any ops Q ops.size (Array.replicate ops.size false) a w.drew) : (Code.region id ops true).wpIn (Fence.wide.inRound l) n P Q a w :=
  wpIn_region_any hm (any_inRound l rfl hd _ _ _ _ h)


/-- In a loop's round. -/
theorem region_mix_round {n : Nat} {P : Program} {ops : Array Oper} {Q : Exit → Act → World → Prop} (l : Nat) (ps cl ord : List Nat) {id : Nat} {a : Act} {w : World} (hmx : P.follows .mixedOrders = true) (hd : noDefers ops = true) (hm : mixOk ops ps cl ord = true)
    (h : wpMix Fence.wide n P ops (calmQ Q) ps ord a w.drew) : (Code.region id ops true).wpIn (Fence.wide.inRound l) n P Q a w :=
  wpIn_mono (region_inRound l hd hmx (mix_any ps cl ord rfl (fun _ _ _ h => h) hm h)) calmQ_out
end Go.Proofs.Ytfffifmpfkkgbaa
