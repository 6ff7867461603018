/- Ranges over an iterator that looks at a state which its caller keeps. -/
import Derived.Test.YtfffifmpfkkgbaaSeqOwn
import Derived.Shelf.Abstract
namespace Go.Proofs.Ytfffifmpfkkgbaa
open Go.RowKit Go.Shelf
def SeqSt {α : Type} (F : Fence) (n : Nat) (P : Program) (g : Nat) (lb : Array Value) (encs : α → Array Value) (Kp : World → World → Prop) (S Sp G : List α → Prop) (St : List α → World → Prop) (w : World) : Prop :=
  ∀ (l : Nat) (J Jx : List α → World → Prop) (W : World), Below w.heap.size w W → w.heap.size + 2 ≤ W.heap.size → OwnFrom W.heap.size J → OwnFrom W.heap.size Jx → (∀ pre W1, J pre W1 → St pre W1) →
    (∀ pre x W1, G (pre ++ [x]) → J pre W1 → YieldAt F (n - 1) P l (encs x) W1 fun e W' =>
      Kp W1 W' ∧ ((e = .returned (.bool true) ∧ J (pre ++ [x]) W') ∨ (e = .returned (.bool false) ∧ Jx (pre ++ [x]) W'))) →
    J [] W →
    CallsIn F n P g (#[.func (.yield l) #[] #[]] ++ lb) W fun e W' => (∃ v, e = .returned v) ∧ ((∃ xs, S xs ∧ J xs W') ∨ (∃ pre, Sp pre ∧ Jx pre W'))

section
variable {F : Fence} {n : Nat} {P : Program}
theorem range_st {α : Type} {g : Operand} {ps : Array Tmp} {assign body : Code} {Q : Exit → Act → World → Prop} {a : Act} {w : World}
    (hro : F.round = none) (h1 : 1 ≤ n) {gf : Nat} {lb : Array Value} (hg : a.eval g = .func (.func gf) #[] lb) (hFg : F.fn gf) (eg : ∀ args w, (callFunc gf args).run P w = .ok (.enter gf args) w)
    {encs : α → Array Value} {Kp : World → World → Prop} {S Sp G : List α → Prop} {St : List α → World → Prop} {w0 : World} (hseq : SeqSt F (n - 1) P gf lb encs Kp S Sp G St w0)
    (hKt : ∀ {A B C : World}, Kp A B → Kp B C → Kp A C) (hKb : ∀ (W : World) (o' : Obj), w.heap.size + 1 < W.heap.size → Kp W (W.putObj (w.heap.size + 1) o')) (hb0 : Below w0.heap.size w0 w) (hps : ∀ x, (encs x).size = ps.size)
    (I : List α → World → Prop) (Ix : Code → List α → World → Prop) (hI : OwnFrom w.heap.size I) (hIx : ∀ c, OwnFrom w.heap.size (Ix c)) (h0 : I [] w) (hSt : ∀ pre W, I pre W → St pre W) (Ax : α → Act → World → Prop) (hAx : ∀ x a', OwnFrom w.heap.size (fun (_ : Unit) W => Ax x a' W))
    (assignment : ∀ (l : Nat) (pre : List α) (x : α) (W : World) (K : Act → World → Prop), G (pre ++ [x]) → I pre W → (∀ a' W', KeepsFrom w.heap.size W W' → Kp W W' → I pre W' → Ax x a' W' → K a' W') →
      assign.wpIn (F.inRound l) (n - 1 - 1) P (Exit.then K (fun _ _ _ => False)) { tmps := (ps.zip (encs x)).foldl (fun t (p, v) => t.setIfInBounds p v) a.tmps, defers := [] } W)
    (round : ∀ (l : Nat) (pre : List α) (x : α) (a' : Act) (W : World), G (pre ++ [x]) → I pre W → Ax x a' W → w.heap.size + 2 ≤ W.heap.size → body.wpIn (F.inRound l) (n - 1 - 1) P (fun e _ W' => roundEnd w.heap.size Kp I Ix (pre ++ [x]) W e W') a' W)
    (done : ∀ (D : Nat) (xs : List α) (W : World), w.heap.size ≤ D → S xs → I xs W → W.heap[D]? = some (.deferred (some [])) → Q .normal { a with defers := { target := .collected D, args := #[] } :: a.defers } W)
    (stop : ∀ (D : Nat) (c : Code) (pre : List α) (W : World), w.heap.size ≤ D → Sp pre → Ix c pre W → W.heap[D]? = some (.deferred (some [])) → c.wpIn F n P Q { a with defers := { target := .collected D, args := #[] } :: a.defers } W) :
    (Code.rangeFunc g ps assign body).wpIn F n P Q a w := by
  refine wpIn_rangeFunc fun fn hfn => ?_
  rw [hro]
  obtain ⟨mk, hmk⟩ : ∃ mk : LoopState → Option Code → Loop, mk = fun st pe => { state := st, pending := pe, fn, tmps := a.tmps, params := ps, assign, body, defers := w.heap.size } := ⟨_, rfl⟩
  have mkparams : ∀ st pe, (mk st pe).params = ps := fun _ _ => by rw [hmk]
  have mkturn : ∀ st pe st' pe', ({ mk st pe with state := st', pending := pe' } : Loop) = mk st' pe' := fun _ _ _ _ => by rw [hmk]
  have mkstate : ∀ st pe, (mk st pe).state = st := fun _ _ => by rw [hmk]
  have mkpend : ∀ st pe, (mk st pe).pending = pe := fun _ _ => by rw [hmk]
  have mkbody : ∀ st pe, (mk st pe).body = body := fun _ _ => by rw [hmk]
  have mkasg : ∀ st pe, (mk st pe).assign = assign := fun _ _ => by rw [hmk]
  have mktmps : ∀ st pe, (mk st pe).tmps = a.tmps := fun _ _ => by rw [hmk]
  have mkfn : ∀ st pe, (mk st pe).fn = fn := fun _ _ => by rw [hmk]
  obtain ⟨W1, hW1⟩ : ∃ W1, (w.alloc (.deferred (some []))).alloc (.loop (mk .ready none)) = W1 := ⟨_, rfl⟩
  have hs1 : W1.heap.size = w.heap.size + 2 := by rw [← hW1]; simp
  have hB1 : Book (w.heap.size + 1) w.heap.size (mk .ready none) W1 := by
    rw [← hW1]
    refine ⟨?_, (Below.heap_alloc _ _ _ (by simp)).trans (World.alloc_heap_new w _)⟩
    have := World.alloc_heap_new (w.alloc (.deferred (some []))) (.loop (mk .ready none))
    rwa [World.size_alloc] at this
  have hI1 : I [] W1 := by rw [← hW1]; exact hI.alloc _ (hI.alloc _ h0)
  have hb1 : Below w0.heap.size w0 W1 := by
    rw [← hW1]; exact hb0.trans ((((Below.refl _ w).alloc (Nat.le_refl _) _).alloc (by simp) _).mono hb0.size)
  refine ⟨w.heap.size + 1, [{ target := .collected w.heap.size, args := #[] }], W1, { target := .fn (.func gf) lb, args := #[.func (.yield (w.heap.size + 1)) #[] #[]] }, W1, gf,
    #[.func (.yield (w.heap.size + 1)) #[] #[]] ++ lb, W1, ?_, ?_, ?_, ?_, fun _ => h1, ?_⟩
  · rw [← hW1, hmk]; exact run_enterLoop_outer _ _ _ _ _
  · simp only [resolve, hg]
    simp [go_sem]
  · intro f' hf'; simp [Target.leads] at hf'; subst hf'; exact hFg
  · simp [invoke, go_sem, eg]
  refine (hseq (w.heap.size + 1)
      (fun pre W => I pre W ∧ Book (w.heap.size + 1) w.heap.size (mk .ready none) W)
      (fun pre W => ∃ c, Ix c pre W ∧ Book (w.heap.size + 1) w.heap.size (mk .done (some c)) W)
      W1 hb1 (by have := hb0.size; omega) ?_ ?_ (fun pre W h => hSt pre W h.1) ?_ ⟨hI1, hB1⟩).mono ?_
  · rintro s A B row ⟨h2, h3⟩ hg' hr
    exact ⟨hI s A B row h2 hg' (fun r e => ⟨by have := (hr r e).1; omega, (hr r e).2⟩), h3.grown hg' (fun r e => (hr r e).1) (by omega) (by omega)⟩
  · rintro s A B row ⟨c, h2, h3⟩ hg' hr
    exact ⟨c, hIx c s A B row h2 hg' (fun r e => ⟨by have := (hr r e).1; omega, (hr r e).2⟩), h3.grown hg' (fun r e => (hr r e).1) (by omega) (by omega)⟩
  · rintro pre x W0 hG ⟨hi, hk⟩
    have hy := run_yield (P := P) (args := encs x) hk.lp (by rw [mkparams]; exact hps x)
    rw [mkparams, mkbody, mkasg, mktmps, mkfn] at hy
    refine ⟨fn, _, assign, body, hy, roundIn_of_wpIn hfn (assignment _ pre x W0 _ hG hi ?_)⟩
    intro a' W kf kp hi hax
    have hk := hk.kept kf (by omega) (Nat.le_refl _)
    have hlt : w.heap.size + 1 < W.heap.size := (Array.getElem?_eq_some_iff.1 hk.lp).1
    refine ⟨_, run_beginRound hk.lp (mkstate _ _), ?_⟩
    have hk2 := hk.turn (by omega) { mk .ready none with state := .busy }
    refine wpIn_mono (round (w.heap.size + 1) pre x a' _ hG (hI.putObj _ hi (by omega) hk.lp rfl) ((hAx x a').putObj (s := ()) _ hax (by omega) hk.lp rfl) (by simp; omega)) ?_
    rintro e a3 W3 ⟨p1, p2, p3⟩
    have hk3 := hk2.kept p1 (by omega) (Nat.le_refl _)
    have fin : ∀ jump : Option Code, ∃ st, st = (if jump.isNone then LoopState.ready else .done) ∧ (Instr.endRound (w.heap.size + 1) jump).run P W3 = .ok (.bool jump.isNone) (W3.putObj (w.heap.size + 1) (.loop (mk st jump))) ∧
        Book (w.heap.size + 1) w.heap.size (mk st jump) (W3.putObj (w.heap.size + 1) (.loop (mk st jump))) ∧ Kp W0 (W3.putObj (w.heap.size + 1) (.loop (mk st jump))) := fun jump => by
      refine ⟨_, rfl, ?_, hk3.turn (by omega) _, ?_⟩
      · have := run_endRound (P := P) jump hk3.lp
        rw [show ({ ({ mk .ready none with state := .busy } : Loop) with state := if jump.isNone then .ready else .done, pending := jump } : Loop) = mk (if jump.isNone then .ready else .done) jump from mkturn _ _ _ _] at this
        exact this
      · exact hKt (hKt kp (hKt (hKb W _ hlt) p2)) (hKb _ _ (Array.getElem?_eq_some_iff.1 hk3.lp).1)
    have leave : ∀ c, Ix c (pre ++ [x]) W3 → ∃ v w', (Instr.endRound (w.heap.size + 1) (some c)).run P W3 = .ok v w' ∧ Kp W0 w' ∧
        ((Ending.returned v = .returned (.bool true) ∧ I (pre ++ [x]) w' ∧ Book (w.heap.size + 1) w.heap.size (mk .ready none) w') ∨ (Ending.returned v = .returned (.bool false) ∧ ∃ c, Ix c (pre ++ [x]) w' ∧ Book (w.heap.size + 1) w.heap.size (mk .done (some c)) w')) := fun c hc => by
      obtain ⟨st, rfl, hr, hbk, hkp⟩ := fin (some c)
      exact ⟨_, _, hr, hkp, .inr ⟨rfl, c, (hIx c).putObj _ hc (by omega) hk3.lp rfl, hbk⟩⟩
    cases e with
    | normal =>
      obtain ⟨st, rfl, hr, hbk, hkp⟩ := fin none
      exact ⟨_, _, hr, hkp, .inl ⟨rfl, hI.putObj _ p3 (by omega) hk3.lp rfl, hbk⟩⟩
    | ret => exact leave .ret p3
    | exit id => exact leave (.exit id) p3
    | goto t => exact leave (.goto t) p3
    | panic ch => exact p3.elim
    | outgrown => exact p3.elim
  · rintro e W2 ⟨⟨v, rfl⟩, (⟨xs, hS, hi, hk⟩ | ⟨pre, hSp, c, hi, hk⟩)⟩
    · exact ⟨none, _, by have := run_endLoop (P := P) hk.lp (by rw [mkstate]; simp); rw [mkpend] at this; exact this,
        done _ xs _ (Nat.le_refl _) hS (hI.putObj _ hi (by omega) hk.lp rfl) ((World.putObj_heap_other (by omega)).trans hk.dfr)⟩
    · exact ⟨some c, _, by have := run_endLoop (P := P) hk.lp (by rw [mkstate]; simp); rw [mkpend] at this; exact this,
        stop _ c pre _ (Nat.le_refl _) hSp ((hIx c).putObj _ hi (by omega) hk.lp rfl) ((World.putObj_heap_other (by omega)).trans hk.dfr)⟩

end
end Go.Proofs.Ytfffifmpfkkgbaa
