/- A range over an iterator in which a round, or the iterator itself, may panic: the panic passes on to the caller's own deferred calls. -/
import Derived.Test.YtfffifmpfkkgbaaSeqOwn
import Derived.Recover
import Derived.RecoverIn
namespace Go.Proofs.Ytfffifmpfkkgbaa
open Go.RowKit

/-- The fence of the functions that exist. -/
def Exi (P : Program) : Fence := { fn := fun f => (P.funcs[f]?).isSome = true, depth := none, alive := false }
theorem exi_fn {P : Program} {f : FuncId} (h : (Exi P).fn f) : ∃ fn, P.funcs[f]? = some fn := Option.isSome_iff_exists.1 h
theorem exi_room (P : Program) (n : Nat) : (Exi P).room n := fun _ h => by simp [Exi] at h
theorem calls_of_exi {n : Nat} {P : Program} {f : FuncId} {args : Array Value} {w : World} {R : Ending → World → Prop} (h : CallsIn (Exi P) n P f args w R) : Calls P f args w R := fun cs => by
  obtain ⟨e, w', fr, r, s, x⟩ := h.2 cs (exi_room P _)
  exact ⟨e, w', fr, r, s.comes, x⟩

variable {F : Fence} {n : Nat} {P : Program}

/-- What is asked at a round's end where a panic may leave it. -/
def roundPostP (P : Program) (l : Nat) (R : Ending → World → Prop) : Exit → Act → World → Prop
  | .panic chain, a, w => a.defers = [] ∧ R (.panicked chain) w
  | .normal, a, w => roundPost P l R .normal a w
  | .ret, a, w => roundPost P l R .ret a w
  | .exit id, a, w => roundPost P l R (.exit id) a w
  | .goto t, a, w => roundPost P l R (.goto t) a w
  | .outgrown, _, _ => False

theorem roundIn_panics {l : Nat} {f : FuncId} {tmps : Array Value} {assign body : Code} {w : World} {R : Ending → World → Prop} (hF : F.fn f) (hf : ∃ fn, P.funcs[f]? = some fn)
    (h : assign.wpIn (F.inRound l) n P (Exit.then (fun a₁ w₁ => ∃ w₂, (Instr.beginRound l).run P w₁ = .ok () w₂ ∧ body.wpIn (F.inRound l) n P (roundPostP P l R) a₁ w₂) (fun _ _ _ => False))
      { tmps := tmps, defers := [] } w) : RoundIn F n P l f tmps assign body w R := by
  refine ⟨hF, fun c cs hr => ?_⟩
  obtain ⟨fn, hfn⟩ := hf
  obtain ⟨b, hb⟩ : ∃ b : Frame, b = { (default : Frame) with fn := f, kind := .normal, roundOf := some l } := ⟨_, rfl⟩
  have bo : b.roundOf = some l := by rw [hb]
  have bk : b.kind = .normal := by rw [hb]
  have bf : b.fn = f := by rw [hb]
  have start : Frame.round l f tmps assign body .normal = b.atR { tmps := tmps, defers := [] } [.code assign, .beginRound, .code body] := by
    rw [hb]; simp [Frame.round, Frame.atR]
  have hr' : (F.inRound l).room ((c :: cs).length + 1 + n) := hr
  have hF' : (F.inRound l).fn b.fn := by rw [bf]; exact hF
  obtain ⟨e, a₁, w₁, hq, harr⟩ := h b [.beginRound, .code body] (c :: cs) bo hF' hr'
  rw [← start] at harr
  have en : e = .normal := by
    cases e with
    | normal => rfl
    | exit id => exact hq.elim
    | goto t => exact hq.elim
    | ret => exact hq.elim
    | panic chain => exact hq.elim
    | outgrown => exact hq.elim
  subst en
  obtain ⟨w₂, hbr, hbody⟩ := hq
  have s1 : StepsIn (Machine.fenced P (F.inRound l)) P (lone (b.atR a₁ [.beginRound, .code body]) (c :: cs) w₁) (lone (b.atR a₁ [.code body]) (c :: cs) w₂) :=
    .one (fenced_calm (fr := b.atR a₁ [.beginRound, .code body]) hF' hr' rfl) (stepR_beginRound bo hbr)
  have s0 := StepsIn.trans harr s1
  obtain ⟨e₂, a₂, w₃, hq₂, harr₂⟩ := hbody b [] (c :: cs) bo hF' hr'
  cases e₂ with
  | normal =>
    obtain ⟨v, w₄, hend, hR⟩ := hq₂
    exact ⟨.returned v, w₄, hR, s0.trans (StepsIn.trans harr₂ (.one (fenced_calm (fr := b.atR a₂ []) hF' hr' rfl) (stepR_round_end bo bk hend)))⟩
  | ret =>
    obtain ⟨v, w₄, hend, hR⟩ := hq₂
    obtain ⟨k₁, hs⟩ := harr₂.2 (by rw [bo]; rfl)
    exact ⟨.returned v, w₄, hR, s0.trans (StepsIn.trans hs (.one (fenced_calm (fr := b.atR a₂ (.code .ret :: k₁)) hF' hr' rfl) (stepR_round_ret bo bk hend)))⟩
  | exit id =>
    obtain ⟨v, w₄, hend, hR⟩ := hq₂
    obtain ⟨k₁, hk, hs⟩ := harr₂.2 (by rw [bo]; rfl) rfl
    exact ⟨.returned v, w₄, hR, s0.trans (StepsIn.trans hs (.one (fenced_calm (fr := b.atR a₂ (.code (.exit id) :: k₁)) hF' hr' rfl) (stepR_round_exit bo bk hk hend)))⟩
  | goto t =>
    obtain ⟨v, w₄, hend, hR⟩ := hq₂
    obtain ⟨k₁, hk, hs⟩ := harr₂.2 (by rw [bo]; rfl) rfl
    exact ⟨.returned v, w₄, hR, s0.trans (StepsIn.trans hs (.one (fenced_calm (fr := b.atR a₂ (.code (.goto t) :: k₁)) hF' hr' rfl) (stepR_round_goto bo bk hk hend)))⟩
  | panic chain =>
    obtain ⟨hd, hR⟩ := hq₂
    obtain ⟨todo, hs⟩ := harr₂
    have hl : ({ b.atR a₂ todo with mode := .panicking chain } : Frame).leaving P w₃ (.panicked chain) := ⟨rfl, hd, fn, by rw [← bf] at hfn; exact hfn⟩
    exact ⟨.panicked chain, w₃, hR, s0.trans (StepsIn.trans hs (.one (fenced_leaving (F := F.inRound l) hF' hr' hl) (step_leave_panicked hl)))⟩
  | outgrown => exact hq₂.elim

/-- What an iterator gives to a range over it where a round may panic, or the iterator itself (Po: with what, behind which rounds). -/
def SeqPan {α : Type} (F : Fence) (n : Nat) (P : Program) (g : Nat) (lb : Array Value) (encs : α → Array Value) (Kp O : World → World → Prop) (S : List α → World → Prop) (Sp G : List α → Prop) (Po : List PanicEntry → List α → Prop) (w : World) : Prop :=
  ∀ (l : Nat) (J Jx : List α → World → Prop) (Jp : List PanicEntry → List α → World → Prop) (W : World), Below w.heap.size w W → w.heap.size + 2 ≤ W.heap.size → OwnFrom W.heap.size J → OwnFrom W.heap.size Jx → (∀ c, OwnFrom W.heap.size (Jp c)) → (∀ pre X Y, J pre X → O X Y → J pre Y) →
    (∀ pre x W1, G (pre ++ [x]) → J pre W1 → YieldAt F (n - 1) P l (encs x) W1 fun e W' =>
      Kp W1 W' ∧ ((e = .returned (.bool true) ∧ J (pre ++ [x]) W') ∨ (e = .returned (.bool false) ∧ Jx (pre ++ [x]) W') ∨ (∃ c, e = .panicked c ∧ Jp c (pre ++ [x]) W'))) →
    J [] W →
    CallsIn F n P g (#[.func (.yield l) #[] #[]] ++ lb) W fun e W' =>
      ((∃ v, e = .returned v) ∧ ((∃ xs, S xs W' ∧ J xs W') ∨ (∃ pre, Sp pre ∧ Jx pre W'))) ∨ (∃ c, e = .panicked c ∧ ((∃ pre, Po c pre ∧ J pre W') ∨ (∃ pre, Jp c pre W')))

/-- How the body of a round may be left, a panic among the ways. -/
def roundEndP {α : Type} (B : Nat) (Kp : World → World → Prop) (I : List α → World → Prop) (Ix : Code → List α → World → Prop) (Ip : List PanicEntry → List α → World → Prop) (xs : List α) (W : World) (e : Exit) (a : Act) (W' : World) : Prop :=
  KeepsFrom B W W' ∧ Kp W W' ∧ (match e with
    | .normal => I xs W'
    | .ret => Ix .ret xs W'
    | .exit id => Ix (.exit id) xs W'
    | .goto t => Ix (.goto t) xs W'
    | .panic c => a.defers = [] ∧ Ip c xs W'
    | .outgrown => False)

theorem range_pan {α : Type} {g : Operand} {ps : Array Tmp} {assign body : Code} {Q : Exit → Act → World → Prop} {a : Act} {w : World}
    (hro : F.round = none) (h1 : 1 ≤ n) (hex : ∀ f, F.fn f → ∃ fn, P.funcs[f]? = some fn) {gf : Nat} {lb : Array Value} (hg : a.eval g = .func (.func gf) #[] lb) (hFg : F.fn gf) (eg : ∀ args w, (callFunc gf args).run P w = .ok (.enter gf args) w)
    {encs : α → Array Value} {Kp O : World → World → Prop} {S : List α → World → Prop} {Sp G : List α → Prop} {Po : List PanicEntry → List α → Prop} {w0 : World} (hseq : SeqPan F (n - 1) P gf lb encs Kp O S Sp G Po w0)
    (hO : ∀ X Y : World, O X Y → ∀ k, w.heap.size ≤ k → k < X.heap.size → Y.heap[k]? = X.heap[k]?) (hS : OwnFrom w.heap.size S)
    (hKt : ∀ {A B C : World}, Kp A B → Kp B C → Kp A C) (hKb : ∀ (W : World) (o' : Obj), w.heap.size + 1 < W.heap.size → Kp W (W.putObj (w.heap.size + 1) o')) (hb0 : Below w0.heap.size w0 w) (hps : ∀ x, (encs x).size = ps.size)
    (I : List α → World → Prop) (Ix : Code → List α → World → Prop) (Ip : List PanicEntry → List α → World → Prop) (hI : OwnFrom w.heap.size I) (hIx : ∀ c, OwnFrom w.heap.size (Ix c)) (hIp : ∀ c, OwnFrom w.heap.size (Ip c)) (hIO : ∀ pre X Y, I pre X → O X Y → I pre Y) (h0 : I [] w) (a₁ : α → Act)
    (assignment : ∀ (l : Nat) (x : α) (W : World) (K : Act → World → Prop), K (a₁ x) W →
      assign.wpIn (F.inRound l) (n - 1 - 1) P (Exit.then K (fun _ _ _ => False)) { tmps := (ps.zip (encs x)).foldl (fun t (p, v) => t.setIfInBounds p v) a.tmps, defers := [] } W)
    (round : ∀ (l : Nat) (pre : List α) (x : α) (W : World), G (pre ++ [x]) → I pre W → w.heap.size + 2 ≤ W.heap.size → body.wpIn (F.inRound l) (n - 1 - 1) P (fun e a' W' => roundEndP w.heap.size Kp I Ix Ip (pre ++ [x]) W e a' W') (a₁ x) W)
    (done : ∀ (D : Nat) (xs : List α) (W : World), w.heap.size ≤ D → S xs W → I xs W → W.heap[D]? = some (.deferred (some [])) → Q .normal { a with defers := { target := .collected D, args := #[] } :: a.defers } W)
    (stop : ∀ (D : Nat) (c : Code) (pre : List α) (W : World), w.heap.size ≤ D → Sp pre → Ix c pre W → W.heap[D]? = some (.deferred (some [])) → c.wpIn F n P Q { a with defers := { target := .collected D, args := #[] } :: a.defers } W)
    (own : ∀ (D : Nat) (c : List PanicEntry) (pre : List α) (W : World), w.heap.size ≤ D → Po c pre → I pre W → W.heap[D]? = some (.deferred (some [])) → Q (.panic c) { a with defers := { target := .collected D, args := #[] } :: a.defers } W)
    (inner : ∀ (D : Nat) (c : List PanicEntry) (pre : List α) (W : World), w.heap.size ≤ D → Ip c pre W → W.heap[D]? = some (.deferred (some [])) → Q (.panic c) { a with defers := { target := .collected D, args := #[] } :: a.defers } W) :
    (Code.rangeFunc g ps assign body).wpIn F n P Q a w := by
  refine wpIn_rangeFunc fun fn hfn => ?_
  rw [hro]
  obtain ⟨mk, hmk⟩ : ∃ mk : LoopState → Option Code → Loop, mk = fun st pe => { state := st, pending := pe, fn, tmps := a.tmps, params := ps, assign, body, defers := w.heap.size } := ⟨_, rfl⟩
  have mkparams : ∀ st pe, (mk st pe).params = ps := fun _ _ => by rw [hmk]
  have mkturn : ∀ st pe st' pe', ({ mk st pe with state := st', pending := pe' } : Loop) = mk st' pe' := fun _ _ _ _ => by rw [hmk]
  have mkstate : ∀ st pe, (mk st pe).state = st := fun _ _ => by rw [hmk]
  have mkpend : ∀ st pe, (mk st pe).pending = pe := fun _ _ => by rw [hmk]
  have mkbody : ∀ st pe, (mk st pe).body = body := fun _ _ => by rw [hmk]
  have mkasg : ∀ st pe, (mk st pe).assign = assign := fun _ _ => by rw [hmk]
  have mktmps : ∀ st pe, (mk st pe).tmps = a.tmps := fun _ _ => by rw [hmk]
  have mkfn : ∀ st pe, (mk st pe).fn = fn := fun _ _ => by rw [hmk]
  obtain ⟨W1, hW1⟩ : ∃ W1, (w.alloc (.deferred (some []))).alloc (.loop (mk .ready none)) = W1 := ⟨_, rfl⟩
  have hs1 : W1.heap.size = w.heap.size + 2 := by rw [← hW1]; simp
  have hB1 : Book (w.heap.size + 1) w.heap.size (mk .ready none) W1 := by
    rw [← hW1]
    refine ⟨?_, (Below.heap_alloc _ _ _ (by simp)).trans (World.alloc_heap_new w _)⟩
    have := World.alloc_heap_new (w.alloc (.deferred (some []))) (.loop (mk .ready none))
    rwa [World.size_alloc] at this
  have hI1 : I [] W1 := by rw [← hW1]; exact hI.alloc _ (hI.alloc _ h0)
  have hb1 : Below w0.heap.size w0 W1 := by
    rw [← hW1]; exact hb0.trans ((((Below.refl _ w).alloc (Nat.le_refl _) _).alloc (by simp) _).mono hb0.size)
  refine ⟨w.heap.size + 1, [{ target := .collected w.heap.size, args := #[] }], W1, { target := .fn (.func gf) lb, args := #[.func (.yield (w.heap.size + 1)) #[] #[]] }, W1, gf,
    #[.func (.yield (w.heap.size + 1)) #[] #[]] ++ lb, W1, ?_, ?_, ?_, ?_, fun _ => h1, ?_⟩
  · rw [← hW1, hmk]; exact run_enterLoop_outer _ _ _ _ _
  · simp only [resolve, hg]
    simp [go_sem]
  · intro f' hf'; simp [Target.leads] at hf'; subst hf'; exact hFg
  · simp [invoke, go_sem, eg]
  refine (hseq (w.heap.size + 1)
      (fun pre W => I pre W ∧ Book (w.heap.size + 1) w.heap.size (mk .ready none) W)
      (fun pre W => ∃ c, Ix c pre W ∧ Book (w.heap.size + 1) w.heap.size (mk .done (some c)) W)
      (fun c pre W => Ip c pre W ∧ ∃ r, Book (w.heap.size + 1) w.heap.size r W)
      W1 hb1 (by have := hb0.size; omega) ?_ ?_ ?_ ?_ ?_ ⟨hI1, hB1⟩).mono ?_
  · rintro s A B row ⟨h2, h3⟩ hg' hr
    exact ⟨hI s A B row h2 hg' (fun r e => ⟨by have := (hr r e).1; omega, (hr r e).2⟩), h3.grown hg' (fun r e => (hr r e).1) (by omega) (by omega)⟩
  · rintro s A B row ⟨c, h2, h3⟩ hg' hr
    exact ⟨c, hIx c s A B row h2 hg' (fun r e => ⟨by have := (hr r e).1; omega, (hr r e).2⟩), h3.grown hg' (fun r e => (hr r e).1) (by omega) (by omega)⟩
  · rintro c s A B row ⟨h2, r, h3⟩ hg' hr
    exact ⟨hIp c s A B row h2 hg' (fun r e => ⟨by have := (hr r e).1; omega, (hr r e).2⟩), r, h3.grown hg' (fun r e => (hr r e).1) (by omega) (by omega)⟩
  · rintro pre X Y ⟨h2, h3⟩ h4
    have hx := (Array.getElem?_eq_some_iff.1 h3.lp).1
    have hx2 := (Array.getElem?_eq_some_iff.1 h3.dfr).1
    exact ⟨hIO pre X Y h2 h4, (hO X Y h4 _ (by omega) hx).trans h3.lp, (hO X Y h4 _ (Nat.le_refl _) hx2).trans h3.dfr⟩
  · rintro pre x W hG ⟨hi, hk⟩
    have hy := run_yield (P := P) (args := encs x) hk.lp (by rw [mkparams]; exact hps x)
    rw [mkparams, mkbody, mkasg, mktmps, mkfn] at hy
    have hlt : w.heap.size + 1 < W.heap.size := (Array.getElem?_eq_some_iff.1 hk.lp).1
    refine ⟨fn, _, assign, body, hy, roundIn_panics hfn (hex fn hfn) (assignment _ x W _ ⟨_, run_beginRound hk.lp (mkstate _ _), ?_⟩)⟩
    have hk2 := hk.turn (by omega) { mk .ready none with state := .busy }
    refine wpIn_mono (round (w.heap.size + 1) pre x _ hG (hI.putObj _ hi (by omega) hk.lp rfl) (by simp; omega)) ?_
    rintro e a3 W3 ⟨p1, p2, p3⟩
    have hk3 := hk2.kept p1 (by omega) (Nat.le_refl _)
    have kp3 : Kp W W3 := hKt (hKb W _ hlt) p2
    have fin : ∀ jump : Option Code, ∃ st, st = (if jump.isNone then LoopState.ready else .done) ∧ (Instr.endRound (w.heap.size + 1) jump).run P W3 = .ok (.bool jump.isNone) (W3.putObj (w.heap.size + 1) (.loop (mk st jump))) ∧
        Book (w.heap.size + 1) w.heap.size (mk st jump) (W3.putObj (w.heap.size + 1) (.loop (mk st jump))) ∧ Kp W (W3.putObj (w.heap.size + 1) (.loop (mk st jump))) := fun jump => by
      refine ⟨_, rfl, ?_, hk3.turn (by omega) _, ?_⟩
      · have := run_endRound (P := P) jump hk3.lp
        rw [show ({ ({ mk .ready none with state := .busy } : Loop) with state := if jump.isNone then .ready else .done, pending := jump } : Loop) = mk (if jump.isNone then .ready else .done) jump from mkturn _ _ _ _] at this
        exact this
      · exact hKt kp3 (hKb _ _ (Array.getElem?_eq_some_iff.1 hk3.lp).1)
    have leave : ∀ c, Ix c (pre ++ [x]) W3 → ∃ v w', (Instr.endRound (w.heap.size + 1) (some c)).run P W3 = .ok v w' ∧ Kp W w' ∧
        ((Ending.returned v = .returned (.bool true) ∧ I (pre ++ [x]) w' ∧ Book (w.heap.size + 1) w.heap.size (mk .ready none) w') ∨ (Ending.returned v = .returned (.bool false) ∧ ∃ c, Ix c (pre ++ [x]) w' ∧ Book (w.heap.size + 1) w.heap.size (mk .done (some c)) w') ∨
          (∃ c, Ending.returned v = .panicked c ∧ Ip c (pre ++ [x]) w' ∧ ∃ r, Book (w.heap.size + 1) w.heap.size r w')) := fun c hc => by
      obtain ⟨st, rfl, hr, hbk, hkp⟩ := fin (some c)
      exact ⟨_, _, hr, hkp, .inr (.inl ⟨rfl, c, (hIx c).putObj _ hc (by omega) hk3.lp rfl, hbk⟩)⟩
    cases e with
    | normal =>
      obtain ⟨st, rfl, hr, hbk, hkp⟩ := fin none
      exact ⟨_, _, hr, hkp, .inl ⟨rfl, hI.putObj _ p3 (by omega) hk3.lp rfl, hbk⟩⟩
    | ret => exact leave .ret p3
    | exit id => exact leave (.exit id) p3
    | goto t => exact leave (.goto t) p3
    | panic ch => exact ⟨p3.1, kp3, .inr (.inr ⟨ch, rfl, p3.2, _, hk3⟩)⟩
    | outgrown => exact p3.elim
  · rintro e W2 (⟨⟨v, rfl⟩, (⟨xs, hSx, hi, hk⟩ | ⟨pre, hSp, c, hi, hk⟩)⟩ | ⟨c, rfl, (⟨pre, hPo, hi, hk⟩ | ⟨pre, hi, r, hk⟩)⟩)
    · exact ⟨none, _, by have := run_endLoop (P := P) hk.lp (by rw [mkstate]; simp); rw [mkpend] at this; exact this,
        done _ xs _ (Nat.le_refl _) (hS.putObj _ hSx (by omega) hk.lp rfl) (hI.putObj _ hi (by omega) hk.lp rfl) ((World.putObj_heap_other (by omega)).trans hk.dfr)⟩
    · exact ⟨some c, _, by have := run_endLoop (P := P) hk.lp (by rw [mkstate]; simp); rw [mkpend] at this; exact this,
        stop _ c pre _ (Nat.le_refl _) hSp ((hIx c).putObj _ hi (by omega) hk.lp rfl) ((World.putObj_heap_other (by omega)).trans hk.dfr)⟩
    · exact own _ c pre _ (Nat.le_refl _) hPo hi hk.dfr
    · exact inner _ c pre _ (Nat.le_refl _) hi hk.dfr
end Go.Proofs.Ytfffifmpfkkgbaa
