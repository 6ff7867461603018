/- An operation: what the model and the purse make of it, side by side. -/
import Derived.Test.YtpnddccanelcnaaRpR
namespace Go.Proofs.Ytpnddccanelcnaa
open Go.RowKit
set_option maxRecDepth 100000
set_option maxHeartbeats 4000000

theorem tkOf_append : ∀ (l k : List Tq) (n : Int), tkOf n (l ++ k) = tkOf n l ++ tkOf (n + (l.length : Int)) k
  | [], k, n => by simp [tkOf]
  | x :: l, k, n => by
    show (if x.o = true then [(⟨n + 1, x.k, x.b⟩ : Tk)] else []) ++ tkOf (n + 1) (l ++ k) = ((if x.o = true then [(⟨n + 1, x.k, x.b⟩ : Tk)] else []) ++ tkOf (n + 1) l) ++ tkOf (n + ((x :: l).length : Int)) k
    rw [tkOf_append l k (n + 1), List.append_assoc, show n + 1 + (l.length : Int) = n + ((x :: l).length : Int) from by simp only [List.length_cons]; omega]
theorem sums_append (l k : List Tk) : sumK (l ++ k) = sumK l + sumK k ∧ sumB (l ++ k) = sumB l + sumB k := by
  induction l with
  | nil => simp [sumK, sumB]
  | cons x l ih => rw [List.cons_append, sumK_cons, sumB_cons, sumK_cons, sumB_cons, ih.1, ih.2]; omega
theorem Rel.sums {s : Pu} {r : Rp} {N : Int} (h : Rel s r) (ho : s.Ok N) : r.hk + sK r.l r.l.length = s.bk ∧ r.hb + sB r.l r.l.length = s.bb := by
  unfold sK sB
  rw [List.take_length, ← h.tk, h.hk, h.hb, ho.sk, ho.sb]
  exact ⟨rfl, rfl⟩
theorem Rel.fit {s : Pu} {r : Rp} {N : Int} (h : Rel s r) (ho : s.Ok N) : r.Fit := by
  intro i hi
  have e : tkOf 0 r.l = tkOf 0 (r.l.take i) ++ tkOf (0 + ((r.l.take i).length : Int)) (r.l.drop i) := by rw [← tkOf_append, List.take_append_drop]
  have hv := ho.vals
  rw [h.tk, e] at hv
  have h1 := sums_nonneg _ (fun t ht => hv t (List.mem_append_left _ ht))
  have h2 := sums_nonneg _ (fun t ht => hv t (List.mem_append_right _ ht))
  have h3 := sums_append (tkOf 0 (r.l.take i)) (tkOf (0 + ((r.l.take i).length : Int)) (r.l.drop i))
  rw [← e, ← h.tk] at h3
  have h4 := ho.sk
  have h5 := ho.sb
  have h6 := ho.bk
  have h7 := ho.bb
  have h8 := ho.lk
  have h9 := ho.lb
  have hA := ho.hk
  have hB := ho.hb
  unfold sK sB U
  rw [h.hk, h.hb]
  omega
theorem Rel.fits {s : Pu} {r : Rp} {N : Int} (h : Rel s r) (ho : s.Ok N) (x y : Int) : (decide (x ≤ r.gk - (r.hk + sK r.l r.l.length)) && decide (y ≤ r.gb - (r.hb + sB r.l r.l.length))) = fitB s x y := by
  have := h.sums ho
  unfold fitB
  rw [this.1, this.2, h.gk, h.gb]
theorem Rel.pays {s : Pu} {r : Rp} (h : Rel s r) (x y : Int) : (decide (x ≤ r.hk) && decide (y ≤ r.hb)) = payB s x y := by
  unfold payB
  rw [h.hk, h.hb]
theorem Rel.tick {s : Pu} {r : Rp} (h : Rel s r) (n : Int) : (getT s.tk n = none ∧ (decide (1 ≤ n ∧ n ≤ (r.l.length : Int)) && isO r.l (n - 1).toNat) = false) ∨
    ∃ (j : Nat) (hj : j < r.l.length), n = (j : Int) + 1 ∧ isO r.l j = true ∧ getT s.tk n = some ⟨(j : Int) + 1, (r.l[j]).k, (r.l[j]).b⟩ := by
  rw [h.tk]
  by_cases hn : 1 ≤ n ∧ n ≤ (r.l.length : Int)
  · obtain ⟨j, hj, hjl⟩ : ∃ j : Nat, n = (j : Int) + 1 ∧ j < r.l.length := ⟨(n - 1).toNat, by omega, by omega⟩
    subst hj
    have hg := get_tkOf r.l 0 j
    rw [show (0 : Int) + (j : Int) + 1 = (j : Int) + 1 from by omega, List.getElem?_eq_getElem hjl] at hg
    cases ho : isO r.l j with
    | true =>
      rw [ho, if_pos rfl] at hg
      exact .inr ⟨j, hjl, rfl, ho, hg⟩
    | false =>
      rw [ho, if_neg (by decide)] at hg
      refine .inl ⟨hg, ?_⟩
      rw [decide_eq_true hn, show ((j : Int) + 1 - 1).toNat = j from by omega, ho]
      rfl
  · refine .inl ⟨get_tkOf_out r.l n (by omega), ?_⟩
    rw [decide_eq_false hn]
    rfl

def MP (w : World) (r : Rp) (c : Int) (e : Ending) (w' : World) : Prop := ∃ v, e = .returned (.tuple #[rv r v, .int .i64 c]) ∧ Below w.heap.size w w' ∧ Row w' 0 v r.l
def MP3 (w : World) (r : Rp) (n c : Int) (e : Ending) (w' : World) : Prop := ∃ v, e = .returned (.tuple #[rv r v, .int .i64 n, .int .i64 c]) ∧ Below w.heap.size w w' ∧ Row w' 0 v r.l
theorem RP2.mp {w : World} {r : Rp} {v : Value} {c : Int} (h : Row w 0 v r.l) : ∀ e w', RP2 w r v c e w' → MP w r c e w' := fun _ _ ⟨a, b⟩ => ⟨v, a, b, h.below b⟩
theorem RPF.mp {w : World} {r : Rp} {c : Int} : ∀ e w', RPF w r c e w' → MP w r c e w' := fun _ _ ⟨v, a, b, h⟩ => ⟨v, a, b, h.low (Nat.zero_le _)⟩

section
variable {s : Pu} {r : Rp} {N : Int}
theorem do_com (h : Rel s r) (ho : s.Ok N) (hn : r.l.length ≤ 999) (tk k b : Int) :
    ∃ r', Rel (opS s 2 tk k b).1 r' ∧ r'.l.length ≤ r.l.length + 1 ∧ (∀ W v, Row W 0 v r.l → Calls Try.prog 25 #[rv r v, .int .i64 tk] W (MP W r' (opS s 2 tk k b).2.2)) ∧
      ∀ W p a m, At W p a m s → Calls Try.prog 15 #[.pointer (some ⟨p, 0, none⟩), .int .i64 tk] W fun e w' => e = .returned (.int .i64 (opS s 2 tk k b).2.2) ∧ Turned [a, m] W w' ∧ At w' p a m (opS s 2 tk k b).1 := by
  have hr' : opS s 2 tk k b = match getT s.tk tk with | some t => (comP s t, 0, 0) | none => (s, 0, 5) := by unfold opS; rw [if_pos rfl]; try rfl
  rw [hr']
  rcases h.tick tk with ⟨h1, h2⟩ | ⟨j, hj, rfl, h1, h2⟩
  · rw [h1]
    exact ⟨r, h, by omega, fun W v hv => (rcom_no r v tk W hv (by omega) h2).mono (RP2.mp hv), fun W p a m hA => commit_no tk hA ho.uniq h1⟩
  · rw [h2]
    obtain ⟨q1, q2, q3, q4, q5⟩ := ho.tick h2
    dsimp only at q1 q2 q3 q4 q5
    have u1 := ho.sk
    have u2 := ho.bk
    have u3 := ho.lk.2
    have u4 := ho.sb
    have u5 := ho.bb
    have u6 := ho.lb.2
    have u7 := ho.hk
    have u8 := ho.hb
    refine ⟨comR r j (r.l[j]).k (r.l[j]).b, h.com j _ rfl, by show (setOff r.l j).length ≤ _; rw [setOff_length]; omega, fun W v hv => (rcom_yes r v j _ _ W hv (by omega) hj h1 rfl rfl ?_ ?_).mono RPF.mp, fun W p a m hA => commit_yes _ _ hA ho.uniq h2 ho.hk q2 (by dsimp only; omega) ho.hb q4 (by dsimp only; omega)⟩
    · rw [h.hk]; exact ⟨by omega, by omega⟩
    · rw [h.hb]; exact ⟨by omega, by omega⟩
theorem do_ref (h : Rel s r) (ho : s.Ok N) (hn : r.l.length ≤ 999) (tk k b : Int) :
    ∃ r', Rel (opS s 3 tk k b).1 r' ∧ r'.l.length ≤ r.l.length + 1 ∧ (∀ W v, Row W 0 v r.l → Calls Try.prog 26 #[rv r v, .int .i64 tk] W (MP W r' (opS s 3 tk k b).2.2)) ∧
      ∀ W p a m, At W p a m s → Calls Try.prog 16 #[.pointer (some ⟨p, 0, none⟩), .int .i64 tk] W fun e w' => e = .returned (.int .i64 (opS s 3 tk k b).2.2) ∧ Turned [a, m] W w' ∧ At w' p a m (opS s 3 tk k b).1 := by
  have hr' : opS s 3 tk k b = match getT s.tk tk with | some t => (refP s t, 0, 0) | none => (s, 0, 5) := by unfold opS; rw [if_neg (by decide), if_pos rfl]; try rfl
  rw [hr']
  rcases h.tick tk with ⟨h1, h2⟩ | ⟨j, hj, rfl, h1, h2⟩
  · rw [h1]
    exact ⟨r, h, by omega, fun W v hv => (rref_no r v tk W hv (by omega) h2).mono (RP2.mp hv), fun W p a m hA => refund_no tk hA ho.uniq h1⟩
  · rw [h2]
    obtain ⟨q1, q2, q3, q4, q5⟩ := ho.tick h2
    dsimp only at q1 q2 q3 q4 q5
    refine ⟨refR r j, h.ref j _ rfl, by show (setOff r.l j).length ≤ _; rw [setOff_length]; omega, fun W v hv => (rref_yes r v j W hv (by omega) hj h1).mono RPF.mp, fun W p a m hA => refund_yes _ _ hA ho.uniq h2 q2 (by dsimp only; have := ho.sk; have := ho.hk; omega) (by have := ho.bk; have := ho.lk.2; omega) q4 (by dsimp only; have := ho.sb; have := ho.hb; omega) (by have := ho.bb; have := ho.lb.2; omega)⟩
theorem do_take (h : Rel s r) (ho : s.Ok N) (hn : r.l.length ≤ 999) (tk k b : Int) (hk : U k) (hb : U b) :
    ∃ r', Rel (opS s 4 tk k b).1 r' ∧ r'.l.length ≤ r.l.length + 1 ∧ (∀ W v, Row W 0 v r.l → Calls Try.prog 27 #[rv r v, .int .u64 k, .int .u64 b] W (MP W r' (opS s 4 tk k b).2.2)) ∧
      ∀ W p a m, At W p a m s → Calls Try.prog 17 #[.pointer (some ⟨p, 0, none⟩), .int .u64 k, .int .u64 b] W fun e w' => e = .returned (.int .i64 (opS s 4 tk k b).2.2) ∧ Turned [a, m] W w' ∧ At w' p a m (opS s 4 tk k b).1 := by
  have hr' : opS s 4 tk k b = (takeIf s k b, 0, codeOf (fitB s k b)) := by unfold opS; simp
  rw [hr']
  have hS := h.sums ho
  have hF := h.fit ho
  have c1 : r.hk + sK r.l r.l.length ≤ r.gk := by rw [hS.1, h.gk]; exact ho.bk
  have c2 : r.hb + sB r.l r.l.length ≤ r.gb := by rw [hS.2, h.gb]; exact ho.bb
  have c3 : U r.gk := by rw [h.gk]; exact ho.lk
  have c4 : U r.gb := by rw [h.gb]; exact ho.lb
  have hw := h.fits ho k b
  cases hf : fitB s k b with
  | false =>
    have e : takeIf s k b = s := by unfold takeIf; rw [if_neg (by rw [hf]; decide)]
    rw [hf] at hw
    have hp := fun W p a m (hA : At W p a m s) => ptake_any k b hA ho.fit hk hb
    rw [hf, e] at hp
    show ∃ r', Rel (takeIf s k b) r' ∧ _
    rw [e]
    exact ⟨r, h, by omega, fun W v hv => (rtake_no r v k b W hv (by omega) hF c1 c2 c3 c4 hw).mono (RP2.mp hv), hp⟩
  | true =>
    rw [hf] at hw
    have hp := fun W p a m (hA : At W p a m s) => ptake_any k b hA ho.fit hk hb
    rw [hf] at hp
    obtain ⟨f1, f2⟩ := fit_le hf
    have u1 := ho.sk
    have u3 := ho.lk.2
    have u4 := ho.sb
    have u6 := ho.lb.2
    have u7 := ho.hk
    have u8 := ho.hb
    have u9 := sums_nonneg s.tk ho.vals
    refine ⟨takeR r k b, h.take k b hf, by show r.l.length ≤ _; omega, fun W v hv => (rtake_yes r v k b W hv (by omega) hF c1 c2 c3 c4 ?_ ?_ hw).mono (RP2.mp (r := takeR r k b) hv), hp⟩
    · rw [h.hk]; exact ⟨by have := hk.1; omega, by omega⟩
    · rw [h.hb]; exact ⟨by have := hb.1; omega, by omega⟩
theorem do_pay (h : Rel s r) (ho : s.Ok N) (hn : r.l.length ≤ 999) (tk k b : Int) (hk : U k) (hb : U b) :
    ∃ r', Rel (opS s 5 tk k b).1 r' ∧ r'.l.length ≤ r.l.length + 1 ∧ (∀ W v, Row W 0 v r.l → Calls Try.prog 28 #[rv r v, .int .u64 k, .int .u64 b] W (MP W r' (opS s 5 tk k b).2.2)) ∧
      ∀ W p a m, At W p a m s → Calls Try.prog 18 #[.pointer (some ⟨p, 0, none⟩), .int .u64 k, .int .u64 b] W fun e w' => e = .returned (.int .i64 (opS s 5 tk k b).2.2) ∧ Turned [a, m] W w' ∧ At w' p a m (opS s 5 tk k b).1 := by
  have hr' : opS s 5 tk k b = (payIf s k b, 0, codeOf (payB s k b)) := by unfold opS; simp
  rw [hr']
  have hw := h.pays k b
  cases hf : payB s k b with
  | false =>
    have e : payIf s k b = s := payIf_no hf
    rw [hf] at hw
    have hp := fun W p a m (hA : At W p a m s) => ppay_any k b hA ho.fit hk hb
    rw [hf, e] at hp
    show ∃ r', Rel (payIf s k b) r' ∧ _
    rw [e]
    exact ⟨r, h, by omega, fun W v hv => (rpay_no r v k b W hv (by omega) hw).mono (RP2.mp hv), hp⟩
  | true =>
    rw [hf] at hw
    have hp := fun W p a m (hA : At W p a m s) => ppay_any k b hA ho.fit hk hb
    rw [hf] at hp
    have f : k ≤ s.hk ∧ b ≤ s.hb := by unfold payB at hf; simpa using hf
    have u1 := ho.sk
    have u2 := ho.bk
    have u3 := ho.lk.2
    have u4 := ho.sb
    have u5 := ho.bb
    have u6 := ho.lb.2
    have u9 := sums_nonneg s.tk ho.vals
    refine ⟨payR r k b, h.pay k b hf, by show r.l.length ≤ _; omega, fun W v hv => (rpay_yes r v k b W hv (by omega) ?_ ?_ hw).mono (RP2.mp (r := payR r k b) hv), hp⟩
    · rw [h.hk]; exact ⟨by omega, by have := hk.1; omega⟩
    · rw [h.hb]; exact ⟨by omega, by have := hb.1; omega⟩
theorem do_res (h : Rel s r) (ho : s.Ok N) (hN : N ≤ 1000000000) (hn : r.l.length ≤ 999) (x tk k b : Int) (hx : x = 0 ∨ x = 1) (hk : U k) (hb : U b) :
    ∃ r', Rel (opS s x tk k b).1 r' ∧ r'.l.length ≤ r.l.length + 1 ∧ (∀ W v, Row W 0 v r.l → Calls Try.prog 29 #[rv r v, .int .u64 k, .int .u64 b] W (MP3 W r' (opS s x tk k b).2.1 (opS s x tk k b).2.2)) ∧
      ∀ W p a m, At W p a m s → Calls Try.prog 14 #[.pointer (some ⟨p, 0, none⟩), .int .u64 k, .int .u64 b] W fun e w' => e = .returned (.tuple #[.int .i64 (opS s x tk k b).2.1, .int .i64 (opS s x tk k b).2.2]) ∧ Turned [a, m] W w' ∧ At w' p a m (opS s x tk k b).1 := by
  have hr' : opS s x tk k b = if fitB s k b = true then (resP s k b, s.last + 1, 0) else (s, 0, 10) := by
    unfold opS
    rw [if_neg (by omega), if_neg (by omega), if_neg (by omega), if_neg (by omega)]
  rw [hr']
  have hS := h.sums ho
  have hF := h.fit ho
  have c1 : r.hk + sK r.l r.l.length ≤ r.gk := by rw [hS.1, h.gk]; exact ho.bk
  have c2 : r.hb + sB r.l r.l.length ≤ r.gb := by rw [hS.2, h.gb]; exact ho.bb
  have c3 : U r.gk := by rw [h.gk]; exact ho.lk
  have c4 : U r.gb := by rw [h.gb]; exact ho.lb
  have hw := h.fits ho k b
  cases hf : fitB s k b with
  | false =>
    rw [hf] at hw
    rw [if_neg (by decide)]
    exact ⟨r, h, by omega, fun W v hv => (rres_no r v k b W hv (by omega) hF c1 c2 c3 c4 hw).mono fun _ _ q => ⟨v, q.1, q.2, hv.below q.2⟩, fun W p a m hA => preserve_no k b hA ho.fit hk hb hf⟩
  | true =>
    rw [hf] at hw
    rw [if_pos rfl]
    refine ⟨resR r k b, h.res k b, by show (r.l ++ [_]).length ≤ _; simp, fun W v hv => ?_, fun W p a m hA => preserve_yes k b hA ho.fit hk hb hf ho.uniq ho.next ho.last.1 (by have := ho.last.2; omega)⟩
    have hm := rres_yes r v k b W hv hn hF c1 c2 c3 c4 hw
    rw [← h.last] at hm
    exact hm.mono fun _ _ ⟨v', q1, q2, q3⟩ => ⟨v', q1, q2, q3.low (Nat.zero_le _)⟩
end
end Go.Proofs.Ytpnddccanelcnaa
