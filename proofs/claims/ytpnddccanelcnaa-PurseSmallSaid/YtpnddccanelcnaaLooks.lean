/- The law's look at both the purse and the model. -/
import Derived.Test.YtpnddccanelcnaaDoes
namespace Go.Proofs.Ytpnddccanelcnaa
open Go.RowKit Go.Sort
set_option maxRecDepth 100000
set_option maxHeartbeats 8000000

theorem does_any {W : World} {p a m : Nat} {s : Pu} {N : Int} {r : Rp} {v : Value} (c tk k b : Int) (h : At W p a m s) (ho : s.Ok N) (hN : N ≤ 1000000000) (hr : Rel s r) (hv : Row W 0 v r.l) (hn : r.l.length ≤ 999) (hk : U k) (hb : U b) :
    ∃ r', Rel (opS s (c % 6) tk k b).1 r' ∧ r'.l.length ≤ r.l.length + 1 ∧ Calls Try.prog 11 #[.pointer (some ⟨p, 0, none⟩), rv r v, deedV c tk k b] W (DP W p a m (opS s (c % 6) tk k b).1 r') := by
  have h0 := Int.emod_nonneg c (show (6 : Int) ≠ 0 by decide)
  have h1 := Int.emod_lt_of_pos c (show (0 : Int) < 6 by decide)
  rcases (show c % 6 = 2 ∨ c % 6 = 3 ∨ c % 6 = 4 ∨ c % 6 = 5 ∨ c % 6 = 0 ∨ c % 6 = 1 from by omega) with e | e | e | e | e | e
  · exact does_Commit c tk k b e h ho hN hr hv hn hk hb
  · exact does_Refund c tk k b e h ho hN hr hv hn hk hb
  · exact does_Take c tk k b e h ho hN hr hv hn hk hb
  · exact does_Pay c tk k b e h ho hN hr hv hn hk hb
  · exact does_Reserve c tk k b 0 (.inl rfl) e h ho hN hr hv hn hk hb
  · exact does_Reserve c tk k b 1 (.inr rfl) e h ho hN hr hv hn hk hb

theorem looks_any {W : World} {p a m : Nat} {s : Pu} {N : Int} {r : Rp} {v : Value} (h : At W p a m s) (ho : s.Ok N) (hr : Rel s r) (hv : Row W 0 v r.l) (hn : r.l.length ≤ 1000) :
    Calls Try.prog 12 #[.pointer (some ⟨p, 0, none⟩), rv r v] W fun e w' => e = .returned (.bool true) ∧ Below W.heap.size W w' := by
  have hS := hr.sums ho
  have HB := Lib.hid (fun W hW => rbound_any r v W hW hn (hr.fit ho))
  have HL := Lib.hid (fun W hW => rleft_any r v W hW hn (hr.fit ho) (by rw [hS.1, hr.gk]; exact ho.bk) (by rw [hS.2, hr.gb]; exact ho.bb) (by rw [hr.gk]; exact ho.lk) (by rw [hr.gb]; exact ho.lb))
  have HO := Lib.hid (fun W hW => ropen_any r v W hW hn)
  rw [hS.1, hS.2] at HB HL
  rw [hr.gk, hr.gb] at HL
  have e : nO r.l r.l.length = (s.tk.length : Int) := by unfold nO; rw [List.take_length, ← hr.tk]
  rw [e] at HO
  have HF := Lib.hid ho.fit
  obtain ⟨va, vn, vc, rfl⟩ := hv.form
  have HR := Lib.hid hv
  have HA := Lib.hid h
  obtain ⟨gk, gb, hk, hb, l⟩ := r
  obtain rfl : hk = s.hk := hr.hk
  obtain rfl : hb = s.hb := hr.hb
  have B1 := Lib.hid (Below.new (Below.refl W.heap.size W) (.cells (rcells ⟨gk, gb, s.hk, s.hb, l⟩ (.slice va vn vc)) TR))
  have V1 := Lib.hid (Fresh.new W W.heap.size (rcells ⟨gk, gb, s.hk, s.hb, l⟩ (.slice va vn vc)) TR rfl)
  obtain ⟨W1, hW1⟩ : ∃ W1, W.alloc (.cells (rcells ⟨gk, gb, s.hk, s.hb, l⟩ (.slice va vn vc)) TR) = W1 := ⟨_, rfl⟩
  have HEQ := Lib.hid hW1
  rw [hW1] at B1 V1
  obtain ⟨c0, c1, c2, c3, c4⟩ := rcells_at V1.out
  have g0 := fun d os => cell_regrown c0 d os
  have g1 := fun d os => cell_regrown c1 d os
  have g2 := fun d os => cell_regrown c2 d os
  have g3 := fun d os => cell_regrown c3 d os
  have g4 := fun d os => cell_regrown c4 d os
  have A1 : Hid (∀ d os, At (grow (redrawn W1 d) os) p a m s) := fun d os => (HA.out.below B1.out).below (below_regrown _ _ _)
  have R1 : Hid (∀ d os, Row (grow (redrawn W1 d) os) 0 (.slice va vn vc) l) := fun d os => (HR.out.below B1.out).below (below_regrown _ _ _)
  have HO' : Hid (∀ d os, Calls Try.prog 22 #[.pointer (some ⟨p, 0, none⟩)] (grow (redrawn W1 d) os) fun e w' => e = .returned (.int .i64 (s.tk.length : Int)) ∧ Below (grow (redrawn W1 d) os).heap.size (grow (redrawn W1 d) os) w') := fun d os => (open_any (A1.out d os)).mono fun _ _ q => ⟨q.1, by rw [q.2]; exact Below.refl _ _⟩
  clear hS e hW1 c0 c1 c2 c3 c4 h ho hr hv hn
  go_enter Try.func12, Try.ntmps12
  go_upto_region 1 with fail
  change Code.wp _ _ _ _ (W.alloc (.cells (rcells ⟨gk, gb, s.hk, s.hb, l⟩ (.slice va vn vc)) TR))
  rw [HEQ.out]
  refine wp_region_quiet_below (by kernel_rfl) (by kernel_rfl) ?_
  repeat (any_goals (first | go_big_quiet_step ((first
    | (go_at_call 19; exact Calls.regrown_of (has_any (A1.out _ _)))
    | (go_at_call 20; exact Calls.regrown_of (bound_any (A1.out _ _)))
    | (go_at_call 21; exact Calls.regrown_of (pleft_any (A1.out _ _) HF.out))
    | (go_at_call 22; exact Calls.regrown_of (HO'.out _ _))
    | (go_at_call 30; exact Calls.regrown_of (HB.out _ (R1.out _ _)))
    | (go_at_call 31; exact Calls.regrown_of (HL.out _ (R1.out _ _)))
    | (go_at_call 32; exact Calls.regrown_of (HO.out _ (R1.out _ _))))) | quiet_step (fail)))
  refine wpQuiet_nil ?_
  intro w3 hw3
  have hb3 : Below W1.heap.size W1 w3 := by obtain ⟨p, rfl⟩ := hw3; exact below_regrown _ _ _
  clear hw3
  go_wp2_with fail
  go_ret
  exact ⟨rfl, Below.step B1.out hb3⟩
end Go.Proofs.Ytpnddccanelcnaa
