/- The reference model of a book: Put, Delete, Swap, Scan. -/
import Derived.Test.YtcpmnkihhenbgaaRef4
namespace Go.Proofs.Ytcpmnkihhenbgaa
open Go.RowKit Go.Shelf
set_option maxRecDepth 1000000
set_option maxHeartbeats 4000000

theorem rput_any {W : World} {v : Value} {l : List Pr} (h : Seg W v l) (hs : SrtP l) (ht : TxtP l) (hn : l.length < 900) (x y : ByteArray) (K B : Nat) :
    Calls Try.prog 34 #[rb v K B, .string x, .string y] W fun e' w' => ∃ v', e' = .returned (.tuple #[rb v' K B, .int .i64 (putB x y l K B).2]) ∧ Below W.heap.size W w' ∧ Seg w' v' (putB x y l K B).1 := by
  by_cases hxy : x.size ≤ 16 ∧ y.size ≤ 32
  · exact rput_ok h hs ht hn x y K B hxy.1 hxy.2
  · have e : putB x y l K B = (l, 2) := by unfold putB; rw [if_neg hxy]
    rw [e]
    exact rput_bad h x y K B hxy
/-- A result stored and told. -/
theorem told {W w : World} {n : Nat} {v : Value} {l : List Pr} {K B : Nat} {cs : Array Value} (hb : Below W.heap.size W w) (hS : Seg w v l) (hf : Fresh w n cs 31) (hn : W.heap.size ≤ n) : Below W.heap.size W (stored w n v K B) ∧ Seg (stored w n v K B) v l := by
  have hT := stored_turned w n v K B
  refine ⟨Turned.below (S := [n]) hb hT (by simpa using hn) hb.size, hS.same fun g hg => hT.block g (hS.lt hg).1 (fun e => ?_)⟩
  simp at e
  subst e
  obtain ⟨cur, hc⟩ := (hS.lt hg).2
  exact absurd (fresh_ty hc hf) (by decide)
theorem rdelete_any {W : World} {v : Value} {l : List Pr} (h : Seg W v l) (hs : SrtP l) (ht : TxtP l) (hn : l.length < 900) (x : ByteArray) (K B : Nat) :
    Calls Try.prog 32 #[rb v K B, .string x] W fun e' w' => ∃ v', e' = .returned (.tuple #[rb v' K B, .int .i64 (delB x l).2]) ∧ Below W.heap.size W w' ∧ Seg w' v' (delB x l).1 := by
  obtain ⟨a, cap, rfl, hcap, _⟩ := h.form
  obtain ⟨W1, hW1, b1, f1, f2, s1⟩ := rbox2 W (.slice a l.length cap) K B
  have HS := Lib.hid (h.below b1)
  have HB := Lib.hid b1
  have HW1 := Lib.hid hW1
  have HF1 := Lib.hid f1
  have HF2 := Lib.hid f2
  have HL := Lib.hid (And.intro hs (And.intro ht hn))
  have c0 := f1.cell 0
  have c1 := f1.cell 1
  have c2 := f1.cell 2
  have t0 := f2.cell 0
  have t1 := f2.cell 1
  have t2 := f2.cell 2
  have s0 := f2.thawed 0
  have s1' := f2.thawed 1
  have s2 := f2.thawed 2
  simp only [List.getElem?_toArray, List.getElem?_cons_zero, List.getElem?_cons_succ] at c0 c1 c2 t0 t1 t2
  have HG := Lib.hid (rget_any (h.below b1) hs ht (by omega) x K B)
  have HWO : Hid (∀ W', Below W1.heap.size W1 W' → Calls Try.prog 50 #[rb (.slice a l.length cap) K B, .string x] W' fun e' w' => ∃ v', e' = .returned (rb v' K B) ∧ Below W'.heap.size W' w' ∧ w'.ownsRow W'.heap.size 49 2 v' (dropP x l).length (flatP (dropP x l))) := fun W' hb => rwithout_any ((h.below b1).below hb) hs ht (by omega) x K B
  unfold rb at HG HWO
  by_cases hg : (getB x l).2 = 0
  · have hd : delB x l = (dropP x l, 0) := by unfold delB; rw [if_pos hg]
    rw [hg] at HG
    rw [hd]
    generalize hPost : (fun (e' : Ending) (w' : World) => ∃ v', e' = .returned (.tuple #[rb v' K B, .int .i64 0]) ∧ Below W.heap.size W w' ∧ Seg w' v' (dropP x l)) = Post
    have HPost := Lib.hid hPost
    clear hPost h b1 f1 f2 hW1 hs ht hn hg hd
    unfold rb
    go_enter Try.func32, Try.ntmps32
    go_upto_region 1 with fail
    rw [← HW1.out]
    go_wp2_with (first
      | (go_at_call 35; refine HG.out.mono ?_; rintro e4 w4 ⟨rfl, hb4⟩; have H4 := Lib.hid hb4; have c0 := (hb4.cell (cell_lt c0)).trans c0; have c1 := (hb4.cell (cell_lt c1)).trans c1; have c2 := (hb4.cell (cell_lt c2)).trans c2; clear hb4)
      | (go_at_call 50; refine (HWO.out _ H4.out).mono ?_; rintro e5 w5 ⟨v5, rfl, hb5, ho5⟩; obtain ⟨a5, k5, rfl⟩ := row_form ho5; have H5 := Lib.hid (And.intro (Below.step H4.out hb5) (Seg.of_row ho5)); have f5 := HF2.out.below (Below.step H4.out hb5); have t0 := f5.cell 0; have t1 := f5.cell 1; have t2 := f5.cell 2; have s0 := f5.thawed 0; have s1' := f5.thawed 1; have s2 := f5.thawed 2; simp only [List.getElem?_toArray, List.getElem?_cons_zero, List.getElem?_cons_succ] at t0 t1 t2; clear hb5 ho5 f5))
    obtain ⟨Wz, hWz⟩ : ∃ Wz, Wz = stored w5 (W.heap.size + 1) (Value.slice a5 (dropP x l).length k5) K B := ⟨_, rfl⟩
    have hFw := HF2.out.below H5.out.1
    have hFz := stored_box hFw rfl (Value.slice a5 (dropP x l).length k5) K B
    have hR := told (K := K) (B := B) (Below.step HB.out H5.out.1) H5.out.2 hFw (Nat.le_succ _)
    rw [← hWz] at hFz hR
    unfold stored at hWz
    rw [← hWz]
    have q0 := hFz.cell 0
    have q1 := hFz.cell 1
    have q2 := hFz.cell 2
    simp only [List.getElem?_toArray, List.getElem?_cons_zero, List.getElem?_cons_succ] at q0 q1 q2
    refine bodyPost_ret (v := .tuple #[rb (Value.slice a5 (dropP x l).length k5) K B, .int .i64 0]) (by simp [results, Try.results32, go_sem, rb, q0, q1, q2]) rfl ?_
    rw [← HPost.out]
    exact ⟨_, rfl, hR⟩
  · have hd : delB x l = (l, (getB x l).2) := by unfold delB; rw [if_neg hg]
    rw [hd]
    obtain ⟨ev, hev⟩ : ∃ ev, (getB x l).2 = ev := ⟨_, rfl⟩
    rw [hev] at HG hg ⊢
    generalize hPost : (fun (e' : Ending) (w' : World) => ∃ v', e' = .returned (.tuple #[rb v' K B, .int .i64 ev]) ∧ Below W.heap.size W w' ∧ Seg w' v' l) = Post
    have HPost := Lib.hid hPost
    have HSW := Lib.hid (h.below b1)
    clear hPost h b1 f1 f2 hW1 hs ht hn hd hev
    unfold rb
    go_enter Try.func32, Try.ntmps32
    go_upto_region 1 with fail
    rw [← HW1.out]
    go_wp2_with (first
      | (go_at_call 35; refine HG.out.mono ?_; rintro e4 w4 ⟨rfl, hb4⟩; have H4 := Lib.hid hb4; have c0 := (hb4.cell (cell_lt c0)).trans c0; have c1 := (hb4.cell (cell_lt c1)).trans c1; have c2 := (hb4.cell (cell_lt c2)).trans c2; have f5 := HF2.out.below hb4; have t0 := f5.cell 0; have t1 := f5.cell 1; have t2 := f5.cell 2; have s0 := f5.thawed 0; have s1' := f5.thawed 1; have s2 := f5.thawed 2; simp only [List.getElem?_toArray, List.getElem?_cons_zero, List.getElem?_cons_succ] at t0 t1 t2; clear hb4 f5))
    obtain ⟨Wz, hWz⟩ : ∃ Wz, Wz = stored w4 (W.heap.size + 1) (Value.slice a l.length cap) K B := ⟨_, rfl⟩
    have hFw := HF2.out.below H4.out
    have hFz := stored_box hFw rfl (Value.slice a l.length cap) K B
    have hR := told (K := K) (B := B) (Below.step HB.out H4.out) (HSW.out.below H4.out) hFw (Nat.le_succ _)
    rw [← hWz] at hFz hR
    unfold stored at hWz
    rw [← hWz]
    have q0 := hFz.cell 0
    have q1 := hFz.cell 1
    have q2 := hFz.cell 2
    simp only [List.getElem?_toArray, List.getElem?_cons_zero, List.getElem?_cons_succ] at q0 q1 q2
    refine bodyPost_ret (v := .tuple #[rb (Value.slice a l.length cap) K B, .int .i64 ev]) (by simp [results, Try.results32, go_sem, rb, q0, q1, q2]) rfl ?_
    rw [← HPost.out]
    exact ⟨_, rfl, hR⟩
end Go.Proofs.Ytcpmnkihhenbgaa
