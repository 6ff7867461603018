/- A book: New, Copy. -/
import Derived.Test.YtcpmnkihhenbgaaBook2
import Derived.Deep.MidRow
import Derived.Laws.Externs
import Derived.MapKept
namespace Go.Proofs.Ytcpmnkihhenbgaa
open Go.RowKit
set_option maxRecDepth 1000000
set_option maxHeartbeats 4000000

theorem new_any (K B : Nat) (w : World) :
    Calls Try.prog 10 #[.agg #[.int .u64 (K : Int), .int .u64 (B : Int)]] w fun e' w' => ∃ p q m, w.heap.size ≤ p ∧ w.heap.size ≤ q ∧ w.heap.size ≤ m ∧ e' = .returned (.pointer (some ⟨p, 0, none⟩)) ∧ Below w.heap.size w w' ∧ BookAt w' p q q m [] K B := by
  have hmm := @run_makeMap Try.prog
  go_enter Try.func10, Try.ntmps10
  go_wp2_with fail
  go_ret
  refine ⟨w.heap.size + 1 + 1 + 1, w.heap.size + 1 + 1, w.heap.size + 1, by omega, by omega, by omega, rfl, Below.new (Below.new (Below.new (Below.new (Below.refl _ _) _) _) _) _, ⟨Fresh.new _ _ _ _ (by simp), .slice none 0 0, ?_⟩⟩
  refine ⟨⟨(Fresh.new _ _ _ _ (by simp)).alloc _, rfl, rfl, RowS.nil _ _, .inl rfl⟩, ⟨[], #[], 0, ?_, rfl, by simp [Uniq], by simp⟩, by simp [SrtP, SrtK, keys], by simp [TxtP]⟩
  have h1 := heap_alloc_new (w.alloc (.cells #[.int .u64 (K : Int), .int .u64 (B : Int)] 24)) (.map #[] 0)
  have e : (w.alloc (.cells #[.int .u64 (K : Int), .int .u64 (B : Int)] 24)).heap.size = w.heap.size + 1 := by simp
  rw [e] at h1
  have hlt := (Array.getElem?_eq_some_iff.1 h1).1
  have Bw := Below.new (Below.new (Below.refl ((w.alloc (.cells #[.int .u64 (K : Int), .int .u64 (B : Int)] 24)).alloc (.map #[] 0)).heap.size ((w.alloc (.cells #[.int .u64 (K : Int), .int .u64 (B : Int)] 24)).alloc (.map #[] 0))) (.cells (sCells (.slice none 0 0) (w.heap.size + 1) 0 K B) 72)) (.cells #[.pointer (some ⟨w.heap.size + 1 + 1, 0, none⟩)] 74)
  exact (Bw.block _ hlt).trans h1

theorem run_snil (W : World) (g n k : Nat) : (binOp .eql 70 (.slice (some ⟨g, 0, none⟩) n k) (.slice none 0 0)).run Try.prog W = .ok (.bool false) W := by kernel_rfl
theorem run_snil2 (W : World) : (binOp .eql 70 (.slice none 0 0) (.slice none 0 0)).run Try.prog W = .ok (.bool true) W := by kernel_rfl
theorem RowS.of_own {W : World} {B : Nat} {ks : List ByteArray} {v : Value} (h : W.ownsRow B 9 1 v ks.length (strs ks)) : (v = .slice none 0 0 ∧ ks = []) ∨ ∃ e cur, B ≤ e ∧ Fresh W e cur 9 ∧ RowS W e ks v := by
  rcases h.2 with ⟨h1, h2⟩ | ⟨g, cap, cur, rfl, h3, h4, h5, h6, h7, h8⟩
  · exact .inl ⟨h1, List.length_eq_zero_iff.1 h2⟩
  · refine .inr ⟨g, cur, h3, h4, ⟨.inr ⟨cap, cur, rfl, h4, h5, by unfold maxLen at h6; omega, by omega, fun j k hk => ?_⟩⟩⟩
    have hj := (List.getElem?_eq_some_iff.1 hk).1
    have h9 : (strs ks)[j]? = some (.string k) := by simp [strs, hk]
    rw [← h8, List.getElem?_take_of_lt (by omega), Array.getElem?_toList] at h9
    exact h9
theorem cloneK_any {W : World} {e : Nat} {ks : List ByteArray} {v : Value} (h : RowS W e ks v) (hel : e < W.heap.size) (hn : ks.length < 1000000) :
    Calls Try.prog 74 #[v] W fun e' w' => ∃ v', e' = .returned v' ∧ Below W.heap.size W w' ∧ ((v' = .slice none 0 0 ∧ ks = []) ∨ ∃ e2 cur, W.heap.size ≤ e2 ∧ Fresh w' e2 cur 9 ∧ RowS w' e2 ks v') := by
  rcases h.form with ⟨rfl, rfl⟩ | ⟨cap, cur, rfl, hcur, hcap, hmax, hcs, htk⟩
  · have hq := run_snil2 W
    clear h
    go_enter Try.func74, Try.ntmps74
    go_wp2_with fail
    go_ret
    exact ⟨_, rfl, Below.refl _ _, by simp⟩
  · obtain ⟨iE, jE, jE0, jE1, jE2⟩ := infoS
    have HL : Hid ((strs ks).length = ks.length) := strs_len ks
    have h1 : Hid (∀ u ∈ strs ks, u.oneCell' = true) := fun u hu => strs_small hu
    have NX : Hid (∀ (j : Nat) u, (strs ks)[j]? = some u → W.cell? ⟨e, j, none⟩ = some u) := by
      intro j u hj
      obtain ⟨k, hk, rfl⟩ := strs_at hj
      rw [hcur.cell]
      exact htk j k hk
    have HEL := Lib.hid hel
    clear h hcur htk hcs
    obtain ⟨n, hnl⟩ : ∃ n, ks.length = n := ⟨_, rfl⟩
    have HNL := Lib.hid hnl
    rw [hnl] at hn HL hcap ⊢
    clear hnl
    obtain ⟨W1, hW1⟩ : ∃ W1, W1 = W.alloc (.cells #[] 9) := ⟨_, rfl⟩
    have HW1 := Lib.hid hW1
    have B1 : Hid (Below W.heap.size W W1) := by show Below _ _ _; rw [hW1]; exact Below.new (Below.refl _ _) _
    have O1 : Hid (W1.ownsRow W.heap.size 9 1 (.slice (some ⟨W.heap.size, 0, none⟩) 0 0) 0 []) := by
      refine ⟨rfl, .inr ⟨W.heap.size, 0, #[], rfl, Nat.le_refl _, ?_, Nat.le_refl _, by decide, rfl, rfl⟩⟩
      rw [hW1]
      exact heap_alloc_new W _
    have N1 : Hid (∀ j u, (strs ks)[j]? = some u → W1.cell? ((⟨e, 0, none⟩ : Addr).add j) = some u) := by
      intro j u hu
      rw [Addr.add_lit, Nat.zero_add, B1.out.cell (p := ⟨e, j, none⟩) HEL.out]
      exact NX.out j u hu
    have S1 : Hid (W.heap.size ≤ W1.heap.size) := B1.out.size
    have hq := run_snil W e n cap
    have HJ := Lib.hid jE
    clear hW1 jE
    go_enter Try.func74, Try.ntmps74
    go_wp2_with (at_builtin; rw [← HW1.out]; refine wpList_append_own _ rfl (.tmp 5) (.tmp 6) 70 rfl W.heap.size 9 iE (.string ⟨#[]⟩) 1 16 Try.underlying70 HJ.out jE0 jE1 jE2 rfl (by omega) (.slice (some ⟨W.heap.size, 0, none⟩) 0 0) 0 [] rfl O1.out ⟨e, 0, none⟩ n cap (strs ks) rfl (by rw [HL.out, Nat.mul_one]) N1.out h1.out (by unfold maxLen; omega) (by omega) S1.out ?_)
    intro v' w' hown hgrow hnil
    have B2 : Hid (Below W.heap.size W w') := Turned.below (S := []) (Below.refl _ _) ((Turned.of_below B1.out).kept hgrow (by simp [Value.ownBlock])) (by simp) (Nat.le_refl _)
    have O2 : Hid ((v' = .slice none 0 0 ∧ ks = []) ∨ ∃ e2 cur, W.heap.size ≤ e2 ∧ Fresh w' e2 cur 9 ∧ RowS w' e2 ks v') := by
      refine RowS.of_own ?_
      rw [HNL.out]
      simpa using hown
    clear hown hgrow hnil
    go_wp2_with fail
    go_ret
    exact ⟨v', rfl, B2.out, O2.out⟩

theorem slice_of {W w' : World} {ks : List ByteArray} {v' : Value} (h : (v' = .slice none 0 0 ∧ ks = []) ∨ ∃ e2 cur, W.heap.size ≤ e2 ∧ Fresh w' e2 cur 9 ∧ RowS w' e2 ks v') : ∃ a n c, v' = .slice a n c := by
  rcases h with ⟨rfl, _⟩ | ⟨_, _, _, _, h9⟩
  · exact ⟨none, 0, 0, rfl⟩
  · exact h9.slice'
theorem run_clone {W : World} {r : Nat} {es : Array MapEntry} {c : Nat} (t : TypeId) (hb : W.heap[r]? = some (.map es c)) :
    (callFunc 99 #[.iface t (.map (some r))]).run Try.prog W = .ok (.value (.iface t (.map (some W.heap.size)))) (W.alloc (.map es c)) := by
  rw [run_callFunc_extern Try.func99 (by kernel_rfl) (by kernel_rfl) (by kernel_rfl) (e := Extern.MapsClone.clone) (by kernel_rfl)]
  have e : Extern.MapsClone.clone #[.iface t (.map (some r))] = (getObj r >>= fun o => match o with
      | .map entries clock => (newObj (.map entries clock) >>= fun n => pure (.iface t (.map (some n))))
      | _ => stuck "maps.clone: a map expected") := rfl
  rw [e]
  simp [MapKept.run_getObj_map hb, Result.andThen]
theorem run_mnil (W : World) (m : Nat) : (binOp .eql 68 (.map (some m)) (.map none)).run Try.prog W = .ok (.bool false) W := by kernel_rfl
theorem run_mas (W : World) (m : Nat) : (Instr.typeAssert (.iface 68 (.map (some m))) 20 68 false).run Try.prog W = .ok (.map (some m)) W := by kernel_rfl
theorem cloneM_any {W : World} {m : Nat} {l : List Pr} (h : MapHas W m l) :
    Calls Try.prog 75 #[.map (some m)] W fun e w' => e = .returned (.map (some W.heap.size)) ∧ Below W.heap.size W w' ∧ MapHas w' W.heap.size l := by
  obtain ⟨ms, es, c, hb, hi⟩ := h.is
  have hm := run_mnil W m
  have ha := run_mas
  have hc := run_clone 68 hb
  clear h
  go_enter Try.func75, Try.ntmps75
  go_wp2_with fail
  go_ret
  exact ⟨rfl, Below.new (Below.refl _ _) _, ms, es, c, heap_alloc_new W _, hi⟩

theorem copied_fin {W w2 w3 : World} {m2 n : Nat} {l : List Pr} {K B : Nat} {v2 : Value} (hs : SrtP l) (ht : TxtP l) (hn : lenP l = n) (hb2 : Below W.heap.size W w2) (hr : (v2 = .slice none 0 0 ∧ keys l = []) ∨ ∃ e2 cur, W.drew.heap.size ≤ e2 ∧ Fresh w2 e2 cur 9 ∧ RowS w2 e2 (keys l) v2) (hb3 : Below W.heap.size W w3) (hb : Below w2.heap.size w2 w3) (hm : MapHas w3 m2 l) :
    Below W.heap.size W (w3.alloc (.cells (sCells v2 m2 n K B) 72)) ∧ ∃ e2, W.heap.size ≤ e2 ∧ StAt (w3.alloc (.cells (sCells v2 m2 n K B) 72)) w3.heap.size e2 m2 l K B v2 := by
  have B4 := Below.new (Below.refl w3.heap.size w3) (.cells (sCells v2 m2 n K B) 72)
  have F := Fresh.new w3 w3.heap.size (sCells v2 m2 n K B) 72 rfl
  refine ⟨Below.new hb3 _, ?_⟩
  have hm4 := hm.same (B4.block m2 hm.lt)
  subst hn
  rcases hr with ⟨h1, h2⟩ | ⟨e2, cur, h1, h2, h3⟩
  · exact ⟨w3.heap.size, hb3.size, ⟨F, rfl, rfl, ⟨.inl ⟨h1, h2⟩⟩, .inl rfl⟩, hm4, hs, ht⟩
  · have f3 := h2.below hb
    have r3 := h3.same (hb.block e2 h2.lt)
    exact ⟨e2, h1, ⟨F, rfl, rfl, r3.same (B4.block e2 f3.lt), .inr ⟨cur, f3.below B4⟩⟩, hm4, hs, ht⟩
theorem copied_any {W : World} {q e m : Nat} {l : List Pr} {K B : Nat} {v : Value} (h : StAt W q e m l K B v) (hn : l.length < 100000) :
    Calls Try.prog 45 #[.pointer (some ⟨q, 0, none⟩)] W fun e' w' => ∃ q' e2 m' v', W.heap.size ≤ q' ∧ W.heap.size ≤ e2 ∧ W.heap.size ≤ m' ∧ e' = .returned (.pointer (some ⟨q', 0, none⟩)) ∧ Below W.heap.size W w' ∧ StAt w' q' e2 m' l K B v' := by
  obtain ⟨ao, cap, hv, _⟩ := h.key.row.slice
  have HV := Lib.hid hv
  have HH := Lib.hid h
  have BD : Hid (Below W.heap.size W W.drew) := (Below.refl _ _).drew
  obtain ⟨n, hnn⟩ : ∃ n, lenP l = n := ⟨_, rfl⟩
  have HN := Lib.hid hnn
  have KS : Hid (∀ W', Below W.heap.size W W' → W'.cell? ⟨q, 0, none⟩ = some v ∧ W'.cell? ⟨q, 1, none⟩ = some (.map (some m)) ∧ W'.cell? ⟨q, 2, none⟩ = some (.int .u64 (n : Int)) ∧ W'.cell? ⟨q, 3, none⟩ = some (.int .u64 (K : Int)) ∧ W'.cell? ⟨q, 4, none⟩ = some (.int .u64 (B : Int))) := fun W' hb => by
    obtain ⟨a0, a1, a2, a3, a4, _⟩ := (HH.out.below hb).cells
    rw [HN.out] at a2
    exact ⟨a0, a1, a2, a3, a4⟩
  have K0 := KS.out W (Below.refl _ _)
  subst hv
  obtain ⟨k0, k1, k2, k3, k4⟩ := K0
  clear h hnn
  go_enter Try.func45, Try.ntmps45
  go_wp2_with fail
  go_region_held3 (fun W' => W'.cell? ⟨q, 0, none⟩ = some (.slice ao (keys l).length cap) ∧ W'.cell? ⟨q, 1, none⟩ = some (.map (some m)) ∧ W'.cell? ⟨q, 2, none⟩ = some (.int .u64 (n : Int)) ∧ W'.cell? ⟨q, 3, none⟩ = some (.int .u64 (K : Int)) ∧ W'.cell? ⟨q, 4, none⟩ = some (.int .u64 (B : Int)))
    (first | go_keep | exact KS.out _ HB2.out | exact KS.out _ HB3.out)
    (first
      | (go_at_call 74
         refine (cloneK_any (HH.out.below BD.out).key.row (HH.out.below BD.out).lt.2.1 (by rw [keys_len]; omega)).mono ?_
         rintro e1 w2 ⟨v2, rfl, hb2, hr2⟩
         obtain ⟨a2, n2, c2, rfl⟩ := slice_of hr2
         have HB2 := Lib.hid (Below.step BD.out hb2)
         have HR2 := Lib.hid hr2
         clear hb2 hr2)
      | (go_at_call 75
         refine (cloneM_any (HH.out.below HB2.out).map).mono ?_
         rintro e2 w3 ⟨rfl, hb3, hm3⟩
         have HS3 := Lib.hid hb3
         have HB3 := Lib.hid (Below.step HB2.out hb3)
         have HM3 := Lib.hid hm3
         clear hb3 hm3))
  all_goals
    clear k0 k1 k2 k3 k4
    go_wp2_with fail
    go_ret
    obtain ⟨f1, e3, f3, f4⟩ := copied_fin (n := n) HH.out.srt HH.out.txt HN.out HB2.out HR2.out HB3.out HS3.out HM3.out
    exact ⟨w3.heap.size, e3, w2.heap.size, _, HB3.out.size, f3, HB2.out.size, rfl, f1, f4⟩

theorem copy_any {W : World} {p q e m : Nat} {l : List Pr} {K B : Nat} (h : BookAt W p q e m l K B) (hn : l.length < 100000) :
    Calls Try.prog 18 #[.pointer (some ⟨p, 0, none⟩)] W fun e' w' => ∃ p' q' e2 m', W.heap.size ≤ p' ∧ W.heap.size ≤ q' ∧ W.heap.size ≤ e2 ∧ W.heap.size ≤ m' ∧ e' = .returned (.pointer (some ⟨p', 0, none⟩)) ∧ Below W.heap.size W w' ∧ BookAt w' p' q' e2 m' l K B := by
  have c0 := h.cells.1
  obtain ⟨v, hs⟩ := h.st
  have HS := Lib.hid hs
  have HH := Lib.hid h
  clear h hs
  go_enter Try.func18, Try.ntmps18
  go_wp2_with (first
    | (go_at_call 44; refine (isNil_any HH.out).mono ?_; rintro e1 w1 ⟨rfl, rfl⟩)
    | (go_at_call 45; refine (copied_any HS.out hn).mono ?_; rintro e2 w2 ⟨q2, e3, m2, v2, hq2, he3, hm2, rfl, hb2, hs2⟩; have H2 := Lib.hid (And.intro hq2 (And.intro he3 (And.intro hm2 (And.intro hb2 hs2)))); clear hq2 he3 hm2 hb2 hs2))
  go_ret
  obtain ⟨hq2, he3, hm2, hb2, hs2⟩ := H2.out
  exact ⟨w2.heap.size, q2, e3, m2, hb2.size, hq2, he3, hm2, rfl, Below.new hb2 _, Fresh.new _ _ _ _ rfl, v2, hs2.below (Below.new (Below.refl _ _) _)⟩
end Go.Proofs.Ytcpmnkihhenbgaa
