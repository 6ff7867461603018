/- The law BookSmall. -/
import Derived.Test.YtcpmnkihhenbgaaPairt
import Derived.Test.YtcpmnkihhenbgaaSmallA
import Derived.Great.BuildSlice
namespace Go.Proofs.Ytcpmnkihhenbgaa
open Go.RowKit Go.Shelf
set_option maxRecDepth 1000000
set_option maxHeartbeats 8000000

abbrev TDd : TypeId := 33
def ddc (l : List Dd) : List Value := l.flatMap fun d => d.cs.toList
theorem ddc_at : ∀ (l : List Dd) (i : Nat) (d : Dd), l[i]? = some d → (ddc l)[i * 5]? = some (.int .i64 d.what) ∧ (ddc l)[i * 5 + 1]? = some (.string d.key) ∧ (ddc l)[i * 5 + 2]? = some (.string d.value) ∧ (ddc l)[i * 5 + 3]? = some (.string d.old) ∧ (ddc l)[i * 5 + 4]? = some (.int .i64 d.n)
  | [], _, _, h => by simp at h
  | x :: l, 0, d, h => by simp at h; subst h; exact ⟨rfl, rfl, rfl, rfl, rfl⟩
  | x :: l, i + 1, d, h => by
    obtain ⟨a, b, c, e, f⟩ := ddc_at l i d (by simpa using h)
    have key : ∀ j, (ddc (x :: l))[(i + 1) * 5 + j]? = (ddc l)[i * 5 + j]? := fun j => by
      rw [show (i + 1) * 5 + j = i * 5 + j + 5 from by omega]
      rfl
    exact ⟨(key 0).trans a, (key 1).trans b, (key 2).trans c, (key 3).trans e, (key 4).trans f⟩
theorem infoDd : ∃ i0 : TypeInfo, Try.prog.info? TDd = some i0 ∧ i0.zero = some (.agg #[.int .i64 0, .string ⟨#[]⟩, .string ⟨#[]⟩, .string ⟨#[]⟩, .int .i64 0]) ∧ i0.size = 5 := by
  have h : (Try.prog.info? TDd).map (fun i => (i.zero, i.size)) = some (some (.agg #[.int .i64 0, .string ⟨#[]⟩, .string ⟨#[]⟩, .string ⟨#[]⟩, .int .i64 0]), 5) := by kernel_rfl
  obtain ⟨i0, h1, h2⟩ := Option.map_eq_some_iff.1 h
  simp only [Prod.mk.injEq] at h2
  exact ⟨i0, h1, h2.1, h2.2⟩
theorem vals_ddc (l : List Dd) : ((l.map Dd.v).flatMap fun v => v.cells.toList) = ddc l := by
  induction l with
  | nil => rfl
  | cons t l ih => rw [List.map_cons, List.flatMap_cons, ih]; rfl
/-- A slice literal of operations. -/
theorem wpList_deeds {w : World} {ops : Array Oper} {rest : List Oper} {o : Oper} {a : Act} {Q : Exit → Act → World → Prop} (hgd : o.guard = none) (len : Nat) (parts : Array (Nat × Operand)) (ho : o.op = .buildSlice 25 len parts)
    (l : List Dd) (hsmall : len * 5 ≤ 2 ^ 24) (hpos : 0 < len) (hlen : l.length = len)
    (hp : (parts.map fun (i, x) => (i, a.eval x)).toList = ((l.map Dd.v).zipIdx 0).map fun x => (x.2, x.1))
    (h : wpList Try.prog ops Q rest (a.put o.dst (.slice (some ⟨w.heap.size, 0, none⟩) len len)) (w.alloc (.cells (ddc l).toArray TDd))) :
    wpList Try.prog ops Q (o :: rest) a w := by
  obtain ⟨i0, hi, hz, hs⟩ := infoDd
  refine wpList_plain hgd fun _ hK => wp_buildSlice _ TDd len parts ho (ddc l).toArray i0 _ Try.underlying25 hi hz (by rw [hs]; omega) (by rw [hs]; omega) ?_ (hK _ _ h)
  rw [hp, hs, ← vals_ddc]
  exact Great.fill_whole (by decide) _ _ (fun v hv => by obtain ⟨t, _, rfl⟩ := List.mem_map.1 hv; rfl) (by simp [hlen])
def e_ : ByteArray := ⟨#[]⟩
def l15 : List Dd := [⟨0, ⟨#[97]⟩, ⟨#[49, 50, 51]⟩, e_, 0⟩, ⟨0, ⟨#[98]⟩, e_, e_, 0⟩, ⟨4, ⟨#[97]⟩, ⟨#[49]⟩, ⟨#[49, 50, 51]⟩, 0⟩, ⟨4, ⟨#[97]⟩, ⟨#[49, 50, 51, 52, 53, 54, 55, 56]⟩, ⟨#[49]⟩, 0⟩, ⟨0, ⟨#[99]⟩, ⟨#[49, 50]⟩, e_, 0⟩, ⟨5, ⟨#[97]⟩, e_, e_, 2⟩, ⟨0, e_, ⟨#[49]⟩, e_, 0⟩, ⟨3, ⟨#[98]⟩, e_, e_, 0⟩, ⟨3, ⟨#[98]⟩, e_, e_, 0⟩, ⟨4, ⟨#[98]⟩, e_, e_, 0⟩, ⟨4, ⟨#[99]⟩, e_, ⟨#[49]⟩, 0⟩, ⟨0, ⟨#[97]⟩, ⟨#[49, 50, 51, 52, 53, 54, 55]⟩, e_, 0⟩, ⟨5, e_, e_, e_, 4⟩, ⟨0, ⟨#[99]⟩, e_, e_, 0⟩, ⟨0, ⟨#[97, 98]⟩, ⟨#[120]⟩, e_, 0⟩]
theorem small_walk (w : World) : Calls Try.prog 5 #[] w fun e w' => e = .returned (.bool true) ∧ Below w.heap.size w w' := by
  go_enter Try.func5, Try.ntmps5
  go_wp2_with (refine wpList_deeds rfl 15 _ rfl l15 (by decide) (by decide) rfl (by rfl) ?_)
  obtain ⟨W1, hW1⟩ : ∃ W1, W1 = w.alloc (.cells (ddc l15).toArray TDd) := ⟨_, rfl⟩
  have B1 : Hid (Below w.heap.size w W1) := by show Below _ _ _; rw [hW1]; exact Below.new (Below.refl _ _) _
  have HL15 : Hid (∀ W, Below W1.heap.size W1 W → ∀ i, i < 15 → ∃ dd : Dd, W.cell? ⟨w.heap.size, i * 5, none⟩ = some (.int .i64 dd.what) ∧ W.cell? ⟨w.heap.size, i * 5 + 1, none⟩ = some (.string dd.key) ∧ W.cell? ⟨w.heap.size, i * 5 + 2, none⟩ = some (.string dd.value) ∧ W.cell? ⟨w.heap.size, i * 5 + 3, none⟩ = some (.string dd.old) ∧ W.cell? ⟨w.heap.size, i * 5 + 4, none⟩ = some (.int .i64 dd.n)) := by
    intro W hb i hi
    have f1 : Fresh W1 w.heap.size (ddc l15).toArray TDd := by rw [hW1]; exact Fresh.new _ _ _ _ rfl
    have f := f1.below hb
    obtain ⟨dd, hdd⟩ : ∃ dd, l15[i]? = some dd := ⟨_, List.getElem?_eq_getElem (show i < l15.length from hi)⟩
    obtain ⟨a0, a1, a2, a3, a4⟩ := ddc_at l15 i dd hdd
    refine ⟨dd, ?_, ?_, ?_, ?_, ?_⟩
    all_goals
      rw [f.cell, List.getElem?_toArray]
      assumption
  change Code.wp _ _ _ _ (w.alloc (.cells (ddc l15).toArray TDd))
  rw [← hW1]
  clear hW1
  generalize (Value.agg #[.int .i64 0, .string ⟨#[97]⟩, .string ⟨#[49, 50, 51]⟩, .string ⟨#[]⟩, .int .i64 0]) = y0
  generalize (Value.agg #[.int .i64 0, .string ⟨#[98]⟩, .string ⟨#[]⟩, .string ⟨#[]⟩, .int .i64 0]) = y1
  generalize (Value.agg #[.int .i64 4, .string ⟨#[97]⟩, .string ⟨#[49]⟩, .string ⟨#[49, 50, 51]⟩, .int .i64 0]) = y2
  generalize (Value.agg #[.int .i64 4, .string ⟨#[97]⟩, .string ⟨#[49, 50, 51, 52, 53, 54, 55, 56]⟩, .string ⟨#[49]⟩, .int .i64 0]) = y3
  generalize (Value.agg #[.int .i64 0, .string ⟨#[99]⟩, .string ⟨#[49, 50]⟩, .string ⟨#[]⟩, .int .i64 0]) = y4
  generalize (Value.agg #[.int .i64 5, .string ⟨#[97]⟩, .string ⟨#[]⟩, .string ⟨#[]⟩, .int .i64 2]) = y5
  generalize (Value.agg #[.int .i64 0, .string ⟨#[]⟩, .string ⟨#[49]⟩, .string ⟨#[]⟩, .int .i64 0]) = y6
  generalize (Value.agg #[.int .i64 3, .string ⟨#[98]⟩, .string ⟨#[]⟩, .string ⟨#[]⟩, .int .i64 0]) = y7
  generalize (Value.agg #[.int .i64 4, .string ⟨#[98]⟩, .string ⟨#[]⟩, .string ⟨#[]⟩, .int .i64 0]) = y8
  generalize (Value.agg #[.int .i64 4, .string ⟨#[99]⟩, .string ⟨#[]⟩, .string ⟨#[49]⟩, .int .i64 0]) = y9
  generalize (Value.agg #[.int .i64 0, .string ⟨#[97]⟩, .string ⟨#[49, 50, 51, 52, 53, 54, 55]⟩, .string ⟨#[]⟩, .int .i64 0]) = y10
  generalize (Value.agg #[.int .i64 5, .string ⟨#[]⟩, .string ⟨#[]⟩, .string ⟨#[]⟩, .int .i64 4]) = y11
  generalize (Value.agg #[.int .i64 0, .string ⟨#[99]⟩, .string ⟨#[]⟩, .string ⟨#[]⟩, .int .i64 0]) = y12
  generalize (Value.agg #[.int .i64 0, .string ⟨#[97, 98]⟩, .string ⟨#[120]⟩, .string ⟨#[]⟩, .int .i64 0]) = y13
  go_loopw [2] (fun nv wr => ∃ n : Nat, n ≤ 65 ∧ nv = .int .i64 n ∧ Below W1.heap.size W1 wr) (fun nv _ => 65 - (intOf nv).toNat)
  case atStart => exact ⟨0, Nat.zero_le _, rfl, Below.refl _ _⟩
  case round =>
    obtain ⟨n, hn, rfl, hbw⟩ := hrel
    have HBW := Lib.hid hbw
    by_cases hlt : n < 65
    · have jl : (n : Int) < 65 := by omega
      have jd : decide (n < 65) = true := decide_eq_true hlt
      have t1 : (n : Int).tmod 5 = ((n % 5 : Nat) : Int) := by rw [Int.tmod_eq_emod_of_nonneg (by omega)]; omega
      have t2 : (n : Int).tdiv 5 = ((n / 5 : Nat) : Int) := by rw [Int.tdiv_eq_ediv_of_nonneg (by omega)]; omega
      obtain ⟨K, hK⟩ : ∃ K, n % 5 = K := ⟨_, rfl⟩
      obtain ⟨B, hB⟩ : ∃ B, n / 5 = B := ⟨_, rfl⟩
      rw [hK] at t1
      rw [hB] at t2
      have z1 : IntKind.u64.wrap (K : Int) = (K : Int) := by rw [IntKind.wrap_u64]; omega
      have z2 : IntKind.u64.wrap (B : Int) = (B : Int) := by rw [IntKind.wrap_u64]; omega
      have z3 : wrap64 (B : Int) = (B : Int) := IntWalk.wrap64_in _ (by omega)
      have z4 : wrap64 (K : Int) = (K : Int) := IntWalk.wrap64_in _ (by omega)
      have HKB := Lib.hid (And.intro hK hB)
      clear hbw hn hK hB
      go_upto_region 6 with fail
      obtain ⟨Wl, hWl⟩ : ∃ Wl, Wl = wr.alloc (.cells #[.int .u64 (K : Int), .int .u64 (B : Int)] 24) := ⟨_, rfl⟩
      rw [← hWl]
      have bl : Below wr.heap.size wr Wl := by rw [hWl]; exact Below.new (Below.refl _ _) _
      have fl : Fresh Wl wr.heap.size #[.int .u64 (K : Int), .int .u64 (B : Int)] 24 := by rw [hWl]; exact Fresh.new _ _ _ _ rfl
      have g0 := fl.cell 0
      have g1 := fl.cell 1
      simp only [List.getElem?_toArray, List.getElem?_cons_zero, List.getElem?_cons_succ] at g0 g1
      have HWL := Lib.hid (Below.step HBW.out bl)
      clear hWl bl fl
      go_upto_region 8 with (first
        | (go_at_call 10; refine (new_here K B _ _ (Below.refl _ _)).mono ?_; rintro e3 w3 ⟨p, q0, mp, rfl, h3⟩; have H3 := Lib.hid h3; have g0 := (h3.low.cell (cell_lt g0)).trans g0; have g1 := (h3.low.cell (cell_lt g1)).trans g1; clear h3))
      obtain ⟨W4, hW4⟩ : ∃ W4, W4 = w3.alloc (.cells #[.slice none 0 0, .int .u64 (K : Int), .int .u64 (B : Int)] 31) := ⟨_, rfl⟩
      rw [← hW4]
      have H4 : Hid (Pairt Wl W4 p q0 q0 mp w3.heap.size [] (.slice none 0 0) K B) := by
        have b4 : Below w3.heap.size w3 W4 := by rw [hW4]; exact Below.new (Below.refl _ _) _
        exact ⟨H3.out.below b4, Seg.nil _, by rw [hW4]; exact Fresh.new _ _ _ _ rfl⟩
      have HZ : Hid (Wl.heap.size ≤ w3.heap.size) := H3.out.low.size
      obtain ⟨z, hz⟩ : ∃ z, w3.heap.size = z := ⟨_, rfl⟩
      rw [hz] at H4 HZ ⊢
      clear hW4 hz g0 g1
      go_wp2_with fail
      obtain ⟨wo, hwo⟩ : ∃ wo, wo = wr := ⟨_, rfl⟩
      rw [← hwo] at *
      clear hwo
      go_loopw [6] (fun iv wq => ∃ i : Nat, i ≤ 15 ∧ iv = .int .i64 i ∧ ∃ e l v, Pairt Wl wq p q0 e mp z l v K B ∧ l.length ≤ i) (fun iv _ => 15 - (intOf iv).toNat)
      case atStart => exact ⟨0, Nat.zero_le _, rfl, q0, [], _, H4.out, Nat.le_refl _⟩
      case round =>
        obtain ⟨i, hi, rfl, e, l, v, hH, hl⟩ := hrel
        obtain ⟨wq, hwq⟩ : ∃ wq, wq = wr := ⟨_, rfl⟩
        rw [← hwq] at hH ⊢
        clear hwq
        obtain ⟨av, cv, rfl, _, _⟩ := hH.seg.form
        have HH := Lib.hid hH
        have HL := Lib.hid hl
        by_cases hlt2 : i < 15
        · have jl2 : (i : Int) < 15 := by omega
          have j02 : (0 : Int) ≤ (i : Int) := by omega
          have jd2 : decide (i < 15) = true := decide_eq_true hlt2
          obtain ⟨dd, hdd⟩ : ∃ dd : Dd, ∀ W, Below Wl.heap.size Wl W → W.cell? ⟨w.heap.size, i * 5, none⟩ = some (.int .i64 dd.what) ∧ W.cell? ⟨w.heap.size, i * 5 + 1, none⟩ = some (.string dd.key) ∧ W.cell? ⟨w.heap.size, i * 5 + 2, none⟩ = some (.string dd.value) ∧ W.cell? ⟨w.heap.size, i * 5 + 3, none⟩ = some (.string dd.old) ∧ W.cell? ⟨w.heap.size, i * 5 + 4, none⟩ = some (.int .i64 dd.n) := by
            obtain ⟨dd, h0, h1, h2, h3, h4⟩ := HL15.out Wl HWL.out i hlt2
            refine ⟨dd, fun W hb => ⟨?_, ?_, ?_, ?_, ?_⟩⟩
            · exact (hb.cell (cell_lt h0)).trans h0
            · exact (hb.cell (cell_lt h1)).trans h1
            · exact (hb.cell (cell_lt h2)).trans h2
            · exact (hb.cell (cell_lt h3)).trans h3
            · exact (hb.cell (cell_lt h4)).trans h4
          have HC := Lib.hid hdd
          clear hH hl hdd hi
          go_upto_region 11 with fail
          have H5d : Hid (Pairt Wl wq.drew p q0 e mp z l (.slice av l.length cv) K B) := HH.out.below (Below.refl _ _).drew
          have HD : Hid (∀ W', Below wq.drew.heap.size wq.drew W' → Calls Try.prog 12 #[.pointer (some ⟨p, 0, none⟩), rb (.slice av l.length cv) K B, dd.v] W' (DoesB Wl W' p q0 e mp K B (actS dd l K B).1)) := fun W' hb => does_any (H5d.out.below hb).bk (H5d.out.below hb).seg (by have := HL.out; omega) dd
          obtain ⟨L2, hL2⟩ : ∃ L2, (actS dd l K B).1 = L2 := ⟨_, rfl⟩
          rw [hL2] at HD
          have HL2 : Hid (L2.length ≤ i + 1) := by
            show _ ≤ _
            have := act_len dd l K B
            have := HL.out
            rw [hL2] at *
            omega
          unfold rb Dd.v at HD
          have KS : Hid (∀ W', Fresh W' z #[.slice av l.length cv, .int .u64 (K : Int), .int .u64 (B : Int)] 31 → Below Wl.heap.size Wl W' → W'.cell? ⟨z, 0, none⟩ = some (.slice av l.length cv) ∧ W'.cell? ⟨z, 1, none⟩ = some (.int .u64 (K : Int)) ∧ W'.cell? ⟨z, 2, none⟩ = some (.int .u64 (B : Int)) ∧ W'.cell? ⟨w.heap.size, i * 5, none⟩ = some (.int .i64 dd.what) ∧ W'.cell? ⟨w.heap.size, i * 5 + 1, none⟩ = some (.string dd.key) ∧ W'.cell? ⟨w.heap.size, i * 5 + 2, none⟩ = some (.string dd.value) ∧ W'.cell? ⟨w.heap.size, i * 5 + 3, none⟩ = some (.string dd.old) ∧ W'.cell? ⟨w.heap.size, i * 5 + 4, none⟩ = some (.int .i64 dd.n)) := fun W' hf hb => ⟨hf.cell 0, hf.cell 1, hf.cell 2, HC.out W' hb⟩
          clear hL2
          refine wp_region_held_drew (S := fun W' => W'.cell? ⟨z, 0, none⟩ = some (.slice av l.length cv) ∧ W'.cell? ⟨z, 1, none⟩ = some (.int .u64 (K : Int)) ∧ W'.cell? ⟨z, 2, none⟩ = some (.int .u64 (B : Int)) ∧ W'.cell? ⟨w.heap.size, i * 5, none⟩ = some (.int .i64 dd.what) ∧ W'.cell? ⟨w.heap.size, i * 5 + 1, none⟩ = some (.string dd.key) ∧ W'.cell? ⟨w.heap.size, i * 5 + 2, none⟩ = some (.string dd.value) ∧ W'.cell? ⟨w.heap.size, i * 5 + 3, none⟩ = some (.string dd.old) ∧ W'.cell? ⟨w.heap.size, i * 5 + 4, none⟩ = some (.int .i64 dd.n)) (by kernel_rfl) ?_ (fun hHeld => ?_)
          · (try dsimp only)
            exact KS.out _ H5d.out.box H5d.out.bk.low
          refine wpAnyH_take (i := 0) (oi := ?_) (v := ?_) ?_ (by kernel_rfl) (by kernel_rfl) (by kernel_rfl) ?_ (Or.inl ⟨?_, ?_⟩) (by assumption) ?_
          rotate_left 2
          · simp only [List.getElem?_toArray, List.getElem?_cons_succ, List.getElem?_cons_zero] <;> rfl
          · exact fun _ _ _ h => h
          · rfl
          · (intro w hSw; (try dsimp only at hSw); go_simp; try (with_reducible rfl))
          try simp only [Act.put, List.setIfInBounds_toArray, List.set_cons_zero, List.set_cons_succ]
          refine wpAnyH_take (i := 1) (oi := ?_) (v := ?_) ?_ (by kernel_rfl) (by kernel_rfl) (by kernel_rfl) ?_ (Or.inl ⟨?_, ?_⟩) (by assumption) ?_
          rotate_left 2
          · simp only [List.getElem?_toArray, List.getElem?_cons_succ, List.getElem?_cons_zero] <;> rfl
          · exact fun _ _ _ h => h
          · rfl
          · (intro w hSw; (try dsimp only at hSw); go_simp; try (with_reducible rfl))
          try simp only [Act.put, List.setIfInBounds_toArray, List.set_cons_zero, List.set_cons_succ]
          refine wpAnyH_take (i := 2) (oi := ?_) (v := ?_) ?_ (by kernel_rfl) (by kernel_rfl) (by kernel_rfl) ?_ (Or.inl ⟨?_, ?_⟩) (by assumption) ?_
          rotate_left 2
          · simp only [List.getElem?_toArray, List.getElem?_cons_succ, List.getElem?_cons_zero] <;> rfl
          · exact fun _ _ _ h => h
          · rfl
          · (intro w hSw; (try dsimp only at hSw); go_simp; try (with_reducible rfl))
          try simp only [Act.put, List.setIfInBounds_toArray, List.set_cons_zero, List.set_cons_succ]
          refine wpAnyH_take (i := 3) (oi := ?_) (v := ?_) ?_ (by kernel_rfl) (by kernel_rfl) (by kernel_rfl) ?_ (Or.inl ⟨?_, ?_⟩) (by assumption) ?_
          rotate_left 2
          · simp only [List.getElem?_toArray, List.getElem?_cons_succ, List.getElem?_cons_zero] <;> rfl
          · exact fun _ _ _ h => h
          · rfl
          · (intro w hSw; (try dsimp only at hSw); go_simp; try (with_reducible rfl))
          try simp only [Act.put, List.setIfInBounds_toArray, List.set_cons_zero, List.set_cons_succ]
          refine wpAnyH_take (i := 4) (oi := ?_) (v := ?_) ?_ (by kernel_rfl) (by kernel_rfl) (by kernel_rfl) ?_ (Or.inl ⟨?_, ?_⟩) (by assumption) ?_
          rotate_left 2
          · simp only [List.getElem?_toArray, List.getElem?_cons_succ, List.getElem?_cons_zero] <;> rfl
          · exact fun _ _ _ h => h
          · rfl
          · (intro w hSw; (try dsimp only at hSw); go_simp; try (with_reducible rfl))
          try simp only [Act.put, List.setIfInBounds_toArray, List.set_cons_zero, List.set_cons_succ]
          refine wpAnyH_take (i := 5) (oi := ?_) (v := ?_) ?_ (by kernel_rfl) (by kernel_rfl) (by kernel_rfl) ?_ (Or.inl ⟨?_, ?_⟩) (by assumption) ?_
          rotate_left 2
          · simp only [List.getElem?_toArray, List.getElem?_cons_succ, List.getElem?_cons_zero] <;> rfl
          · exact fun _ _ _ h => h
          · rfl
          · (intro w hSw; (try dsimp only at hSw); go_simp; try (with_reducible rfl))
          try simp only [Act.put, List.setIfInBounds_toArray, List.set_cons_zero, List.set_cons_succ]
          refine wpAnyH_ready (rs := [6, 10]) (by kernel_rfl) (by simp) ?_
          refine AllReadyH.cons (o := _) (by simp only [List.getElem?_toArray, List.getElem?_cons_succ, List.getElem?_cons_zero] <;> rfl) (fun K hK => ?_) ?_
          · go_simp
            refine (HD.out _ (Below.refl _ _)).mono ?_
            rintro e6 w6 ⟨v6, e2, rfl, hH6, hT6, hS6⟩
            obtain ⟨a6, k6, rfl, _, _⟩ := hS6.form
            unfold rb
            have X6 := Lib.hid (hT6.other H5d.out.box (H5d.out.bk.bk.out H5d.out.box (by decide) (by decide)))
            have H6 := Lib.hid (And.intro hH6 hS6)
            clear hH6 hT6 hS6
            go_wp2_with fail
            refine hK.out _ _ ?_ (fun hHeld => ?_)
            · (try dsimp only)
              exact KS.out _ X6.out H6.out.1.low
            clear hK K
            try simp only [Act.put, List.setIfInBounds_toArray, List.set_cons_zero, List.set_cons_succ]
            refine wpAnyH_take (i := 7) (oi := ?_) (v := ?_) ?_ (by kernel_rfl) (by kernel_rfl) (by kernel_rfl) ?_ (Or.inl ⟨?_, ?_⟩) (by assumption) ?_
            rotate_left 2
            · simp only [List.getElem?_toArray, List.getElem?_cons_succ, List.getElem?_cons_zero] <;> rfl
            · exact fun _ _ _ h => h
            · rfl
            · (intro w hSw; (try dsimp only at hSw); go_simp; try (with_reducible rfl))
            try simp only [Act.put, List.setIfInBounds_toArray, List.set_cons_zero, List.set_cons_succ]
            refine wpAnyH_take (i := 8) (oi := ?_) (v := ?_) ?_ (by kernel_rfl) (by kernel_rfl) (by kernel_rfl) ?_ (Or.inl ⟨?_, ?_⟩) (by assumption) ?_
            rotate_left 2
            · simp only [List.getElem?_toArray, List.getElem?_cons_succ, List.getElem?_cons_zero] <;> rfl
            · exact fun _ _ _ h => h
            · rfl
            · (intro w hSw; (try dsimp only at hSw); go_simp; try (with_reducible rfl))
            try simp only [Act.put, List.setIfInBounds_toArray, List.set_cons_zero, List.set_cons_succ]
            refine wpAnyH_take (i := 9) (oi := ?_) (v := ?_) ?_ (by kernel_rfl) (by kernel_rfl) (by kernel_rfl) ?_ (Or.inl ⟨?_, ?_⟩) (by assumption) ?_
            rotate_left 2
            · simp only [List.getElem?_toArray, List.getElem?_cons_succ, List.getElem?_cons_zero] <;> rfl
            · exact fun _ _ _ h => h
            · rfl
            · (intro w hSw; (try dsimp only at hSw); go_simp; try (with_reducible rfl))
            try simp only [Act.put, List.setIfInBounds_toArray, List.set_cons_zero, List.set_cons_succ]
            refine wpAnyH_ready (rs := [10]) (by kernel_rfl) (by simp) ?_
            refine AllReadyH.cons (o := _) (by simp only [List.getElem?_toArray, List.getElem?_cons_succ, List.getElem?_cons_zero] <;> rfl) (fun K hK => ?_) ?_
            · go_simp
              refine hK.out _ _ ?_ (fun hHeld => ?_)
              · (try dsimp only)
                exact KS.out _ (X6.out.alloc _) (Below.new H6.out.1.low _)
              clear hK K
              try simp only [Act.put, List.setIfInBounds_toArray, List.set_cons_zero, List.set_cons_succ]
              refine wpAnyH_ready (rs := [11]) (by kernel_rfl) (by simp) ?_
              refine AllReadyH.cons (o := _) (by simp only [List.getElem?_toArray, List.getElem?_cons_succ, List.getElem?_cons_zero] <;> rfl) (fun K hK => ?_) ?_
              · go_simp
                refine hK.out _ _ ?_ (fun hHeld => ?_)
                · (try dsimp only)
                  exact KS.out _ (X6.out.alloc _) (Below.new H6.out.1.low _)
                clear hK K
                try simp only [Act.put, List.setIfInBounds_toArray, List.set_cons_zero, List.set_cons_succ]
                refine wpAnyH_take (i := 12) (oi := ?_) (v := ?_) ?_ (by kernel_rfl) (by kernel_rfl) (by kernel_rfl) ?_ (Or.inl ⟨?_, ?_⟩) (by assumption) ?_
                rotate_left 2
                · simp only [List.getElem?_toArray, List.getElem?_cons_succ, List.getElem?_cons_zero] <;> rfl
                · exact fun _ _ _ h => h
                · rfl
                · (intro w hSw; (try dsimp only at hSw); go_simp; try (with_reducible rfl))
                try simp only [Act.put, List.setIfInBounds_toArray, List.set_cons_zero, List.set_cons_succ]
                refine wpAnyH_done (by kernel_rfl) ?_ _
                obtain ⟨Wn, hWn⟩ : ∃ Wn, Wn = w6.alloc (.cells #[.slice a6 L2.length k6, .int .u64 (K : Int), .int .u64 (B : Int)] 31) := ⟨_, rfl⟩
                have PN : Pairt Wl Wn p q0 e2 mp w6.heap.size L2 (.slice a6 L2.length k6) K B := by rw [hWn]; exact ⟨H6.out.1.below (Below.new (Below.refl _ _) _), H6.out.2.below (Below.new (Below.refl _ _) _), Fresh.new _ _ _ _ rfl⟩
                have XN : Fresh Wn z #[.slice av l.length cv, .int .u64 (K : Int), .int .u64 (B : Int)] 31 := by rw [hWn]; exact X6.out.alloc _
                rw [← hWn]
                obtain ⟨nb, hnb⟩ : ∃ nb, w6.heap.size = nb := ⟨_, rfl⟩
                rw [hnb] at PN ⊢
                clear hWn hnb
                have HPN := Lib.hid (And.intro PN XN)
                have n0 := PN.box.cell 0
                have n1 := PN.box.cell 1
                have n2 := PN.box.cell 2
                have y0 := XN.cell 0
                have y1 := XN.cell 1
                have y2 := XN.cell 2
                have s0' := XN.thawed 0
                have s1' := XN.thawed 1
                have s2' := XN.thawed 2
                simp only [List.getElem?_toArray, List.getElem?_cons_zero, List.getElem?_cons_succ] at n0 n1 n2 y0 y1 y2
                clear PN XN
                go_upto_region 13 with fail
                obtain ⟨Wm, hWm⟩ : ∃ Wm, Wm = stored Wn z (.slice a6 L2.length k6) K B := ⟨_, rfl⟩
                have PM : Pairt Wl Wm p q0 e2 mp z L2 (.slice a6 L2.length k6) K B := by rw [hWm]; exact Pairt.stored HPN.out.1.bk HPN.out.1.seg HPN.out.2 rfl HZ.out
                unfold stored at hWm
                rw [← hWm]
                have HPM := Lib.hid PM
                have g0 := fun d os => cell_regrown (PM.box.cell 0) d os
                have g1 := fun d os => cell_regrown (PM.box.cell 1) d os
                have g2 := fun d os => cell_regrown (PM.box.cell 2) d os
                have g3 := fun d os => cell_regrown (HC.out Wm PM.bk.low).2.1 d os
                have HLK : Hid (∀ (x : ByteArray) d os, Calls Try.prog 13 #[.pointer (some ⟨p, 0, none⟩), .agg #[.slice a6 L2.length k6, .int .u64 (K : Int), .int .u64 (B : Int)], .string x] (Sort.grow (redrawn Wm d) os) fun e' w' => e' = .returned (.bool true) ∧ Below (Sort.grow (redrawn Wm d) os).heap.size (Sort.grow (redrawn Wm d) os) w') := fun x d os => looks_any (HPM.out.below (below_regrown Wm d os)).bk (HPM.out.below (below_regrown Wm d os)).seg (by have := HL2.out; omega) x
                clear hWm PM n0 n1 n2 y0 y1 y2 s0' s1' s2'
                refine wp_region_quiet_below (by kernel_rfl) (by kernel_rfl) ?_
                repeat (any_goals (first | go_big_quiet_step ((go_at_call 13; with_reducible exact Calls.regrown_of (HLK.out _ _ _))) | quiet_step (fail)))
                refine wpQuiet_nil ?_
                intro w9 hw9
                have H9 : Hid (Below Wm.heap.size Wm w9) := by obtain ⟨p, rfl⟩ := hw9; exact below_regrown _ _ _
                clear hw9 g0 g1 g2 g3 HLK
                go_wp2_with fail
                go_roundw
                case rel => exact ⟨i + 1, by omega, by simp, e2, L2, _, HPM.out.below H9.out, HL2.out⟩
                case measure => simp [intOf]; omega
              exact AllReadyH.nil
            exact AllReadyH.nil
          refine AllReadyH.cons (o := _) (by simp only [List.getElem?_toArray, List.getElem?_cons_succ, List.getElem?_cons_zero] <;> rfl) (fun K hK => ?_) ?_
          · go_simp
            refine hK.out _ _ ?_ (fun hHeld => ?_)
            · (try dsimp only)
              exact KS.out _ (H5d.out.box.alloc _) (Below.new H5d.out.bk.low _)
            clear hK K
            try simp only [Act.put, List.setIfInBounds_toArray, List.set_cons_zero, List.set_cons_succ]
            refine wpAnyH_ready (rs := [6]) (by kernel_rfl) (by simp) ?_
            refine AllReadyH.cons (o := _) (by simp only [List.getElem?_toArray, List.getElem?_cons_succ, List.getElem?_cons_zero] <;> rfl) (fun K hK => ?_) ?_
            · go_simp
              refine (HD.out _ (Below.new (Below.refl _ _) _)).mono ?_
              rintro e6 w6 ⟨v6, e2, rfl, hH6, hT6, hS6⟩
              obtain ⟨a6, k6, rfl, _, _⟩ := hS6.form
              unfold rb
              have X6 := Lib.hid (hT6.other (H5d.out.below (W' := wq.drew.alloc (.cells #[.slice none 0 0, .int .u64 0, .int .u64 0] 31)) (Below.new (Below.refl _ _) _)).box ((H5d.out.below (W' := wq.drew.alloc (.cells #[.slice none 0 0, .int .u64 0, .int .u64 0] 31)) (Below.new (Below.refl _ _) _)).bk.bk.out (H5d.out.below (W' := wq.drew.alloc (.cells #[.slice none 0 0, .int .u64 0, .int .u64 0] 31)) (Below.new (Below.refl _ _) _)).box (by decide) (by decide)))
              have R6 := Lib.hid (hT6.other (Fresh.new wq.drew wq.heap.size _ _ rfl) ((H5d.out.below (W' := wq.drew.alloc (.cells #[.slice none 0 0, .int .u64 0, .int .u64 0] 31)) (Below.new (Below.refl _ _) _)).bk.bk.out (Fresh.new wq.drew wq.heap.size _ _ rfl) (by decide) (by decide)))
              have t0 := R6.out.cell 0
              have t1 := R6.out.cell 1
              have t2 := R6.out.cell 2
              have s0 := R6.out.thawed 0
              have s1 := R6.out.thawed 1
              have s2 := R6.out.thawed 2
              simp only [List.getElem?_toArray, List.getElem?_cons_zero, List.getElem?_cons_succ] at t0 t1 t2
              have H6 := Lib.hid (And.intro hH6 hS6)
              clear hH6 hT6 hS6
              go_wp2_with fail
              refine hK.out _ _ ?_ (fun hHeld => ?_)
              · (try dsimp only)
                exact KS.out _ X6.out H6.out.1.low
              clear hK K
              try simp only [Act.put, List.setIfInBounds_toArray, List.set_cons_zero, List.set_cons_succ]
              refine wpAnyH_take (i := 7) (oi := ?_) (v := ?_) ?_ (by kernel_rfl) (by kernel_rfl) (by kernel_rfl) ?_ (Or.inl ⟨?_, ?_⟩) (by assumption) ?_
              rotate_left 2
              · simp only [List.getElem?_toArray, List.getElem?_cons_succ, List.getElem?_cons_zero] <;> rfl
              · exact fun _ _ _ h => h
              · rfl
              · (intro w hSw; (try dsimp only at hSw); go_simp; try (with_reducible rfl))
              try simp only [Act.put, List.setIfInBounds_toArray, List.set_cons_zero, List.set_cons_succ]
              refine wpAnyH_take (i := 8) (oi := ?_) (v := ?_) ?_ (by kernel_rfl) (by kernel_rfl) (by kernel_rfl) ?_ (Or.inl ⟨?_, ?_⟩) (by assumption) ?_
              rotate_left 2
              · simp only [List.getElem?_toArray, List.getElem?_cons_succ, List.getElem?_cons_zero] <;> rfl
              · exact fun _ _ _ h => h
              · rfl
              · (intro w hSw; (try dsimp only at hSw); go_simp; try (with_reducible rfl))
              try simp only [Act.put, List.setIfInBounds_toArray, List.set_cons_zero, List.set_cons_succ]
              refine wpAnyH_take (i := 9) (oi := ?_) (v := ?_) ?_ (by kernel_rfl) (by kernel_rfl) (by kernel_rfl) ?_ (Or.inl ⟨?_, ?_⟩) (by assumption) ?_
              rotate_left 2
              · simp only [List.getElem?_toArray, List.getElem?_cons_succ, List.getElem?_cons_zero] <;> rfl
              · exact fun _ _ _ h => h
              · rfl
              · (intro w hSw; (try dsimp only at hSw); go_simp; try (with_reducible rfl))
              try simp only [Act.put, List.setIfInBounds_toArray, List.set_cons_zero, List.set_cons_succ]
              refine wpAnyH_ready (rs := [11]) (by kernel_rfl) (by simp) ?_
              refine AllReadyH.cons (o := _) (by simp only [List.getElem?_toArray, List.getElem?_cons_succ, List.getElem?_cons_zero] <;> rfl) (fun K hK => ?_) ?_
              · go_simp
                refine hK.out _ _ ?_ (fun hHeld => ?_)
                · (try dsimp only)
                  exact KS.out _ (stored_other X6.out (Nat.ne_of_lt HH.out.box.lt)) (Pairt.stored H6.out.1 H6.out.2 R6.out rfl HH.out.bk.low.size).bk.low
                clear hK K
                try simp only [Act.put, List.setIfInBounds_toArray, List.set_cons_zero, List.set_cons_succ]
                refine wpAnyH_take (i := 12) (oi := ?_) (v := ?_) ?_ (by kernel_rfl) (by kernel_rfl) (by kernel_rfl) ?_ (Or.inl ⟨?_, ?_⟩) (by assumption) ?_
                rotate_left 2
                · simp only [List.getElem?_toArray, List.getElem?_cons_succ, List.getElem?_cons_zero] <;> rfl
                · exact fun _ _ _ h => h
                · rfl
                · (intro w hSw; (try dsimp only at hSw); go_simp; try (with_reducible rfl))
                try simp only [Act.put, List.setIfInBounds_toArray, List.set_cons_zero, List.set_cons_succ]
                refine wpAnyH_done (by kernel_rfl) ?_ _
                obtain ⟨Wn, hWn⟩ : ∃ Wn, Wn = stored w6 wq.heap.size (.slice a6 L2.length k6) K B := ⟨_, rfl⟩
                have PN : Pairt Wl Wn p q0 e2 mp wq.heap.size L2 (.slice a6 L2.length k6) K B := by rw [hWn]; exact Pairt.stored H6.out.1 H6.out.2 R6.out rfl HH.out.bk.low.size
                have XN : Fresh Wn z #[.slice av l.length cv, .int .u64 (K : Int), .int .u64 (B : Int)] 31 := by rw [hWn]; exact stored_other X6.out (Nat.ne_of_lt HH.out.box.lt)
                unfold stored at hWn
                change Exit.then _ _ _ _ (((w6.setCell ⟨wq.heap.size, 0, none⟩ _).setCell ⟨wq.heap.size, 1, none⟩ _).setCell ⟨wq.heap.size, 2, none⟩ _)
                rw [← hWn]
                obtain ⟨nb, hnb⟩ : ∃ nb, wq.heap.size = nb := ⟨_, rfl⟩
                rw [hnb] at PN ⊢
                clear hWn hnb
                have HPN := Lib.hid (And.intro PN XN)
                have n0 := PN.box.cell 0
                have n1 := PN.box.cell 1
                have n2 := PN.box.cell 2
                have y0 := XN.cell 0
                have y1 := XN.cell 1
                have y2 := XN.cell 2
                have s0' := XN.thawed 0
                have s1' := XN.thawed 1
                have s2' := XN.thawed 2
                simp only [List.getElem?_toArray, List.getElem?_cons_zero, List.getElem?_cons_succ] at n0 n1 n2 y0 y1 y2
                clear PN XN
                go_upto_region 13 with fail
                obtain ⟨Wm, hWm⟩ : ∃ Wm, Wm = stored Wn z (.slice a6 L2.length k6) K B := ⟨_, rfl⟩
                have PM : Pairt Wl Wm p q0 e2 mp z L2 (.slice a6 L2.length k6) K B := by rw [hWm]; exact Pairt.stored HPN.out.1.bk HPN.out.1.seg HPN.out.2 rfl HZ.out
                unfold stored at hWm
                rw [← hWm]
                have HPM := Lib.hid PM
                have g0 := fun d os => cell_regrown (PM.box.cell 0) d os
                have g1 := fun d os => cell_regrown (PM.box.cell 1) d os
                have g2 := fun d os => cell_regrown (PM.box.cell 2) d os
                have g3 := fun d os => cell_regrown (HC.out Wm PM.bk.low).2.1 d os
                have HLK : Hid (∀ (x : ByteArray) d os, Calls Try.prog 13 #[.pointer (some ⟨p, 0, none⟩), .agg #[.slice a6 L2.length k6, .int .u64 (K : Int), .int .u64 (B : Int)], .string x] (Sort.grow (redrawn Wm d) os) fun e' w' => e' = .returned (.bool true) ∧ Below (Sort.grow (redrawn Wm d) os).heap.size (Sort.grow (redrawn Wm d) os) w') := fun x d os => looks_any (HPM.out.below (below_regrown Wm d os)).bk (HPM.out.below (below_regrown Wm d os)).seg (by have := HL2.out; omega) x
                clear hWm PM n0 n1 n2 y0 y1 y2 s0' s1' s2'
                refine wp_region_quiet_below (by kernel_rfl) (by kernel_rfl) ?_
                repeat (any_goals (first | go_big_quiet_step ((go_at_call 13; with_reducible exact Calls.regrown_of (HLK.out _ _ _))) | quiet_step (fail)))
                refine wpQuiet_nil ?_
                intro w9 hw9
                have H9 : Hid (Below Wm.heap.size Wm w9) := by obtain ⟨p, rfl⟩ := hw9; exact below_regrown _ _ _
                clear hw9 g0 g1 g2 g3 HLK
                go_wp2_with fail
                go_roundw
                case rel => exact ⟨i + 1, by omega, by simp, e2, L2, _, HPM.out.below H9.out, HL2.out⟩
                case measure => simp [intOf]; omega
              exact AllReadyH.nil
            exact AllReadyH.nil
          exact AllReadyH.nil
        · obtain rfl : i = 15 := by omega
          have HE := Lib.hid (Below.step HWL.out HH.out.bk.low)
          clear hH hl hi
          go_wp2_with fail
          go_roundw
          case rel => exact ⟨n + 1, by omega, by simp, HE.out⟩
          case measure => simp [intOf]; omega
    · obtain rfl : n = 65 := by omega
      clear hbw hn
      go_upto_region 16 with fail
      obtain ⟨K, hK⟩ : ∃ K : Nat, (18446744073709551615 : Int) = (K : Int) := ⟨18446744073709551615, rfl⟩
      rw [hK]
      clear hK
      obtain ⟨Wl, hWl⟩ : ∃ Wl, Wl = wr.alloc (.cells #[.int .u64 (K : Int), .int .u64 (K : Int)] 24) := ⟨_, rfl⟩
      rw [← hWl]
      have bl : Below wr.heap.size wr Wl := by rw [hWl]; exact Below.new (Below.refl _ _) _
      have fl : Fresh Wl wr.heap.size #[.int .u64 (K : Int), .int .u64 (K : Int)] 24 := by rw [hWl]; exact Fresh.new _ _ _ _ rfl
      have g0 := fl.cell 0
      have g1 := fl.cell 1
      simp only [List.getElem?_toArray, List.getElem?_cons_zero, List.getElem?_cons_succ] at g0 g1
      have HWL := Lib.hid (Below.step HBW.out bl)
      clear hWl bl fl
      go_upto_region 18 with (first
        | (go_at_call 10; refine (new_here K K _ _ (Below.refl _ _)).mono ?_; rintro e3 w3 ⟨p, q0, mp, rfl, h3⟩; have H3 := Lib.hid h3; have g0 := (h3.low.cell (cell_lt g0)).trans g0; have g1 := (h3.low.cell (cell_lt g1)).trans g1; clear h3))
      obtain ⟨W4, hW4⟩ : ∃ W4, W4 = w3.alloc (.cells #[.slice none 0 0, .int .u64 (K : Int), .int .u64 (K : Int)] 31) := ⟨_, rfl⟩
      rw [← hW4]
      have H4 : Hid (Pairt Wl W4 p q0 q0 mp w3.heap.size [] (.slice none 0 0) K K) := by
        have b4 : Below w3.heap.size w3 W4 := by rw [hW4]; exact Below.new (Below.refl _ _) _
        exact ⟨H3.out.below b4, Seg.nil _, by rw [hW4]; exact Fresh.new _ _ _ _ rfl⟩
      have HZ : Hid (Wl.heap.size ≤ w3.heap.size) := H3.out.low.size
      obtain ⟨z, hz⟩ : ∃ z, w3.heap.size = z := ⟨_, rfl⟩
      rw [hz] at H4 HZ ⊢
      clear hW4 hz g0 g1
      go_wp2_with fail
      obtain ⟨wo, hwo⟩ : ∃ wo, wo = wr := ⟨_, rfl⟩
      rw [← hwo] at *
      clear hwo
      go_loopw [12] (fun nv wq => ∃ n : Nat, n ≤ 27 ∧ nv = .int .i64 n ∧ ∃ e l v, Pairt Wl wq p q0 e mp z l v K K ∧ l.length ≤ 6 * n) (fun nv _ => 27 - (intOf nv).toNat)
      case atStart => exact ⟨0, Nat.zero_le _, rfl, q0, [], _, H4.out, Nat.le_refl _⟩
      case round =>
        obtain ⟨n, hn, rfl, e, l, v, hH, hl⟩ := hrel
        have HH := Lib.hid hH
        have HL := Lib.hid hl
        by_cases hlt2 : n < 27
        · have jl2 : (n : Int) < 27 := by omega
          have j02 : (0 : Int) ≤ (n : Int) := by omega
          have jd2 : decide (n < 27) = true := decide_eq_true hlt2
          clear hH hl hn
          go_upto_region 21 with fail
          obtain ⟨m1, m2, m3, d3, d9, q1, q2, q3, u1, u2, u3, u4, u5, u6, u7, u8, q4⟩ := idx_facts n hlt2
          have u1' : IntKind.i64.wrap (15 + (n : Int).tmod 3) = (m1 : Int) := by rw [Int.tmod_eq_emod_of_nonneg j02]; exact u1
          have u2' : IntKind.i64.wrap ((n : Int).tdiv 3) = (d3 : Int) := by rw [Int.tdiv_eq_ediv_of_nonneg j02]; exact u2
          have hmk1 := make_u m1 q1
          have hmk2 := make_u m2 q2
          have hmk3 := make_u3 m3 q3
          have hcl3 := conv_zeros m3
          go_cut [13, 14] (fun s1 s2 wx => ∃ x1 x2 : ByteArray, s1 = .string x1 ∧ s2 = .string x2 ∧ Below wr.heap.size wr wx)
          case first =>
            clear hcl3 hmk3 u5 u6 u7 u8 q4
            refine wp_region_held_drew (S := fun _ => True) (by kernel_rfl) ?_ (fun hHeld => ?_)
            · (try dsimp only)
              all_goals trivial
            refine wpAnyH_take (i := 0) (oi := ?_) (v := ?_) ?_ (by kernel_rfl) (by kernel_rfl) (by kernel_rfl) ?_ (Or.inl ⟨?_, ?_⟩) (by assumption) ?_
            rotate_left 2
            · simp only [List.getElem?_toArray, List.getElem?_cons_succ, List.getElem?_cons_zero] <;> rfl
            · exact fun _ _ _ h => h
            · rfl
            · (intro w hSw; (try dsimp only at hSw); go_simp; try (with_reducible rfl))
            try simp only [Act.put, List.setIfInBounds_toArray, List.set_cons_zero, List.set_cons_succ]
            refine wpAnyH_take (i := 1) (oi := ?_) (v := ?_) ?_ (by kernel_rfl) (by kernel_rfl) (by kernel_rfl) ?_ (Or.inl ⟨?_, ?_⟩) (by assumption) ?_
            rotate_left 2
            · simp only [List.getElem?_toArray, List.getElem?_cons_succ, List.getElem?_cons_zero] <;> rfl
            · exact fun _ _ _ h => h
            · rfl
            · (intro w hSw; (try dsimp only at hSw); go_simp; try (with_reducible rfl))
            try simp only [Act.put, List.setIfInBounds_toArray, List.set_cons_zero, List.set_cons_succ]
            refine wpAnyH_take (i := 2) (oi := ?_) (v := ?_) ?_ (by kernel_rfl) (by kernel_rfl) (by kernel_rfl) ?_ (Or.inl ⟨?_, ?_⟩) (by assumption) ?_
            rotate_left 2
            · simp only [List.getElem?_toArray, List.getElem?_cons_succ, List.getElem?_cons_zero] <;> rfl
            · exact fun _ _ _ h => h
            · rfl
            · (intro w hSw; (try dsimp only at hSw); go_simp; try (with_reducible rfl))
            try simp only [Act.put, List.setIfInBounds_toArray, List.set_cons_zero, List.set_cons_succ]
            refine wpAnyH_take (i := 5) (oi := ?_) (v := ?_) ?_ (by kernel_rfl) (by kernel_rfl) (by kernel_rfl) ?_ (Or.inl ⟨?_, ?_⟩) (by assumption) ?_
            rotate_left 2
            · simp only [List.getElem?_toArray, List.getElem?_cons_succ, List.getElem?_cons_zero] <;> rfl
            · exact fun _ _ _ h => h
            · rfl
            · (intro w hSw; (try dsimp only at hSw); go_simp; try (with_reducible rfl))
            try simp only [Act.put, List.setIfInBounds_toArray, List.set_cons_zero, List.set_cons_succ]
            refine wpAnyH_take (i := 6) (oi := ?_) (v := ?_) ?_ (by kernel_rfl) (by kernel_rfl) (by kernel_rfl) ?_ (Or.inl ⟨?_, ?_⟩) (by assumption) ?_
            rotate_left 2
            · simp only [List.getElem?_toArray, List.getElem?_cons_succ, List.getElem?_cons_zero] <;> rfl
            · exact fun _ _ _ h => h
            · rfl
            · (intro w hSw; (try dsimp only at hSw); go_simp; try (with_reducible rfl))
            try simp only [Act.put, List.setIfInBounds_toArray, List.set_cons_zero, List.set_cons_succ]
            refine wpAnyH_take (i := 7) (oi := ?_) (v := ?_) ?_ (by kernel_rfl) (by kernel_rfl) (by kernel_rfl) ?_ (Or.inl ⟨?_, ?_⟩) (by assumption) ?_
            rotate_left 2
            · simp only [List.getElem?_toArray, List.getElem?_cons_succ, List.getElem?_cons_zero] <;> rfl
            · exact fun _ _ _ h => h
            · rfl
            · (intro w hSw; (try dsimp only at hSw); go_simp; try (with_reducible rfl))
            try simp only [Act.put, List.setIfInBounds_toArray, List.set_cons_zero, List.set_cons_succ]
            refine wpAnyH_take (i := 8) (oi := ?_) (v := ?_) ?_ (by kernel_rfl) (by kernel_rfl) (by kernel_rfl) ?_ (Or.inl ⟨?_, ?_⟩) (by assumption) ?_
            rotate_left 2
            · simp only [List.getElem?_toArray, List.getElem?_cons_succ, List.getElem?_cons_zero] <;> rfl
            · exact fun _ _ _ h => h
            · rfl
            · (intro w hSw; (try dsimp only at hSw); go_simp; try (with_reducible rfl))
            try simp only [Act.put, List.setIfInBounds_toArray, List.set_cons_zero, List.set_cons_succ]
            refine wpAnyH_ready (rs := [3, 9]) (by kernel_rfl) (by simp) ?_
            refine AllReadyH.cons (o := _) (by simp only [List.getElem?_toArray, List.getElem?_cons_succ, List.getElem?_cons_zero] <;> rfl) (fun K hK => ?_) ?_
            · obtain ⟨Wa, ra, fa, ba⟩ := hmk1 wr.drew
              go_simp
              refine hK.out _ _ ?_ (fun hHeld => ?_)
              · (try dsimp only)
                all_goals trivial
              clear hK K
              try simp only [Act.put, List.setIfInBounds_toArray, List.set_cons_zero, List.set_cons_succ]
              refine wpAnyH_ready (rs := [4, 9]) (by kernel_rfl) (by simp) ?_
              refine AllReadyH.cons (o := _) (by simp only [List.getElem?_toArray, List.getElem?_cons_succ, List.getElem?_cons_zero] <;> rfl) (fun K hK => ?_) ?_
              · have hcv := conv_fresh (b := wr.heap.size) fa
                go_simp
                refine hK.out _ _ ?_ (fun hHeld => ?_)
                · (try dsimp only)
                  all_goals trivial
                clear hK K
                try simp only [Act.put, List.setIfInBounds_toArray, List.set_cons_zero, List.set_cons_succ]
                refine wpAnyH_take (i := 11) (oi := ?_) (v := ?_) ?_ (by kernel_rfl) (by kernel_rfl) (by kernel_rfl) ?_ (Or.inl ⟨?_, ?_⟩) (by assumption) ?_
                rotate_left 2
                · simp only [List.getElem?_toArray, List.getElem?_cons_succ, List.getElem?_cons_zero] <;> rfl
                · exact fun _ _ _ h => h
                · rfl
                · (intro w hSw; (try dsimp only at hSw); go_simp; try (with_reducible rfl))
                try simp only [Act.put, List.setIfInBounds_toArray, List.set_cons_zero, List.set_cons_succ]
                refine wpAnyH_ready (rs := [9]) (by kernel_rfl) (by simp) ?_
                refine AllReadyH.cons (o := _) (by simp only [List.getElem?_toArray, List.getElem?_cons_succ, List.getElem?_cons_zero] <;> rfl) (fun K hK => ?_) ?_
                · obtain ⟨Wb, rb, fb, bb⟩ := hmk2 Wa
                  go_simp
                  refine hK.out _ _ ?_ (fun hHeld => ?_)
                  · (try dsimp only)
                    all_goals trivial
                  clear hK K
                  try simp only [Act.put, List.setIfInBounds_toArray, List.set_cons_zero, List.set_cons_succ]
                  refine wpAnyH_ready (rs := [10]) (by kernel_rfl) (by simp) ?_
                  refine AllReadyH.cons (o := _) (by simp only [List.getElem?_toArray, List.getElem?_cons_succ, List.getElem?_cons_zero] <;> rfl) (fun K hK => ?_) ?_
                  · have hcv := conv_fresh fb
                    go_simp
                    refine hK.out _ _ ?_ (fun hHeld => ?_)
                    · (try dsimp only)
                      all_goals trivial
                    clear hK K
                    try simp only [Act.put, List.setIfInBounds_toArray, List.set_cons_zero, List.set_cons_succ]
                    refine wpAnyH_take (i := 12) (oi := ?_) (v := ?_) ?_ (by kernel_rfl) (by kernel_rfl) (by kernel_rfl) ?_ (Or.inl ⟨?_, ?_⟩) (by assumption) ?_
                    rotate_left 2
                    · simp only [List.getElem?_toArray, List.getElem?_cons_succ, List.getElem?_cons_zero] <;> rfl
                    · exact fun _ _ _ h => h
                    · rfl
                    · (intro w hSw; (try dsimp only at hSw); go_simp; try (with_reducible rfl))
                    try simp only [Act.put, List.setIfInBounds_toArray, List.set_cons_zero, List.set_cons_succ]
                    refine wpAnyH_done (by kernel_rfl) ?_ _
                    go_wp2_with fail
                    go_meet
                    exact ⟨_, _, rfl, rfl, Below.step (Below.step (Below.refl _ _).drew ba) bb⟩
                  exact AllReadyH.nil
                exact AllReadyH.nil
              refine AllReadyH.cons (o := _) (by simp only [List.getElem?_toArray, List.getElem?_cons_succ, List.getElem?_cons_zero] <;> rfl) (fun K hK => ?_) ?_
              · obtain ⟨Wb, rb, fb, bb⟩ := hmk2 Wa
                go_simp
                refine hK.out _ _ ?_ (fun hHeld => ?_)
                · (try dsimp only)
                  all_goals trivial
                clear hK K
                try simp only [Act.put, List.setIfInBounds_toArray, List.set_cons_zero, List.set_cons_succ]
                refine wpAnyH_ready (rs := [4, 10]) (by kernel_rfl) (by simp) ?_
                refine AllReadyH.cons (o := _) (by simp only [List.getElem?_toArray, List.getElem?_cons_succ, List.getElem?_cons_zero] <;> rfl) (fun K hK => ?_) ?_
                · have hcv := conv_fresh (b := wr.heap.size) (fa.below bb)
                  go_simp
                  refine hK.out _ _ ?_ (fun hHeld => ?_)
                  · (try dsimp only)
                    all_goals trivial
                  clear hK K
                  try simp only [Act.put, List.setIfInBounds_toArray, List.set_cons_zero, List.set_cons_succ]
                  refine wpAnyH_take (i := 11) (oi := ?_) (v := ?_) ?_ (by kernel_rfl) (by kernel_rfl) (by kernel_rfl) ?_ (Or.inl ⟨?_, ?_⟩) (by assumption) ?_
                  rotate_left 2
                  · simp only [List.getElem?_toArray, List.getElem?_cons_succ, List.getElem?_cons_zero] <;> rfl
                  · exact fun _ _ _ h => h
                  · rfl
                  · (intro w hSw; (try dsimp only at hSw); go_simp; try (with_reducible rfl))
                  try simp only [Act.put, List.setIfInBounds_toArray, List.set_cons_zero, List.set_cons_succ]
                  refine wpAnyH_ready (rs := [10]) (by kernel_rfl) (by simp) ?_
                  refine AllReadyH.cons (o := _) (by simp only [List.getElem?_toArray, List.getElem?_cons_succ, List.getElem?_cons_zero] <;> rfl) (fun K hK => ?_) ?_
                  · have hcv := conv_fresh fb
                    go_simp
                    refine hK.out _ _ ?_ (fun hHeld => ?_)
                    · (try dsimp only)
                      all_goals trivial
                    clear hK K
                    try simp only [Act.put, List.setIfInBounds_toArray, List.set_cons_zero, List.set_cons_succ]
                    refine wpAnyH_take (i := 12) (oi := ?_) (v := ?_) ?_ (by kernel_rfl) (by kernel_rfl) (by kernel_rfl) ?_ (Or.inl ⟨?_, ?_⟩) (by assumption) ?_
                    rotate_left 2
                    · simp only [List.getElem?_toArray, List.getElem?_cons_succ, List.getElem?_cons_zero] <;> rfl
                    · exact fun _ _ _ h => h
                    · rfl
                    · (intro w hSw; (try dsimp only at hSw); go_simp; try (with_reducible rfl))
                    try simp only [Act.put, List.setIfInBounds_toArray, List.set_cons_zero, List.set_cons_succ]
                    refine wpAnyH_done (by kernel_rfl) ?_ _
                    go_wp2_with fail
                    go_meet
                    exact ⟨_, _, rfl, rfl, Below.step (Below.step (Below.refl _ _).drew ba) bb⟩
                  exact AllReadyH.nil
                refine AllReadyH.cons (o := _) (by simp only [List.getElem?_toArray, List.getElem?_cons_succ, List.getElem?_cons_zero] <;> rfl) (fun K hK => ?_) ?_
                · have hcv := conv_fresh fb
                  go_simp
                  refine hK.out _ _ ?_ (fun hHeld => ?_)
                  · (try dsimp only)
                    all_goals trivial
                  clear hK K
                  try simp only [Act.put, List.setIfInBounds_toArray, List.set_cons_zero, List.set_cons_succ]
                  refine wpAnyH_ready (rs := [4]) (by kernel_rfl) (by simp) ?_
                  refine AllReadyH.cons (o := _) (by simp only [List.getElem?_toArray, List.getElem?_cons_succ, List.getElem?_cons_zero] <;> rfl) (fun K hK => ?_) ?_
                  · have hcv := conv_fresh (b := wr.heap.size) (fa.below bb)
                    go_simp
                    refine hK.out _ _ ?_ (fun hHeld => ?_)
                    · (try dsimp only)
                      all_goals trivial
                    clear hK K
                    try simp only [Act.put, List.setIfInBounds_toArray, List.set_cons_zero, List.set_cons_succ]
                    refine wpAnyH_take (i := 11) (oi := ?_) (v := ?_) ?_ (by kernel_rfl) (by kernel_rfl) (by kernel_rfl) ?_ (Or.inl ⟨?_, ?_⟩) (by assumption) ?_
                    rotate_left 2
                    · simp only [List.getElem?_toArray, List.getElem?_cons_succ, List.getElem?_cons_zero] <;> rfl
                    · exact fun _ _ _ h => h
                    · rfl
                    · (intro w hSw; (try dsimp only at hSw); go_simp; try (with_reducible rfl))
                    try simp only [Act.put, List.setIfInBounds_toArray, List.set_cons_zero, List.set_cons_succ]
                    refine wpAnyH_take (i := 12) (oi := ?_) (v := ?_) ?_ (by kernel_rfl) (by kernel_rfl) (by kernel_rfl) ?_ (Or.inl ⟨?_, ?_⟩) (by assumption) ?_
                    rotate_left 2
                    · simp only [List.getElem?_toArray, List.getElem?_cons_succ, List.getElem?_cons_zero] <;> rfl
                    · exact fun _ _ _ h => h
                    · rfl
                    · (intro w hSw; (try dsimp only at hSw); go_simp; try (with_reducible rfl))
                    try simp only [Act.put, List.setIfInBounds_toArray, List.set_cons_zero, List.set_cons_succ]
                    refine wpAnyH_done (by kernel_rfl) ?_ _
                    go_wp2_with fail
                    go_meet
                    exact ⟨_, _, rfl, rfl, Below.step (Below.step (Below.refl _ _).drew ba) bb⟩
                  exact AllReadyH.nil
                exact AllReadyH.nil
              exact AllReadyH.nil
            refine AllReadyH.cons (o := _) (by simp only [List.getElem?_toArray, List.getElem?_cons_succ, List.getElem?_cons_zero] <;> rfl) (fun K hK => ?_) ?_
            · obtain ⟨Wb, rb, fb, bb⟩ := hmk2 wr.drew
              go_simp
              refine hK.out _ _ ?_ (fun hHeld => ?_)
              · (try dsimp only)
                all_goals trivial
              clear hK K
              try simp only [Act.put, List.setIfInBounds_toArray, List.set_cons_zero, List.set_cons_succ]
              refine wpAnyH_ready (rs := [3, 10]) (by kernel_rfl) (by simp) ?_
              refine AllReadyH.cons (o := _) (by simp only [List.getElem?_toArray, List.getElem?_cons_succ, List.getElem?_cons_zero] <;> rfl) (fun K hK => ?_) ?_
              · obtain ⟨Wa, ra, fa, ba⟩ := hmk1 Wb
                go_simp
                refine hK.out _ _ ?_ (fun hHeld => ?_)
                · (try dsimp only)
                  all_goals trivial
                clear hK K
                try simp only [Act.put, List.setIfInBounds_toArray, List.set_cons_zero, List.set_cons_succ]
                refine wpAnyH_ready (rs := [4, 10]) (by kernel_rfl) (by simp) ?_
                refine AllReadyH.cons (o := _) (by simp only [List.getElem?_toArray, List.getElem?_cons_succ, List.getElem?_cons_zero] <;> rfl) (fun K hK => ?_) ?_
                · have hcv := conv_fresh fa
                  go_simp
                  refine hK.out _ _ ?_ (fun hHeld => ?_)
                  · (try dsimp only)
                    all_goals trivial
                  clear hK K
                  try simp only [Act.put, List.setIfInBounds_toArray, List.set_cons_zero, List.set_cons_succ]
                  refine wpAnyH_take (i := 11) (oi := ?_) (v := ?_) ?_ (by kernel_rfl) (by kernel_rfl) (by kernel_rfl) ?_ (Or.inl ⟨?_, ?_⟩) (by assumption) ?_
                  rotate_left 2
                  · simp only [List.getElem?_toArray, List.getElem?_cons_succ, List.getElem?_cons_zero] <;> rfl
                  · exact fun _ _ _ h => h
                  · rfl
                  · (intro w hSw; (try dsimp only at hSw); go_simp; try (with_reducible rfl))
                  try simp only [Act.put, List.setIfInBounds_toArray, List.set_cons_zero, List.set_cons_succ]
                  refine wpAnyH_ready (rs := [10]) (by kernel_rfl) (by simp) ?_
                  refine AllReadyH.cons (o := _) (by simp only [List.getElem?_toArray, List.getElem?_cons_succ, List.getElem?_cons_zero] <;> rfl) (fun K hK => ?_) ?_
                  · have hcv := conv_fresh (b := wr.heap.size) (fb.below ba)
                    go_simp
                    refine hK.out _ _ ?_ (fun hHeld => ?_)
                    · (try dsimp only)
                      all_goals trivial
                    clear hK K
                    try simp only [Act.put, List.setIfInBounds_toArray, List.set_cons_zero, List.set_cons_succ]
                    refine wpAnyH_take (i := 12) (oi := ?_) (v := ?_) ?_ (by kernel_rfl) (by kernel_rfl) (by kernel_rfl) ?_ (Or.inl ⟨?_, ?_⟩) (by assumption) ?_
                    rotate_left 2
                    · simp only [List.getElem?_toArray, List.getElem?_cons_succ, List.getElem?_cons_zero] <;> rfl
                    · exact fun _ _ _ h => h
                    · rfl
                    · (intro w hSw; (try dsimp only at hSw); go_simp; try (with_reducible rfl))
                    try simp only [Act.put, List.setIfInBounds_toArray, List.set_cons_zero, List.set_cons_succ]
                    refine wpAnyH_done (by kernel_rfl) ?_ _
                    go_wp2_with fail
                    go_meet
                    exact ⟨_, _, rfl, rfl, Below.step (Below.step (Below.refl _ _).drew bb) ba⟩
                  exact AllReadyH.nil
                refine AllReadyH.cons (o := _) (by simp only [List.getElem?_toArray, List.getElem?_cons_succ, List.getElem?_cons_zero] <;> rfl) (fun K hK => ?_) ?_
                · have hcv := conv_fresh (b := wr.heap.size) (fb.below ba)
                  go_simp
                  refine hK.out _ _ ?_ (fun hHeld => ?_)
                  · (try dsimp only)
                    all_goals trivial
                  clear hK K
                  try simp only [Act.put, List.setIfInBounds_toArray, List.set_cons_zero, List.set_cons_succ]
                  refine wpAnyH_ready (rs := [4]) (by kernel_rfl) (by simp) ?_
                  refine AllReadyH.cons (o := _) (by simp only [List.getElem?_toArray, List.getElem?_cons_succ, List.getElem?_cons_zero] <;> rfl) (fun K hK => ?_) ?_
                  · have hcv := conv_fresh fa
                    go_simp
                    refine hK.out _ _ ?_ (fun hHeld => ?_)
                    · (try dsimp only)
                      all_goals trivial
                    clear hK K
                    try simp only [Act.put, List.setIfInBounds_toArray, List.set_cons_zero, List.set_cons_succ]
                    refine wpAnyH_take (i := 11) (oi := ?_) (v := ?_) ?_ (by kernel_rfl) (by kernel_rfl) (by kernel_rfl) ?_ (Or.inl ⟨?_, ?_⟩) (by assumption) ?_
                    rotate_left 2
                    · simp only [List.getElem?_toArray, List.getElem?_cons_succ, List.getElem?_cons_zero] <;> rfl
                    · exact fun _ _ _ h => h
                    · rfl
                    · (intro w hSw; (try dsimp only at hSw); go_simp; try (with_reducible rfl))
                    try simp only [Act.put, List.setIfInBounds_toArray, List.set_cons_zero, List.set_cons_succ]
                    refine wpAnyH_take (i := 12) (oi := ?_) (v := ?_) ?_ (by kernel_rfl) (by kernel_rfl) (by kernel_rfl) ?_ (Or.inl ⟨?_, ?_⟩) (by assumption) ?_
                    rotate_left 2
                    · simp only [List.getElem?_toArray, List.getElem?_cons_succ, List.getElem?_cons_zero] <;> rfl
                    · exact fun _ _ _ h => h
                    · rfl
                    · (intro w hSw; (try dsimp only at hSw); go_simp; try (with_reducible rfl))
                    try simp only [Act.put, List.setIfInBounds_toArray, List.set_cons_zero, List.set_cons_succ]
                    refine wpAnyH_done (by kernel_rfl) ?_ _
                    go_wp2_with fail
                    go_meet
                    exact ⟨_, _, rfl, rfl, Below.step (Below.step (Below.refl _ _).drew bb) ba⟩
                  exact AllReadyH.nil
                exact AllReadyH.nil
              refine AllReadyH.cons (o := _) (by simp only [List.getElem?_toArray, List.getElem?_cons_succ, List.getElem?_cons_zero] <;> rfl) (fun K hK => ?_) ?_
              · have hcv := conv_fresh (b := wr.heap.size) fb
                go_simp
                refine hK.out _ _ ?_ (fun hHeld => ?_)
                · (try dsimp only)
                  all_goals trivial
                clear hK K
                try simp only [Act.put, List.setIfInBounds_toArray, List.set_cons_zero, List.set_cons_succ]
                refine wpAnyH_ready (rs := [3]) (by kernel_rfl) (by simp) ?_
                refine AllReadyH.cons (o := _) (by simp only [List.getElem?_toArray, List.getElem?_cons_succ, List.getElem?_cons_zero] <;> rfl) (fun K hK => ?_) ?_
                · obtain ⟨Wa, ra, fa, ba⟩ := hmk1 Wb
                  go_simp
                  refine hK.out _ _ ?_ (fun hHeld => ?_)
                  · (try dsimp only)
                    all_goals trivial
                  clear hK K
                  try simp only [Act.put, List.setIfInBounds_toArray, List.set_cons_zero, List.set_cons_succ]
                  refine wpAnyH_ready (rs := [4]) (by kernel_rfl) (by simp) ?_
                  refine AllReadyH.cons (o := _) (by simp only [List.getElem?_toArray, List.getElem?_cons_succ, List.getElem?_cons_zero] <;> rfl) (fun K hK => ?_) ?_
                  · have hcv := conv_fresh fa
                    go_simp
                    refine hK.out _ _ ?_ (fun hHeld => ?_)
                    · (try dsimp only)
                      all_goals trivial
                    clear hK K
                    try simp only [Act.put, List.setIfInBounds_toArray, List.set_cons_zero, List.set_cons_succ]
                    refine wpAnyH_take (i := 11) (oi := ?_) (v := ?_) ?_ (by kernel_rfl) (by kernel_rfl) (by kernel_rfl) ?_ (Or.inl ⟨?_, ?_⟩) (by assumption) ?_
                    rotate_left 2
                    · simp only [List.getElem?_toArray, List.getElem?_cons_succ, List.getElem?_cons_zero] <;> rfl
                    · exact fun _ _ _ h => h
                    · rfl
                    · (intro w hSw; (try dsimp only at hSw); go_simp; try (with_reducible rfl))
                    try simp only [Act.put, List.setIfInBounds_toArray, List.set_cons_zero, List.set_cons_succ]
                    refine wpAnyH_take (i := 12) (oi := ?_) (v := ?_) ?_ (by kernel_rfl) (by kernel_rfl) (by kernel_rfl) ?_ (Or.inl ⟨?_, ?_⟩) (by assumption) ?_
                    rotate_left 2
                    · simp only [List.getElem?_toArray, List.getElem?_cons_succ, List.getElem?_cons_zero] <;> rfl
                    · exact fun _ _ _ h => h
                    · rfl
                    · (intro w hSw; (try dsimp only at hSw); go_simp; try (with_reducible rfl))
                    try simp only [Act.put, List.setIfInBounds_toArray, List.set_cons_zero, List.set_cons_succ]
                    refine wpAnyH_done (by kernel_rfl) ?_ _
                    go_wp2_with fail
                    go_meet
                    exact ⟨_, _, rfl, rfl, Below.step (Below.step (Below.refl _ _).drew bb) ba⟩
                  exact AllReadyH.nil
                exact AllReadyH.nil
              exact AllReadyH.nil
            exact AllReadyH.nil
          case rest =>
            obtain ⟨x1, x2, rfl, rfl, hbx⟩ := hcut
            have HBX := Lib.hid hbx
            clear hbx hmk1 hmk2
            clear hcl3 hmk3 u1 u2 u3 u4 u5 u6 u7 u8 q4 u1' u2' q1 q2 q3
            obtain ⟨m3, q3, q4, u9⟩ := idx_nine n hlt2
            have hmk3 := make_u3 m3 q3
            have hcl3 := conv_zeros m3
            go_upto_region 23 with fail
            obtain ⟨Wv, hWv⟩ : ∃ Wv, Wv = wc.alloc (.cells (madeCells #[.int .u8 0] m3) 5) := ⟨_, rfl⟩
            rw [← hWv]
            have HV : Hid (Pairt Wl Wv p q0 e mp z l v K K) := HH.out.below (Below.step HBX.out (by rw [hWv]; exact Below.new (Below.refl _ _) _))
            obtain ⟨x3, hx3⟩ : ∃ x3, zeros m3 = x3 := ⟨_, rfl⟩
            rw [hx3]
            clear hWv hx3 hcl3 hmk3 q4 u9 q3 HH HBX
            go_wp2_with fail
            obtain ⟨wo2, hwo2⟩ : ∃ wo2, wo2 = wr := ⟨_, rfl⟩
            rw [← hwo2] at *
            clear hwo2
            go_loopw [16] (fun iv wq => ∃ j : Nat, j ≤ 6 ∧ iv = .int .i64 j ∧ ∃ e l v, Pairt Wl wq p q0 e mp z l v K K ∧ l.length ≤ 6 * n + j) (fun iv _ => 6 - (intOf iv).toNat)
            case atStart => exact ⟨0, Nat.zero_le _, rfl, e, l, v, HV.out, HL.out⟩
            case round =>
              obtain ⟨j, hj, rfl, e, l, v, hH, hl⟩ := hrel
              obtain ⟨wq, hwq⟩ : ∃ wq, wq = wr := ⟨_, rfl⟩
              rw [← hwq] at hH ⊢
              clear hwq HV HL
              obtain ⟨av, cv, rfl, _, _⟩ := hH.seg.form
              have HH := Lib.hid hH
              have HL := Lib.hid hl
              by_cases hlt3 : j < 6
              · have jl3 : (j : Int) < 6 := by omega
                have j03 : (0 : Int) ≤ (j : Int) := by omega
                have jd3 : decide (j < 6) = true := decide_eq_true hlt3
                obtain ⟨r, hr7, r1, r2, r3, r4, r5, r0, r7⟩ := seven_idx n j hlt2 hlt3
                clear r1 r4 r5
                obtain ⟨nj, hnj⟩ : ∃ nj, n + j = nj := ⟨_, rfl⟩
                rw [hnj] at r2 r3
                obtain ⟨num, hnum⟩ := seven_at r hr7
                have HSV := Lib.hid hnum
                clear hH hl hj hnum hr7 hnj
                go_upto_region 26 with fail
                have H5d : Hid (Pairt Wl wq.drew p q0 e mp z l (.slice av l.length cv) K K) := HH.out.below (Below.refl _ _).drew
                obtain ⟨dd, hdd⟩ : ∃ dd : Dd, dd = ⟨(j : Int), x1, x2, x3, num⟩ := ⟨_, rfl⟩
                have HD : Hid (∀ W', Below wq.drew.heap.size wq.drew W' → Calls Try.prog 12 #[.pointer (some ⟨p, 0, none⟩), rb (.slice av l.length cv) K K, dd.v] W' (DoesB Wl W' p q0 e mp K K (actS dd l K K).1)) := fun W' hb => does_any (H5d.out.below hb).bk (H5d.out.below hb).seg (by have := HL.out; omega) dd
                obtain ⟨L2, hL2⟩ : ∃ L2, (actS dd l K K).1 = L2 := ⟨_, rfl⟩
                rw [hL2] at HD
                have HL2 : Hid (L2.length ≤ 6 * n + j + 1) := by
                  show _ ≤ _
                  have := act_len dd l K K
                  have := HL.out
                  rw [hL2] at *
                  omega
                unfold rb Dd.v at HD
                rw [hdd] at HD
                have KS : Hid (∀ W', Fresh W' z #[.slice av l.length cv, .int .u64 (K : Int), .int .u64 (K : Int)] 31 → W'.cell? ⟨z, 0, none⟩ = some (.slice av l.length cv) ∧ W'.cell? ⟨z, 1, none⟩ = some (.int .u64 (K : Int)) ∧ W'.cell? ⟨z, 2, none⟩ = some (.int .u64 (K : Int))) := fun W' hf => ⟨hf.cell 0, hf.cell 1, hf.cell 2⟩
                clear hL2 hdd
                refine wp_region_held_drew (S := fun W' => W'.cell? ⟨z, 0, none⟩ = some (.slice av l.length cv) ∧ W'.cell? ⟨z, 1, none⟩ = some (.int .u64 (K : Int)) ∧ W'.cell? ⟨z, 2, none⟩ = some (.int .u64 (K : Int))) (by kernel_rfl) ?_ (fun hHeld => ?_)
                · (try dsimp only)
                  exact KS.out _ (H5d.out.box)
                refine wpAnyH_take (i := 0) (oi := ?_) (v := ?_) ?_ (by kernel_rfl) (by kernel_rfl) (by kernel_rfl) ?_ (Or.inl ⟨?_, ?_⟩) (by assumption) ?_
                rotate_left 2
                · simp only [List.getElem?_toArray, List.getElem?_cons_succ, List.getElem?_cons_zero] <;> rfl
                · exact fun _ _ _ h => h
                · rfl
                · (intro w hSw; (try dsimp only at hSw); go_simp; try (with_reducible rfl))
                try simp only [Act.put, List.setIfInBounds_toArray, List.set_cons_zero, List.set_cons_succ]
                refine wpAnyH_take (i := 1) (oi := ?_) (v := ?_) ?_ (by kernel_rfl) (by kernel_rfl) (by kernel_rfl) ?_ (Or.inl ⟨?_, ?_⟩) (by assumption) ?_
                rotate_left 2
                · simp only [List.getElem?_toArray, List.getElem?_cons_succ, List.getElem?_cons_zero] <;> rfl
                · exact fun _ _ _ h => h
                · rfl
                · (intro w hSw; (try dsimp only at hSw); go_simp; try (with_reducible rfl))
                try simp only [Act.put, List.setIfInBounds_toArray, List.set_cons_zero, List.set_cons_succ]
                refine wpAnyH_take (i := 2) (oi := ?_) (v := ?_) ?_ (by kernel_rfl) (by kernel_rfl) (by kernel_rfl) ?_ (Or.inl ⟨?_, ?_⟩) (by assumption) ?_
                rotate_left 2
                · simp only [List.getElem?_toArray, List.getElem?_cons_succ, List.getElem?_cons_zero] <;> rfl
                · exact fun _ _ _ h => h
                · rfl
                · (intro w hSw; (try dsimp only at hSw); go_simp; try (with_reducible rfl))
                try simp only [Act.put, List.setIfInBounds_toArray, List.set_cons_zero, List.set_cons_succ]
                refine wpAnyH_take (i := 3) (oi := ?_) (v := ?_) ?_ (by kernel_rfl) (by kernel_rfl) (by kernel_rfl) ?_ (Or.inl ⟨?_, ?_⟩) (by assumption) ?_
                rotate_left 2
                · simp only [List.getElem?_toArray, List.getElem?_cons_succ, List.getElem?_cons_zero] <;> rfl
                · exact fun _ _ _ h => h
                · rfl
                · (intro w hSw; (try dsimp only at hSw); go_simp; try (with_reducible rfl))
                try simp only [Act.put, List.setIfInBounds_toArray, List.set_cons_zero, List.set_cons_succ]
                refine wpAnyH_take (i := 4) (oi := ?_) (v := ?_) ?_ (by kernel_rfl) (by kernel_rfl) (by kernel_rfl) ?_ (Or.inl ⟨?_, ?_⟩) (by assumption) ?_
                rotate_left 2
                · simp only [List.getElem?_toArray, List.getElem?_cons_succ, List.getElem?_cons_zero] <;> rfl
                · exact fun _ _ _ h => h
                · rfl
                · (intro w hSw; (try dsimp only at hSw); go_simp; try (with_reducible rfl))
                try simp only [Act.put, List.setIfInBounds_toArray, List.set_cons_zero, List.set_cons_succ]
                refine wpAnyH_take (i := 5) (oi := ?_) (v := ?_) ?_ (by kernel_rfl) (by kernel_rfl) (by kernel_rfl) ?_ (Or.inl ⟨?_, ?_⟩) (by assumption) ?_
                rotate_left 2
                · simp only [List.getElem?_toArray, List.getElem?_cons_succ, List.getElem?_cons_zero] <;> rfl
                · exact fun _ _ _ h => h
                · rfl
                · (intro w hSw; (try dsimp only at hSw); go_simp; try (with_reducible rfl))
                try simp only [Act.put, List.setIfInBounds_toArray, List.set_cons_zero, List.set_cons_succ]
                refine wpAnyH_take (i := 7) (oi := ?_) (v := ?_) ?_ (by kernel_rfl) (by kernel_rfl) (by kernel_rfl) ?_ (Or.inl ⟨?_, ?_⟩) (by assumption) ?_
                rotate_left 2
                · simp only [List.getElem?_toArray, List.getElem?_cons_succ, List.getElem?_cons_zero] <;> rfl
                · exact fun _ _ _ h => h
                · rfl
                · (intro w hSw; (try dsimp only at hSw); go_simp; try (with_reducible rfl))
                try simp only [Act.put, List.setIfInBounds_toArray, List.set_cons_zero, List.set_cons_succ]
                refine wpAnyH_take (i := 8) (oi := ?_) (v := ?_) ?_ (by kernel_rfl) (by kernel_rfl) (by kernel_rfl) ?_ (Or.inl ⟨?_, ?_⟩) (by assumption) ?_
                rotate_left 2
                · simp only [List.getElem?_toArray, List.getElem?_cons_succ, List.getElem?_cons_zero] <;> rfl
                · exact fun _ _ _ h => h
                · rfl
                · (intro w hSw; (try dsimp only at hSw); go_simp; try (with_reducible rfl))
                try simp only [Act.put, List.setIfInBounds_toArray, List.set_cons_zero, List.set_cons_succ]
                refine wpAnyH_take (i := 9) (oi := ?_) (v := ?_) ?_ (by kernel_rfl) (by kernel_rfl) (by kernel_rfl) ?_ (Or.inl ⟨?_, ?_⟩) (by assumption) ?_
                rotate_left 2
                · simp only [List.getElem?_toArray, List.getElem?_cons_succ, List.getElem?_cons_zero] <;> rfl
                · exact fun _ _ _ h => h
                · rfl
                · (intro w hSw; (try dsimp only at hSw); go_simp; try (with_reducible rfl))
                try simp only [Act.put, List.setIfInBounds_toArray, List.set_cons_zero, List.set_cons_succ]
                refine wpAnyH_take (i := 10) (oi := ?_) (v := ?_) ?_ (by kernel_rfl) (by kernel_rfl) (by kernel_rfl) ?_ (Or.inl ⟨?_, ?_⟩) (by assumption) ?_
                rotate_left 2
                · simp only [List.getElem?_toArray, List.getElem?_cons_succ, List.getElem?_cons_zero] <;> rfl
                · exact fun _ _ _ h => h
                · rfl
                · (intro w hSw; (try dsimp only at hSw); go_simp; try (with_reducible rfl))
                try simp only [Act.put, List.setIfInBounds_toArray, List.set_cons_zero, List.set_cons_succ]
                refine wpAnyH_ready (rs := [6, 18]) (by kernel_rfl) (by simp) ?_
                refine AllReadyH.cons (o := _) (by simp only [List.getElem?_toArray, List.getElem?_cons_succ, List.getElem?_cons_zero] <;> rfl) (fun K hK => ?_) ?_
                · go_simp
                  refine hK.out _ _ ?_ (fun hHeld => ?_)
                  · (try dsimp only)
                    exact KS.out _ (H5d.out.box.alloc _)
                  clear hK K
                  try simp only [Act.put, List.setIfInBounds_toArray, List.set_cons_zero, List.set_cons_succ]
                  refine wpAnyH_take (i := 11) (oi := ?_) (v := ?_) ?_ (by kernel_rfl) (by kernel_rfl) (by kernel_rfl) ?_ (Or.inl ⟨?_, ?_⟩) (by assumption) ?_
                  rotate_left 2
                  · simp only [List.getElem?_toArray, List.getElem?_cons_succ, List.getElem?_cons_zero] <;> rfl
                  · exact fun _ _ _ h => h
                  · rfl
                  · (intro w hSw; (try dsimp only at hSw); go_simp; try (with_reducible rfl))
                  try simp only [Act.put, List.setIfInBounds_toArray, List.set_cons_zero, List.set_cons_succ]
                  refine wpAnyH_ready (rs := [12, 18]) (by kernel_rfl) (by simp) ?_
                  refine AllReadyH.cons (o := _) (by simp only [List.getElem?_toArray, List.getElem?_cons_succ, List.getElem?_cons_zero] <;> rfl) (fun K hK => ?_) ?_
                  · have hnum := HSV.out
                    go_simp
                    refine hK.out _ _ ?_ (fun hHeld => ?_)
                    · (try dsimp only)
                      exact KS.out _ (H5d.out.box.alloc _)
                    clear hK K
                    try simp only [Act.put, List.setIfInBounds_toArray, List.set_cons_zero, List.set_cons_succ]
                    refine wpAnyH_take (i := 13) (oi := ?_) (v := ?_) ?_ (by kernel_rfl) (by kernel_rfl) (by kernel_rfl) ?_ (Or.inl ⟨?_, ?_⟩) (by assumption) ?_
                    rotate_left 2
                    · simp only [List.getElem?_toArray, List.getElem?_cons_succ, List.getElem?_cons_zero] <;> rfl
                    · exact fun _ _ _ h => h
                    · rfl
                    · (intro w hSw; (try dsimp only at hSw); go_simp; try (with_reducible rfl))
                    try simp only [Act.put, List.setIfInBounds_toArray, List.set_cons_zero, List.set_cons_succ]
                    refine wpAnyH_ready (rs := [14, 18]) (by kernel_rfl) (by simp) ?_
                    refine AllReadyH.cons (o := _) (by simp only [List.getElem?_toArray, List.getElem?_cons_succ, List.getElem?_cons_zero] <;> rfl) (fun K hK => ?_) ?_
                    · go_simp
                      refine (HD.out _ (Below.new (Below.refl _ _) _)).mono ?_
                      rintro e6 w6 ⟨v6, e2, rfl, hH6, hT6, hS6⟩
                      obtain ⟨a6, k6, rfl, _, _⟩ := hS6.form
                      unfold rb
                      have X6 := Lib.hid (hT6.other (H5d.out.below (W' := (wq.drew.alloc (.cells #[.int .i64 (-1), .int .i64 0, .int .i64 1, .int .i64 4096, .int .i64 4097, .int .i64 9223372036854775807, .int .i64 (-9223372036854775808)] 3))) (Below.new (Below.refl _ _) _)).box ((H5d.out.below (W' := (wq.drew.alloc (.cells #[.int .i64 (-1), .int .i64 0, .int .i64 1, .int .i64 4096, .int .i64 4097, .int .i64 9223372036854775807, .int .i64 (-9223372036854775808)] 3))) (Below.new (Below.refl _ _) _)).bk.bk.out (H5d.out.below (W' := (wq.drew.alloc (.cells #[.int .i64 (-1), .int .i64 0, .int .i64 1, .int .i64 4096, .int .i64 4097, .int .i64 9223372036854775807, .int .i64 (-9223372036854775808)] 3))) (Below.new (Below.refl _ _) _)).box (by decide) (by decide)))
                      have H6 := Lib.hid (And.intro hH6 hS6)
                      clear hH6 hT6 hS6
                      go_wp2_with fail
                      refine hK.out _ _ ?_ (fun hHeld => ?_)
                      · (try dsimp only)
                        exact KS.out _ X6.out
                      clear hK K
                      try simp only [Act.put, List.setIfInBounds_toArray, List.set_cons_zero, List.set_cons_succ]
                      refine wpAnyH_take (i := 15) (oi := ?_) (v := ?_) ?_ (by kernel_rfl) (by kernel_rfl) (by kernel_rfl) ?_ (Or.inl ⟨?_, ?_⟩) (by assumption) ?_
                      rotate_left 2
                      · simp only [List.getElem?_toArray, List.getElem?_cons_succ, List.getElem?_cons_zero] <;> rfl
                      · exact fun _ _ _ h => h
                      · rfl
                      · (intro w hSw; (try dsimp only at hSw); go_simp; try (with_reducible rfl))
                      try simp only [Act.put, List.setIfInBounds_toArray, List.set_cons_zero, List.set_cons_succ]
                      refine wpAnyH_take (i := 16) (oi := ?_) (v := ?_) ?_ (by kernel_rfl) (by kernel_rfl) (by kernel_rfl) ?_ (Or.inl ⟨?_, ?_⟩) (by assumption) ?_
                      rotate_left 2
                      · simp only [List.getElem?_toArray, List.getElem?_cons_succ, List.getElem?_cons_zero] <;> rfl
                      · exact fun _ _ _ h => h
                      · rfl
                      · (intro w hSw; (try dsimp only at hSw); go_simp; try (with_reducible rfl))
                      try simp only [Act.put, List.setIfInBounds_toArray, List.set_cons_zero, List.set_cons_succ]
                      refine wpAnyH_take (i := 17) (oi := ?_) (v := ?_) ?_ (by kernel_rfl) (by kernel_rfl) (by kernel_rfl) ?_ (Or.inl ⟨?_, ?_⟩) (by assumption) ?_
                      rotate_left 2
                      · simp only [List.getElem?_toArray, List.getElem?_cons_succ, List.getElem?_cons_zero] <;> rfl
                      · exact fun _ _ _ h => h
                      · rfl
                      · (intro w hSw; (try dsimp only at hSw); go_simp; try (with_reducible rfl))
                      try simp only [Act.put, List.setIfInBounds_toArray, List.set_cons_zero, List.set_cons_succ]
                      refine wpAnyH_ready (rs := [18]) (by kernel_rfl) (by simp) ?_
                      refine AllReadyH.cons (o := _) (by simp only [List.getElem?_toArray, List.getElem?_cons_succ, List.getElem?_cons_zero] <;> rfl) (fun K hK => ?_) ?_
                      · go_simp
                        refine hK.out _ _ ?_ (fun hHeld => ?_)
                        · (try dsimp only)
                          exact KS.out _ (X6.out.alloc _)
                        clear hK K
                        try simp only [Act.put, List.setIfInBounds_toArray, List.set_cons_zero, List.set_cons_succ]
                        refine wpAnyH_ready (rs := [19]) (by kernel_rfl) (by simp) ?_
                        refine AllReadyH.cons (o := _) (by simp only [List.getElem?_toArray, List.getElem?_cons_succ, List.getElem?_cons_zero] <;> rfl) (fun K hK => ?_) ?_
                        · go_simp
                          refine hK.out _ _ ?_ (fun hHeld => ?_)
                          · (try dsimp only)
                            exact KS.out _ (X6.out.alloc _)
                          clear hK K
                          try simp only [Act.put, List.setIfInBounds_toArray, List.set_cons_zero, List.set_cons_succ]
                          refine wpAnyH_take (i := 20) (oi := ?_) (v := ?_) ?_ (by kernel_rfl) (by kernel_rfl) (by kernel_rfl) ?_ (Or.inl ⟨?_, ?_⟩) (by assumption) ?_
                          rotate_left 2
                          · simp only [List.getElem?_toArray, List.getElem?_cons_succ, List.getElem?_cons_zero] <;> rfl
                          · exact fun _ _ _ h => h
                          · rfl
                          · (intro w hSw; (try dsimp only at hSw); go_simp; try (with_reducible rfl))
                          try simp only [Act.put, List.setIfInBounds_toArray, List.set_cons_zero, List.set_cons_succ]
                          refine wpAnyH_done (by kernel_rfl) ?_ _
                          obtain ⟨Wn, hWn⟩ : ∃ Wn, Wn = w6.alloc (.cells #[.slice a6 L2.length k6, .int .u64 (K : Int), .int .u64 (K : Int)] 31) := ⟨_, rfl⟩
                          have PN : Pairt Wl Wn p q0 e2 mp w6.heap.size L2 (.slice a6 L2.length k6) K K := by rw [hWn]; exact ⟨H6.out.1.below (Below.new (Below.refl _ _) _), H6.out.2.below (Below.new (Below.refl _ _) _), Fresh.new _ _ _ _ rfl⟩
                          have XN : Fresh Wn z #[.slice av l.length cv, .int .u64 (K : Int), .int .u64 (K : Int)] 31 := by rw [hWn]; exact X6.out.alloc _
                          rw [← hWn]
                          obtain ⟨nb, hnb⟩ : ∃ nb, w6.heap.size = nb := ⟨_, rfl⟩
                          rw [hnb] at PN ⊢
                          clear hWn hnb
                          have HPN := Lib.hid (And.intro PN XN)
                          have n0 := PN.box.cell 0
                          have n1 := PN.box.cell 1
                          have n2 := PN.box.cell 2
                          have y0' := XN.cell 0
                          have y1' := XN.cell 1
                          have y2' := XN.cell 2
                          have s0' := XN.thawed 0
                          have s1' := XN.thawed 1
                          have s2' := XN.thawed 2
                          simp only [List.getElem?_toArray, List.getElem?_cons_zero, List.getElem?_cons_succ] at n0 n1 n2 y0' y1' y2'
                          clear PN XN
                          go_upto_region 28 with fail
                          obtain ⟨Wm, hWm⟩ : ∃ Wm, Wm = stored Wn z (.slice a6 L2.length k6) K K := ⟨_, rfl⟩
                          have PM : Pairt Wl Wm p q0 e2 mp z L2 (.slice a6 L2.length k6) K K := by rw [hWm]; exact Pairt.stored HPN.out.1.bk HPN.out.1.seg HPN.out.2 rfl HZ.out
                          unfold stored at hWm
                          rw [← hWm]
                          have HPM := Lib.hid PM
                          have g0 := PM.box.cell 0
                          have g1 := PM.box.cell 1
                          have g2 := PM.box.cell 2
                          simp only [List.getElem?_toArray, List.getElem?_cons_zero, List.getElem?_cons_succ] at g0 g1 g2
                          have HLK : Hid (∀ (x : ByteArray), Calls Try.prog 13 #[.pointer (some ⟨p, 0, none⟩), .agg #[.slice a6 L2.length k6, .int .u64 (K : Int), .int .u64 (K : Int)], .string x] Wm fun e' w' => e' = .returned (.bool true) ∧ Below Wm.heap.size Wm w') := fun x => looks_any HPM.out.bk HPM.out.seg (by have := HL2.out; omega) x
                          clear hWm PM n0 n1 n2 y0' y1' y2' s0' s1' s2'
                          go_wp2_with (first | (go_at_call 13; refine (HLK.out _).mono ?_; rintro e9 w9 ⟨rfl, hb9⟩; have H9 := Lib.hid hb9; clear hb9 g0 g1 g2))
                          go_roundw
                          case rel => exact ⟨j + 1, by omega, by simp, e2, L2, _, HPM.out.below H9.out, by have := HL2.out; omega⟩
                          case measure => simp [intOf]; omega
                        exact AllReadyH.nil
                      exact AllReadyH.nil
                    refine AllReadyH.cons (o := _) (by simp only [List.getElem?_toArray, List.getElem?_cons_succ, List.getElem?_cons_zero] <;> rfl) (fun K hK => ?_) ?_
                    · go_simp
                      refine hK.out _ _ ?_ (fun hHeld => ?_)
                      · (try dsimp only)
                        exact KS.out _ ((H5d.out.box.alloc _).alloc _)
                      clear hK K
                      try simp only [Act.put, List.setIfInBounds_toArray, List.set_cons_zero, List.set_cons_succ]
                      refine wpAnyH_ready (rs := [14]) (by kernel_rfl) (by simp) ?_
                      refine AllReadyH.cons (o := _) (by simp only [List.getElem?_toArray, List.getElem?_cons_succ, List.getElem?_cons_zero] <;> rfl) (fun K hK => ?_) ?_
                      · go_simp
                        refine (HD.out _ (Below.new (Below.new (Below.refl _ _) _) _)).mono ?_
                        rintro e6 w6 ⟨v6, e2, rfl, hH6, hT6, hS6⟩
                        obtain ⟨a6, k6, rfl, _, _⟩ := hS6.form
                        unfold rb
                        have X6 := Lib.hid (hT6.other (H5d.out.below (W' := ((wq.drew.alloc (.cells #[.int .i64 (-1), .int .i64 0, .int .i64 1, .int .i64 4096, .int .i64 4097, .int .i64 9223372036854775807, .int .i64 (-9223372036854775808)] 3)).alloc (.cells #[.slice none 0 0, .int .u64 0, .int .u64 0] 31))) (Below.new (Below.new (Below.refl _ _) _) _)).box ((H5d.out.below (W' := ((wq.drew.alloc (.cells #[.int .i64 (-1), .int .i64 0, .int .i64 1, .int .i64 4096, .int .i64 4097, .int .i64 9223372036854775807, .int .i64 (-9223372036854775808)] 3)).alloc (.cells #[.slice none 0 0, .int .u64 0, .int .u64 0] 31))) (Below.new (Below.new (Below.refl _ _) _) _)).bk.bk.out (H5d.out.below (W' := ((wq.drew.alloc (.cells #[.int .i64 (-1), .int .i64 0, .int .i64 1, .int .i64 4096, .int .i64 4097, .int .i64 9223372036854775807, .int .i64 (-9223372036854775808)] 3)).alloc (.cells #[.slice none 0 0, .int .u64 0, .int .u64 0] 31))) (Below.new (Below.new (Below.refl _ _) _) _)).box (by decide) (by decide)))
                        have R6 := Lib.hid (hT6.other (show Fresh ((wq.drew.alloc (.cells #[.int .i64 (-1), .int .i64 0, .int .i64 1, .int .i64 4096, .int .i64 4097, .int .i64 9223372036854775807, .int .i64 (-9223372036854775808)] 3)).alloc (.cells #[.slice none 0 0, .int .u64 0, .int .u64 0] 31)) (wq.heap.size + 1) #[.slice none 0 0, .int .u64 0, .int .u64 0] 31 from (Fresh.new _ _ _ _ (by simp))) ((H5d.out.below (W' := ((wq.drew.alloc (.cells #[.int .i64 (-1), .int .i64 0, .int .i64 1, .int .i64 4096, .int .i64 4097, .int .i64 9223372036854775807, .int .i64 (-9223372036854775808)] 3)).alloc (.cells #[.slice none 0 0, .int .u64 0, .int .u64 0] 31))) (Below.new (Below.new (Below.refl _ _) _) _)).bk.bk.out (show Fresh ((wq.drew.alloc (.cells #[.int .i64 (-1), .int .i64 0, .int .i64 1, .int .i64 4096, .int .i64 4097, .int .i64 9223372036854775807, .int .i64 (-9223372036854775808)] 3)).alloc (.cells #[.slice none 0 0, .int .u64 0, .int .u64 0] 31)) (wq.heap.size + 1) #[.slice none 0 0, .int .u64 0, .int .u64 0] 31 from (Fresh.new _ _ _ _ (by simp))) (by decide) (by decide)))
                        have t0 := R6.out.cell 0
                        have t1 := R6.out.cell 1
                        have t2 := R6.out.cell 2
                        have s0 := R6.out.thawed 0
                        have s1 := R6.out.thawed 1
                        have s2 := R6.out.thawed 2
                        simp only [List.getElem?_toArray, List.getElem?_cons_zero, List.getElem?_cons_succ] at t0 t1 t2
                        have H6 := Lib.hid (And.intro hH6 hS6)
                        clear hH6 hT6 hS6
                        go_wp2_with fail
                        refine hK.out _ _ ?_ (fun hHeld => ?_)
                        · (try dsimp only)
                          exact KS.out _ X6.out
                        clear hK K
                        try simp only [Act.put, List.setIfInBounds_toArray, List.set_cons_zero, List.set_cons_succ]
                        refine wpAnyH_take (i := 15) (oi := ?_) (v := ?_) ?_ (by kernel_rfl) (by kernel_rfl) (by kernel_rfl) ?_ (Or.inl ⟨?_, ?_⟩) (by assumption) ?_
                        rotate_left 2
                        · simp only [List.getElem?_toArray, List.getElem?_cons_succ, List.getElem?_cons_zero] <;> rfl
                        · exact fun _ _ _ h => h
                        · rfl
                        · (intro w hSw; (try dsimp only at hSw); go_simp; try (with_reducible rfl))
                        try simp only [Act.put, List.setIfInBounds_toArray, List.set_cons_zero, List.set_cons_succ]
                        refine wpAnyH_take (i := 16) (oi := ?_) (v := ?_) ?_ (by kernel_rfl) (by kernel_rfl) (by kernel_rfl) ?_ (Or.inl ⟨?_, ?_⟩) (by assumption) ?_
                        rotate_left 2
                        · simp only [List.getElem?_toArray, List.getElem?_cons_succ, List.getElem?_cons_zero] <;> rfl
                        · exact fun _ _ _ h => h
                        · rfl
                        · (intro w hSw; (try dsimp only at hSw); go_simp; try (with_reducible rfl))
                        try simp only [Act.put, List.setIfInBounds_toArray, List.set_cons_zero, List.set_cons_succ]
                        refine wpAnyH_take (i := 17) (oi := ?_) (v := ?_) ?_ (by kernel_rfl) (by kernel_rfl) (by kernel_rfl) ?_ (Or.inl ⟨?_, ?_⟩) (by assumption) ?_
                        rotate_left 2
                        · simp only [List.getElem?_toArray, List.getElem?_cons_succ, List.getElem?_cons_zero] <;> rfl
                        · exact fun _ _ _ h => h
                        · rfl
                        · (intro w hSw; (try dsimp only at hSw); go_simp; try (with_reducible rfl))
                        try simp only [Act.put, List.setIfInBounds_toArray, List.set_cons_zero, List.set_cons_succ]
                        refine wpAnyH_ready (rs := [19]) (by kernel_rfl) (by simp) ?_
                        refine AllReadyH.cons (o := _) (by simp only [List.getElem?_toArray, List.getElem?_cons_succ, List.getElem?_cons_zero] <;> rfl) (fun K hK => ?_) ?_
                        · go_simp
                          refine hK.out _ _ ?_ (fun hHeld => ?_)
                          · (try dsimp only)
                            exact KS.out _ (stored_other X6.out (by have := HH.out.box.lt; omega))
                          clear hK K
                          try simp only [Act.put, List.setIfInBounds_toArray, List.set_cons_zero, List.set_cons_succ]
                          refine wpAnyH_take (i := 20) (oi := ?_) (v := ?_) ?_ (by kernel_rfl) (by kernel_rfl) (by kernel_rfl) ?_ (Or.inl ⟨?_, ?_⟩) (by assumption) ?_
                          rotate_left 2
                          · simp only [List.getElem?_toArray, List.getElem?_cons_succ, List.getElem?_cons_zero] <;> rfl
                          · exact fun _ _ _ h => h
                          · rfl
                          · (intro w hSw; (try dsimp only at hSw); go_simp; try (with_reducible rfl))
                          try simp only [Act.put, List.setIfInBounds_toArray, List.set_cons_zero, List.set_cons_succ]
                          refine wpAnyH_done (by kernel_rfl) ?_ _
                          obtain ⟨Wn, hWn⟩ : ∃ Wn, Wn = stored w6 (wq.heap.size + 1) (.slice a6 L2.length k6) K K := ⟨_, rfl⟩
                          have PN : Pairt Wl Wn p q0 e2 mp (wq.heap.size + 1) L2 (.slice a6 L2.length k6) K K := by rw [hWn]; exact Pairt.stored H6.out.1 H6.out.2 R6.out rfl (by have := HH.out.bk.low.size; omega)
                          have XN : Fresh Wn z #[.slice av l.length cv, .int .u64 (K : Int), .int .u64 (K : Int)] 31 := by rw [hWn]; exact stored_other X6.out (by have := HH.out.box.lt; omega)
                          unfold stored at hWn
                          change Exit.then _ _ _ _ (((w6.setCell ⟨(wq.heap.size + 1), 0, none⟩ _).setCell ⟨(wq.heap.size + 1), 1, none⟩ _).setCell ⟨(wq.heap.size + 1), 2, none⟩ _)
                          rw [← hWn]
                          obtain ⟨nb, hnb⟩ : ∃ nb, (wq.heap.size + 1) = nb := ⟨_, rfl⟩
                          rw [hnb] at PN ⊢
                          clear hWn hnb
                          have HPN := Lib.hid (And.intro PN XN)
                          have n0 := PN.box.cell 0
                          have n1 := PN.box.cell 1
                          have n2 := PN.box.cell 2
                          have y0' := XN.cell 0
                          have y1' := XN.cell 1
                          have y2' := XN.cell 2
                          have s0' := XN.thawed 0
                          have s1' := XN.thawed 1
                          have s2' := XN.thawed 2
                          simp only [List.getElem?_toArray, List.getElem?_cons_zero, List.getElem?_cons_succ] at n0 n1 n2 y0' y1' y2'
                          clear PN XN
                          go_upto_region 28 with fail
                          obtain ⟨Wm, hWm⟩ : ∃ Wm, Wm = stored Wn z (.slice a6 L2.length k6) K K := ⟨_, rfl⟩
                          have PM : Pairt Wl Wm p q0 e2 mp z L2 (.slice a6 L2.length k6) K K := by rw [hWm]; exact Pairt.stored HPN.out.1.bk HPN.out.1.seg HPN.out.2 rfl HZ.out
                          unfold stored at hWm
                          rw [← hWm]
                          have HPM := Lib.hid PM
                          have g0 := PM.box.cell 0
                          have g1 := PM.box.cell 1
                          have g2 := PM.box.cell 2
                          simp only [List.getElem?_toArray, List.getElem?_cons_zero, List.getElem?_cons_succ] at g0 g1 g2
                          have HLK : Hid (∀ (x : ByteArray), Calls Try.prog 13 #[.pointer (some ⟨p, 0, none⟩), .agg #[.slice a6 L2.length k6, .int .u64 (K : Int), .int .u64 (K : Int)], .string x] Wm fun e' w' => e' = .returned (.bool true) ∧ Below Wm.heap.size Wm w') := fun x => looks_any HPM.out.bk HPM.out.seg (by have := HL2.out; omega) x
                          clear hWm PM n0 n1 n2 y0' y1' y2' s0' s1' s2'
                          go_wp2_with (first | (go_at_call 13; refine (HLK.out _).mono ?_; rintro e9 w9 ⟨rfl, hb9⟩; have H9 := Lib.hid hb9; clear hb9 g0 g1 g2))
                          go_roundw
                          case rel => exact ⟨j + 1, by omega, by simp, e2, L2, _, HPM.out.below H9.out, by have := HL2.out; omega⟩
                          case measure => simp [intOf]; omega
                        exact AllReadyH.nil
                      exact AllReadyH.nil
                    exact AllReadyH.nil
                  refine AllReadyH.cons (o := _) (by simp only [List.getElem?_toArray, List.getElem?_cons_succ, List.getElem?_cons_zero] <;> rfl) (fun K hK => ?_) ?_
                  · go_simp
                    refine hK.out _ _ ?_ (fun hHeld => ?_)
                    · (try dsimp only)
                      exact KS.out _ ((H5d.out.box.alloc _).alloc _)
                    clear hK K
                    try simp only [Act.put, List.setIfInBounds_toArray, List.set_cons_zero, List.set_cons_succ]
                    refine wpAnyH_ready (rs := [12]) (by kernel_rfl) (by simp) ?_
                    refine AllReadyH.cons (o := _) (by simp only [List.getElem?_toArray, List.getElem?_cons_succ, List.getElem?_cons_zero] <;> rfl) (fun K hK => ?_) ?_
                    · have hnum := HSV.out
                      go_simp
                      refine hK.out _ _ ?_ (fun hHeld => ?_)
                      · (try dsimp only)
                        exact KS.out _ ((H5d.out.box.alloc _).alloc _)
                      clear hK K
                      try simp only [Act.put, List.setIfInBounds_toArray, List.set_cons_zero, List.set_cons_succ]
                      refine wpAnyH_take (i := 13) (oi := ?_) (v := ?_) ?_ (by kernel_rfl) (by kernel_rfl) (by kernel_rfl) ?_ (Or.inl ⟨?_, ?_⟩) (by assumption) ?_
                      rotate_left 2
                      · simp only [List.getElem?_toArray, List.getElem?_cons_succ, List.getElem?_cons_zero] <;> rfl
                      · exact fun _ _ _ h => h
                      · rfl
                      · (intro w hSw; (try dsimp only at hSw); go_simp; try (with_reducible rfl))
                      try simp only [Act.put, List.setIfInBounds_toArray, List.set_cons_zero, List.set_cons_succ]
                      refine wpAnyH_ready (rs := [14]) (by kernel_rfl) (by simp) ?_
                      refine AllReadyH.cons (o := _) (by simp only [List.getElem?_toArray, List.getElem?_cons_succ, List.getElem?_cons_zero] <;> rfl) (fun K hK => ?_) ?_
                      · go_simp
                        refine (HD.out _ (Below.new (Below.new (Below.refl _ _) _) _)).mono ?_
                        rintro e6 w6 ⟨v6, e2, rfl, hH6, hT6, hS6⟩
                        obtain ⟨a6, k6, rfl, _, _⟩ := hS6.form
                        unfold rb
                        have X6 := Lib.hid (hT6.other (H5d.out.below (W' := ((wq.drew.alloc (.cells #[.int .i64 (-1), .int .i64 0, .int .i64 1, .int .i64 4096, .int .i64 4097, .int .i64 9223372036854775807, .int .i64 (-9223372036854775808)] 3)).alloc (.cells #[.slice none 0 0, .int .u64 0, .int .u64 0] 31))) (Below.new (Below.new (Below.refl _ _) _) _)).box ((H5d.out.below (W' := ((wq.drew.alloc (.cells #[.int .i64 (-1), .int .i64 0, .int .i64 1, .int .i64 4096, .int .i64 4097, .int .i64 9223372036854775807, .int .i64 (-9223372036854775808)] 3)).alloc (.cells #[.slice none 0 0, .int .u64 0, .int .u64 0] 31))) (Below.new (Below.new (Below.refl _ _) _) _)).bk.bk.out (H5d.out.below (W' := ((wq.drew.alloc (.cells #[.int .i64 (-1), .int .i64 0, .int .i64 1, .int .i64 4096, .int .i64 4097, .int .i64 9223372036854775807, .int .i64 (-9223372036854775808)] 3)).alloc (.cells #[.slice none 0 0, .int .u64 0, .int .u64 0] 31))) (Below.new (Below.new (Below.refl _ _) _) _)).box (by decide) (by decide)))
                        have R6 := Lib.hid (hT6.other (show Fresh ((wq.drew.alloc (.cells #[.int .i64 (-1), .int .i64 0, .int .i64 1, .int .i64 4096, .int .i64 4097, .int .i64 9223372036854775807, .int .i64 (-9223372036854775808)] 3)).alloc (.cells #[.slice none 0 0, .int .u64 0, .int .u64 0] 31)) (wq.heap.size + 1) #[.slice none 0 0, .int .u64 0, .int .u64 0] 31 from (Fresh.new _ _ _ _ (by simp))) ((H5d.out.below (W' := ((wq.drew.alloc (.cells #[.int .i64 (-1), .int .i64 0, .int .i64 1, .int .i64 4096, .int .i64 4097, .int .i64 9223372036854775807, .int .i64 (-9223372036854775808)] 3)).alloc (.cells #[.slice none 0 0, .int .u64 0, .int .u64 0] 31))) (Below.new (Below.new (Below.refl _ _) _) _)).bk.bk.out (show Fresh ((wq.drew.alloc (.cells #[.int .i64 (-1), .int .i64 0, .int .i64 1, .int .i64 4096, .int .i64 4097, .int .i64 9223372036854775807, .int .i64 (-9223372036854775808)] 3)).alloc (.cells #[.slice none 0 0, .int .u64 0, .int .u64 0] 31)) (wq.heap.size + 1) #[.slice none 0 0, .int .u64 0, .int .u64 0] 31 from (Fresh.new _ _ _ _ (by simp))) (by decide) (by decide)))
                        have t0 := R6.out.cell 0
                        have t1 := R6.out.cell 1
                        have t2 := R6.out.cell 2
                        have s0 := R6.out.thawed 0
                        have s1 := R6.out.thawed 1
                        have s2 := R6.out.thawed 2
                        simp only [List.getElem?_toArray, List.getElem?_cons_zero, List.getElem?_cons_succ] at t0 t1 t2
                        have H6 := Lib.hid (And.intro hH6 hS6)
                        clear hH6 hT6 hS6
                        go_wp2_with fail
                        refine hK.out _ _ ?_ (fun hHeld => ?_)
                        · (try dsimp only)
                          exact KS.out _ X6.out
                        clear hK K
                        try simp only [Act.put, List.setIfInBounds_toArray, List.set_cons_zero, List.set_cons_succ]
                        refine wpAnyH_take (i := 15) (oi := ?_) (v := ?_) ?_ (by kernel_rfl) (by kernel_rfl) (by kernel_rfl) ?_ (Or.inl ⟨?_, ?_⟩) (by assumption) ?_
                        rotate_left 2
                        · simp only [List.getElem?_toArray, List.getElem?_cons_succ, List.getElem?_cons_zero] <;> rfl
                        · exact fun _ _ _ h => h
                        · rfl
                        · (intro w hSw; (try dsimp only at hSw); go_simp; try (with_reducible rfl))
                        try simp only [Act.put, List.setIfInBounds_toArray, List.set_cons_zero, List.set_cons_succ]
                        refine wpAnyH_take (i := 16) (oi := ?_) (v := ?_) ?_ (by kernel_rfl) (by kernel_rfl) (by kernel_rfl) ?_ (Or.inl ⟨?_, ?_⟩) (by assumption) ?_
                        rotate_left 2
                        · simp only [List.getElem?_toArray, List.getElem?_cons_succ, List.getElem?_cons_zero] <;> rfl
                        · exact fun _ _ _ h => h
                        · rfl
                        · (intro w hSw; (try dsimp only at hSw); go_simp; try (with_reducible rfl))
                        try simp only [Act.put, List.setIfInBounds_toArray, List.set_cons_zero, List.set_cons_succ]
                        refine wpAnyH_take (i := 17) (oi := ?_) (v := ?_) ?_ (by kernel_rfl) (by kernel_rfl) (by kernel_rfl) ?_ (Or.inl ⟨?_, ?_⟩) (by assumption) ?_
                        rotate_left 2
                        · simp only [List.getElem?_toArray, List.getElem?_cons_succ, List.getElem?_cons_zero] <;> rfl
                        · exact fun _ _ _ h => h
                        · rfl
                        · (intro w hSw; (try dsimp only at hSw); go_simp; try (with_reducible rfl))
                        try simp only [Act.put, List.setIfInBounds_toArray, List.set_cons_zero, List.set_cons_succ]
                        refine wpAnyH_ready (rs := [19]) (by kernel_rfl) (by simp) ?_
                        refine AllReadyH.cons (o := _) (by simp only [List.getElem?_toArray, List.getElem?_cons_succ, List.getElem?_cons_zero] <;> rfl) (fun K hK => ?_) ?_
                        · go_simp
                          refine hK.out _ _ ?_ (fun hHeld => ?_)
                          · (try dsimp only)
                            exact KS.out _ (stored_other X6.out (by have := HH.out.box.lt; omega))
                          clear hK K
                          try simp only [Act.put, List.setIfInBounds_toArray, List.set_cons_zero, List.set_cons_succ]
                          refine wpAnyH_take (i := 20) (oi := ?_) (v := ?_) ?_ (by kernel_rfl) (by kernel_rfl) (by kernel_rfl) ?_ (Or.inl ⟨?_, ?_⟩) (by assumption) ?_
                          rotate_left 2
                          · simp only [List.getElem?_toArray, List.getElem?_cons_succ, List.getElem?_cons_zero] <;> rfl
                          · exact fun _ _ _ h => h
                          · rfl
                          · (intro w hSw; (try dsimp only at hSw); go_simp; try (with_reducible rfl))
                          try simp only [Act.put, List.setIfInBounds_toArray, List.set_cons_zero, List.set_cons_succ]
                          refine wpAnyH_done (by kernel_rfl) ?_ _
                          obtain ⟨Wn, hWn⟩ : ∃ Wn, Wn = stored w6 (wq.heap.size + 1) (.slice a6 L2.length k6) K K := ⟨_, rfl⟩
                          have PN : Pairt Wl Wn p q0 e2 mp (wq.heap.size + 1) L2 (.slice a6 L2.length k6) K K := by rw [hWn]; exact Pairt.stored H6.out.1 H6.out.2 R6.out rfl (by have := HH.out.bk.low.size; omega)
                          have XN : Fresh Wn z #[.slice av l.length cv, .int .u64 (K : Int), .int .u64 (K : Int)] 31 := by rw [hWn]; exact stored_other X6.out (by have := HH.out.box.lt; omega)
                          unfold stored at hWn
                          change Exit.then _ _ _ _ (((w6.setCell ⟨(wq.heap.size + 1), 0, none⟩ _).setCell ⟨(wq.heap.size + 1), 1, none⟩ _).setCell ⟨(wq.heap.size + 1), 2, none⟩ _)
                          rw [← hWn]
                          obtain ⟨nb, hnb⟩ : ∃ nb, (wq.heap.size + 1) = nb := ⟨_, rfl⟩
                          rw [hnb] at PN ⊢
                          clear hWn hnb
                          have HPN := Lib.hid (And.intro PN XN)
                          have n0 := PN.box.cell 0
                          have n1 := PN.box.cell 1
                          have n2 := PN.box.cell 2
                          have y0' := XN.cell 0
                          have y1' := XN.cell 1
                          have y2' := XN.cell 2
                          have s0' := XN.thawed 0
                          have s1' := XN.thawed 1
                          have s2' := XN.thawed 2
                          simp only [List.getElem?_toArray, List.getElem?_cons_zero, List.getElem?_cons_succ] at n0 n1 n2 y0' y1' y2'
                          clear PN XN
                          go_upto_region 28 with fail
                          obtain ⟨Wm, hWm⟩ : ∃ Wm, Wm = stored Wn z (.slice a6 L2.length k6) K K := ⟨_, rfl⟩
                          have PM : Pairt Wl Wm p q0 e2 mp z L2 (.slice a6 L2.length k6) K K := by rw [hWm]; exact Pairt.stored HPN.out.1.bk HPN.out.1.seg HPN.out.2 rfl HZ.out
                          unfold stored at hWm
                          rw [← hWm]
                          have HPM := Lib.hid PM
                          have g0 := PM.box.cell 0
                          have g1 := PM.box.cell 1
                          have g2 := PM.box.cell 2
                          simp only [List.getElem?_toArray, List.getElem?_cons_zero, List.getElem?_cons_succ] at g0 g1 g2
                          have HLK : Hid (∀ (x : ByteArray), Calls Try.prog 13 #[.pointer (some ⟨p, 0, none⟩), .agg #[.slice a6 L2.length k6, .int .u64 (K : Int), .int .u64 (K : Int)], .string x] Wm fun e' w' => e' = .returned (.bool true) ∧ Below Wm.heap.size Wm w') := fun x => looks_any HPM.out.bk HPM.out.seg (by have := HL2.out; omega) x
                          clear hWm PM n0 n1 n2 y0' y1' y2' s0' s1' s2'
                          go_wp2_with (first | (go_at_call 13; refine (HLK.out _).mono ?_; rintro e9 w9 ⟨rfl, hb9⟩; have H9 := Lib.hid hb9; clear hb9 g0 g1 g2))
                          go_roundw
                          case rel => exact ⟨j + 1, by omega, by simp, e2, L2, _, HPM.out.below H9.out, by have := HL2.out; omega⟩
                          case measure => simp [intOf]; omega
                        exact AllReadyH.nil
                      exact AllReadyH.nil
                    exact AllReadyH.nil
                  exact AllReadyH.nil
                refine AllReadyH.cons (o := _) (by simp only [List.getElem?_toArray, List.getElem?_cons_succ, List.getElem?_cons_zero] <;> rfl) (fun K hK => ?_) ?_
                · go_simp
                  refine hK.out _ _ ?_ (fun hHeld => ?_)
                  · (try dsimp only)
                    exact KS.out _ (H5d.out.box.alloc _)
                  clear hK K
                  try simp only [Act.put, List.setIfInBounds_toArray, List.set_cons_zero, List.set_cons_succ]
                  refine wpAnyH_ready (rs := [6]) (by kernel_rfl) (by simp) ?_
                  refine AllReadyH.cons (o := _) (by simp only [List.getElem?_toArray, List.getElem?_cons_succ, List.getElem?_cons_zero] <;> rfl) (fun K hK => ?_) ?_
                  · go_simp
                    refine hK.out _ _ ?_ (fun hHeld => ?_)
                    · (try dsimp only)
                      exact KS.out _ ((H5d.out.box.alloc _).alloc _)
                    clear hK K
                    try simp only [Act.put, List.setIfInBounds_toArray, List.set_cons_zero, List.set_cons_succ]
                    refine wpAnyH_take (i := 11) (oi := ?_) (v := ?_) ?_ (by kernel_rfl) (by kernel_rfl) (by kernel_rfl) ?_ (Or.inl ⟨?_, ?_⟩) (by assumption) ?_
                    rotate_left 2
                    · simp only [List.getElem?_toArray, List.getElem?_cons_succ, List.getElem?_cons_zero] <;> rfl
                    · exact fun _ _ _ h => h
                    · rfl
                    · (intro w hSw; (try dsimp only at hSw); go_simp; try (with_reducible rfl))
                    try simp only [Act.put, List.setIfInBounds_toArray, List.set_cons_zero, List.set_cons_succ]
                    refine wpAnyH_ready (rs := [12]) (by kernel_rfl) (by simp) ?_
                    refine AllReadyH.cons (o := _) (by simp only [List.getElem?_toArray, List.getElem?_cons_succ, List.getElem?_cons_zero] <;> rfl) (fun K hK => ?_) ?_
                    · have hnum := HSV.out
                      go_simp
                      refine hK.out _ _ ?_ (fun hHeld => ?_)
                      · (try dsimp only)
                        exact KS.out _ ((H5d.out.box.alloc _).alloc _)
                      clear hK K
                      try simp only [Act.put, List.setIfInBounds_toArray, List.set_cons_zero, List.set_cons_succ]
                      refine wpAnyH_take (i := 13) (oi := ?_) (v := ?_) ?_ (by kernel_rfl) (by kernel_rfl) (by kernel_rfl) ?_ (Or.inl ⟨?_, ?_⟩) (by assumption) ?_
                      rotate_left 2
                      · simp only [List.getElem?_toArray, List.getElem?_cons_succ, List.getElem?_cons_zero] <;> rfl
                      · exact fun _ _ _ h => h
                      · rfl
                      · (intro w hSw; (try dsimp only at hSw); go_simp; try (with_reducible rfl))
                      try simp only [Act.put, List.setIfInBounds_toArray, List.set_cons_zero, List.set_cons_succ]
                      refine wpAnyH_ready (rs := [14]) (by kernel_rfl) (by simp) ?_
                      refine AllReadyH.cons (o := _) (by simp only [List.getElem?_toArray, List.getElem?_cons_succ, List.getElem?_cons_zero] <;> rfl) (fun K hK => ?_) ?_
                      · go_simp
                        refine (HD.out _ (Below.new (Below.new (Below.refl _ _) _) _)).mono ?_
                        rintro e6 w6 ⟨v6, e2, rfl, hH6, hT6, hS6⟩
                        obtain ⟨a6, k6, rfl, _, _⟩ := hS6.form
                        unfold rb
                        have X6 := Lib.hid (hT6.other (H5d.out.below (W' := ((wq.drew.alloc (.cells #[.slice none 0 0, .int .u64 0, .int .u64 0] 31)).alloc (.cells #[.int .i64 (-1), .int .i64 0, .int .i64 1, .int .i64 4096, .int .i64 4097, .int .i64 9223372036854775807, .int .i64 (-9223372036854775808)] 3))) (Below.new (Below.new (Below.refl _ _) _) _)).box ((H5d.out.below (W' := ((wq.drew.alloc (.cells #[.slice none 0 0, .int .u64 0, .int .u64 0] 31)).alloc (.cells #[.int .i64 (-1), .int .i64 0, .int .i64 1, .int .i64 4096, .int .i64 4097, .int .i64 9223372036854775807, .int .i64 (-9223372036854775808)] 3))) (Below.new (Below.new (Below.refl _ _) _) _)).bk.bk.out (H5d.out.below (W' := ((wq.drew.alloc (.cells #[.slice none 0 0, .int .u64 0, .int .u64 0] 31)).alloc (.cells #[.int .i64 (-1), .int .i64 0, .int .i64 1, .int .i64 4096, .int .i64 4097, .int .i64 9223372036854775807, .int .i64 (-9223372036854775808)] 3))) (Below.new (Below.new (Below.refl _ _) _) _)).box (by decide) (by decide)))
                        have R6 := Lib.hid (hT6.other (show Fresh ((wq.drew.alloc (.cells #[.slice none 0 0, .int .u64 0, .int .u64 0] 31)).alloc (.cells #[.int .i64 (-1), .int .i64 0, .int .i64 1, .int .i64 4096, .int .i64 4097, .int .i64 9223372036854775807, .int .i64 (-9223372036854775808)] 3)) wq.heap.size #[.slice none 0 0, .int .u64 0, .int .u64 0] 31 from ((Fresh.new _ _ _ _ rfl).alloc _)) ((H5d.out.below (W' := ((wq.drew.alloc (.cells #[.slice none 0 0, .int .u64 0, .int .u64 0] 31)).alloc (.cells #[.int .i64 (-1), .int .i64 0, .int .i64 1, .int .i64 4096, .int .i64 4097, .int .i64 9223372036854775807, .int .i64 (-9223372036854775808)] 3))) (Below.new (Below.new (Below.refl _ _) _) _)).bk.bk.out (show Fresh ((wq.drew.alloc (.cells #[.slice none 0 0, .int .u64 0, .int .u64 0] 31)).alloc (.cells #[.int .i64 (-1), .int .i64 0, .int .i64 1, .int .i64 4096, .int .i64 4097, .int .i64 9223372036854775807, .int .i64 (-9223372036854775808)] 3)) wq.heap.size #[.slice none 0 0, .int .u64 0, .int .u64 0] 31 from ((Fresh.new _ _ _ _ rfl).alloc _)) (by decide) (by decide)))
                        have t0 := R6.out.cell 0
                        have t1 := R6.out.cell 1
                        have t2 := R6.out.cell 2
                        have s0 := R6.out.thawed 0
                        have s1 := R6.out.thawed 1
                        have s2 := R6.out.thawed 2
                        simp only [List.getElem?_toArray, List.getElem?_cons_zero, List.getElem?_cons_succ] at t0 t1 t2
                        have H6 := Lib.hid (And.intro hH6 hS6)
                        clear hH6 hT6 hS6
                        go_wp2_with fail
                        refine hK.out _ _ ?_ (fun hHeld => ?_)
                        · (try dsimp only)
                          exact KS.out _ X6.out
                        clear hK K
                        try simp only [Act.put, List.setIfInBounds_toArray, List.set_cons_zero, List.set_cons_succ]
                        refine wpAnyH_take (i := 15) (oi := ?_) (v := ?_) ?_ (by kernel_rfl) (by kernel_rfl) (by kernel_rfl) ?_ (Or.inl ⟨?_, ?_⟩) (by assumption) ?_
                        rotate_left 2
                        · simp only [List.getElem?_toArray, List.getElem?_cons_succ, List.getElem?_cons_zero] <;> rfl
                        · exact fun _ _ _ h => h
                        · rfl
                        · (intro w hSw; (try dsimp only at hSw); go_simp; try (with_reducible rfl))
                        try simp only [Act.put, List.setIfInBounds_toArray, List.set_cons_zero, List.set_cons_succ]
                        refine wpAnyH_take (i := 16) (oi := ?_) (v := ?_) ?_ (by kernel_rfl) (by kernel_rfl) (by kernel_rfl) ?_ (Or.inl ⟨?_, ?_⟩) (by assumption) ?_
                        rotate_left 2
                        · simp only [List.getElem?_toArray, List.getElem?_cons_succ, List.getElem?_cons_zero] <;> rfl
                        · exact fun _ _ _ h => h
                        · rfl
                        · (intro w hSw; (try dsimp only at hSw); go_simp; try (with_reducible rfl))
                        try simp only [Act.put, List.setIfInBounds_toArray, List.set_cons_zero, List.set_cons_succ]
                        refine wpAnyH_take (i := 17) (oi := ?_) (v := ?_) ?_ (by kernel_rfl) (by kernel_rfl) (by kernel_rfl) ?_ (Or.inl ⟨?_, ?_⟩) (by assumption) ?_
                        rotate_left 2
                        · simp only [List.getElem?_toArray, List.getElem?_cons_succ, List.getElem?_cons_zero] <;> rfl
                        · exact fun _ _ _ h => h
                        · rfl
                        · (intro w hSw; (try dsimp only at hSw); go_simp; try (with_reducible rfl))
                        try simp only [Act.put, List.setIfInBounds_toArray, List.set_cons_zero, List.set_cons_succ]
                        refine wpAnyH_ready (rs := [19]) (by kernel_rfl) (by simp) ?_
                        refine AllReadyH.cons (o := _) (by simp only [List.getElem?_toArray, List.getElem?_cons_succ, List.getElem?_cons_zero] <;> rfl) (fun K hK => ?_) ?_
                        · go_simp
                          refine hK.out _ _ ?_ (fun hHeld => ?_)
                          · (try dsimp only)
                            exact KS.out _ (stored_other X6.out (by have := HH.out.box.lt; omega))
                          clear hK K
                          try simp only [Act.put, List.setIfInBounds_toArray, List.set_cons_zero, List.set_cons_succ]
                          refine wpAnyH_take (i := 20) (oi := ?_) (v := ?_) ?_ (by kernel_rfl) (by kernel_rfl) (by kernel_rfl) ?_ (Or.inl ⟨?_, ?_⟩) (by assumption) ?_
                          rotate_left 2
                          · simp only [List.getElem?_toArray, List.getElem?_cons_succ, List.getElem?_cons_zero] <;> rfl
                          · exact fun _ _ _ h => h
                          · rfl
                          · (intro w hSw; (try dsimp only at hSw); go_simp; try (with_reducible rfl))
                          try simp only [Act.put, List.setIfInBounds_toArray, List.set_cons_zero, List.set_cons_succ]
                          refine wpAnyH_done (by kernel_rfl) ?_ _
                          obtain ⟨Wn, hWn⟩ : ∃ Wn, Wn = stored w6 wq.heap.size (.slice a6 L2.length k6) K K := ⟨_, rfl⟩
                          have PN : Pairt Wl Wn p q0 e2 mp wq.heap.size L2 (.slice a6 L2.length k6) K K := by rw [hWn]; exact Pairt.stored H6.out.1 H6.out.2 R6.out rfl (by have := HH.out.bk.low.size; omega)
                          have XN : Fresh Wn z #[.slice av l.length cv, .int .u64 (K : Int), .int .u64 (K : Int)] 31 := by rw [hWn]; exact stored_other X6.out (by have := HH.out.box.lt; omega)
                          unfold stored at hWn
                          change Exit.then _ _ _ _ (((w6.setCell ⟨wq.heap.size, 0, none⟩ _).setCell ⟨wq.heap.size, 1, none⟩ _).setCell ⟨wq.heap.size, 2, none⟩ _)
                          rw [← hWn]
                          obtain ⟨nb, hnb⟩ : ∃ nb, wq.heap.size = nb := ⟨_, rfl⟩
                          rw [hnb] at PN ⊢
                          clear hWn hnb
                          have HPN := Lib.hid (And.intro PN XN)
                          have n0 := PN.box.cell 0
                          have n1 := PN.box.cell 1
                          have n2 := PN.box.cell 2
                          have y0' := XN.cell 0
                          have y1' := XN.cell 1
                          have y2' := XN.cell 2
                          have s0' := XN.thawed 0
                          have s1' := XN.thawed 1
                          have s2' := XN.thawed 2
                          simp only [List.getElem?_toArray, List.getElem?_cons_zero, List.getElem?_cons_succ] at n0 n1 n2 y0' y1' y2'
                          clear PN XN
                          go_upto_region 28 with fail
                          obtain ⟨Wm, hWm⟩ : ∃ Wm, Wm = stored Wn z (.slice a6 L2.length k6) K K := ⟨_, rfl⟩
                          have PM : Pairt Wl Wm p q0 e2 mp z L2 (.slice a6 L2.length k6) K K := by rw [hWm]; exact Pairt.stored HPN.out.1.bk HPN.out.1.seg HPN.out.2 rfl HZ.out
                          unfold stored at hWm
                          rw [← hWm]
                          have HPM := Lib.hid PM
                          have g0 := PM.box.cell 0
                          have g1 := PM.box.cell 1
                          have g2 := PM.box.cell 2
                          simp only [List.getElem?_toArray, List.getElem?_cons_zero, List.getElem?_cons_succ] at g0 g1 g2
                          have HLK : Hid (∀ (x : ByteArray), Calls Try.prog 13 #[.pointer (some ⟨p, 0, none⟩), .agg #[.slice a6 L2.length k6, .int .u64 (K : Int), .int .u64 (K : Int)], .string x] Wm fun e' w' => e' = .returned (.bool true) ∧ Below Wm.heap.size Wm w') := fun x => looks_any HPM.out.bk HPM.out.seg (by have := HL2.out; omega) x
                          clear hWm PM n0 n1 n2 y0' y1' y2' s0' s1' s2'
                          go_wp2_with (first | (go_at_call 13; refine (HLK.out _).mono ?_; rintro e9 w9 ⟨rfl, hb9⟩; have H9 := Lib.hid hb9; clear hb9 g0 g1 g2))
                          go_roundw
                          case rel => exact ⟨j + 1, by omega, by simp, e2, L2, _, HPM.out.below H9.out, by have := HL2.out; omega⟩
                          case measure => simp [intOf]; omega
                        exact AllReadyH.nil
                      exact AllReadyH.nil
                    exact AllReadyH.nil
                  exact AllReadyH.nil
                exact AllReadyH.nil
              · obtain rfl : j = 6 := by omega
                clear hH hl hj
                go_wp2_with fail
                go_roundw
                case rel => exact ⟨n + 1, by omega, by simp, e, l, _, HH.out, by have := HL.out; omega⟩
                case measure => simp [intOf]; omega
        · obtain rfl : n = 27 := by omega
          have HE := Lib.hid (Below.step B1.out (Below.step HWL.out HH.out.bk.low))
          clear hH hl hn
          go_wp2_with (first
            | (go_at_call 20; refine (none_any _).mono ?_; rintro e7 w7 ⟨rfl, hb7⟩; have H7 := Lib.hid (Below.step HE.out hb7); clear hb7)
            | (go_at_call 9; refine (awake_any _).mono ?_; rintro e8 w8 ⟨rfl, hb8⟩; have H8 := Lib.hid (Below.step H7.out hb8); clear hb8))
          go_ret
          exact ⟨rfl, H8.out⟩
end Go.Proofs.Ytcpmnkihhenbgaa
