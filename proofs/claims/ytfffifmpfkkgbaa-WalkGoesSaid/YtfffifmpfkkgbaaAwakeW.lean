/- The law's awake. -/
import Derived.Test.YtfffifmpfkkgbaaBoth
namespace Go.Proofs.Ytfffifmpfkkgbaa
open Go.RowKit Go.Shelf
set_option maxRecDepth 1000000
set_option maxHeartbeats 4000000

def kkA : Nat → ByteArray
  | 0 => ⟨#[98]⟩
  | 1 => ⟨#[97]⟩
  | _ => ⟨#[97, 98]⟩
def awL : Nat → List Pr
  | 0 => []
  | i + 1 => (putA (Cd.codeOf (kkA i)) ⟨#[]⟩ (awL i)).1
def xA : Pr := (⟨#[97, 0, 0]⟩, ⟨#[]⟩)
def yA : Pr := (⟨#[97, 98, 0, 0]⟩, ⟨#[]⟩)
def zA : Pr := (⟨#[98, 0, 0]⟩, ⟨#[]⟩)
theorem awL3 : awL 3 = [xA, yA, zA] := by decide +kernel
theorem aw_from : frmP ⟨#[]⟩ 2 [xA, yA, zA] = [xA, yA] := by decide +kernel
theorem aw_bet : betP ⟨#[97, 98, 0, 0]⟩ ⟨#[98, 0, 0]⟩ [xA, yA, zA] = [yA] := by decide +kernel
theorem aw_beg : begP ⟨#[97]⟩ [xA, yA, zA] = [xA, yA] := by decide +kernel
theorem aw_a : Cd.codeOf ⟨#[97]⟩ = ⟨#[97, 0, 0]⟩ := by decide +kernel
theorem aw_b : Cd.codeOf ⟨#[98]⟩ = ⟨#[98, 0, 0]⟩ := by decide +kernel
theorem aw_ab : Cd.codeOf ⟨#[97, 98]⟩ = ⟨#[97, 98, 0, 0]⟩ := by decide +kernel
theorem awL_len : ∀ i, (awL i).length ≤ i
  | 0 => Nat.le_refl _
  | i + 1 => by
    have h1 := awL_len i
    have h2 := put_length (x := Cd.codeOf (kkA i)) (y := ⟨#[]⟩) (l := awL i)
    unfold awL putA
    split
    · split
      · exact Nat.le_trans h2 (by omega)
      · exact Nat.le_succ_of_le h1
    · exact Nat.le_succ_of_le h1
theorem kkA_size (i : Nat) : (kkA i).size ≤ 2 := by
  match i with
  | 0 => decide
  | 1 => decide
  | n + 2 => show (2 : Nat) ≤ 2; exact Nat.le_refl _
theorem code_size (k : ByteArray) : (Cd.codeOf k).size ≤ 2 * k.size + 2 := by
  have h1 := Cd.encB_le k.data.toList
  have h2 : (Cd.codeOf k).size = (Cd.codeL k).length := by unfold Cd.codeOf; simp [ByteArray.size]
  rw [h2]
  unfold Cd.codeL
  rw [length_list] at h1
  simp
  omega
structure ARel (w : World) (p q m K i : Nat) (wr : World) : Prop where
  low : Below w.heap.size w wr
  art : ∃ e, (w.heap.size ≤ e ∧ e ≠ K) ∧ ArtAt wr p q e m (awL i)
  keys : Fresh wr K #[.string (kkA 0), .string (kkA 1), .string (kkA 2)] 9
theorem wp_region_at {P : Program} {id : Nat} {ops : Array Oper} {Q : Exit → Act → World → Prop} {S : World → Prop} {a : Act} {w W5 : World} (hm : P.follows .mixedOrders = true) (hd : w.drew = W5) (hS : S W5)
    (h : S W5 → wpAnyH P .any ops Q S ops.size (Array.replicate ops.size false) a W5) : (Code.region id ops true).wp P Q a w := by
  subst hd
  exact wp_region_held_drew hm hS h
theorem awake_any (w : World) : Calls Try.prog 7 #[] w fun e w' => e = .returned (.bool true) ∧ Below w.heap.size w w' := by
  go_enter Try.func7, Try.ntmps7
  go_wp2_with (go_at_call 8; refine (new_any _).mono ?_; rintro e1 w1 ⟨p, q, m, hp, hq, hm, rfl, hb1, ha1⟩; have H1 := Lib.hid (And.intro hp (And.intro hq (And.intro hm (And.intro hb1 ha1)))); clear hp hq hm hb1 ha1)
  obtain ⟨W2, hW2⟩ : ∃ W2, W2 = w1.alloc (.cells #[.string (kkA 0), .string (kkA 1), .string (kkA 2)] 9) := ⟨_, rfl⟩
  have hW2' : w1.alloc (.cells #[.string ⟨#[98]⟩, .string ⟨#[97]⟩, .string ⟨#[97, 98]⟩] 9) = W2 := by rw [hW2]; rfl
  rw [hW2']
  have hrel0 : ARel w p q m w1.heap.size 0 W2 := by
    have b2 : Below w1.heap.size w1 W2 := by rw [hW2]; exact Below.new (Below.refl _ _) _
    exact ⟨Below.step H1.out.2.2.2.1 b2, ⟨q, ⟨H1.out.2.1, Nat.ne_of_lt H1.out.2.2.2.2.lt.2.1⟩, H1.out.2.2.2.2.below b2⟩, by rw [hW2]; exact Fresh.new _ _ _ _ rfl⟩
  have HR0 := Lib.hid hrel0
  have HK : Hid (w.heap.size ≤ w1.heap.size ∧ w.heap.size ≤ q ∧ w.heap.size ≤ m ∧ w.heap.size ≤ p) := ⟨H1.out.2.2.2.1.size, H1.out.2.1, H1.out.2.2.1, H1.out.1⟩
  clear hW2 hW2' hrel0
  go_loopw [3] (fun iv wr => ∃ i : Nat, i ≤ 3 ∧ iv = .int .i64 i ∧ ARel w p q m w1.heap.size i wr) (fun iv _ => 3 - (intOf iv).toNat)
  case atStart => exact ⟨0, by omega, rfl, HR0.out⟩
  case round =>
    obtain ⟨i, hi, rfl, hR⟩ := hrel
    by_cases hlt : i < 3
    · obtain ⟨hlow, ⟨e, he, hA⟩, hK⟩ := hR
      have k0 : wr.cell? ⟨w1.heap.size, i, none⟩ = some (.string (kkA i)) := by
        rw [hK.cell]
        match i, hlt with
        | 0, _ => rfl
        | 1, _ => rfl
        | 2, _ => rfl
      have j0 : (0 : Int) ≤ (i : Int) := by omega
      have j3 : (i : Int) < 3 := by omega
      have jw : IntKind.i64.wrap ((i : Int) + 1) = (i : Int) + 1 := by rw [IntKind.wrap_i64]; omega
      have HC := Lib.hid (fun w => coded_any (kkA i) (by have := kkA_size i; omega) w)
      have hcs := code_size (kkA i)
      have hks := kkA_size i
      have hal := awL_len i
      have H5 := Lib.hid (And.intro hlow (And.intro he (And.intro hA (And.intro hK (And.intro hcs (And.intro hks (And.intro hal hlt)))))))
      clear hi hlow he hA hK hcs hks hal
      go_wp2_with (first
        | (go_at_call 26; refine (HC.out _).mono ?_; rintro e3 w3 ⟨rfl, hb3⟩; have H3 := Lib.hid hb3; clear hb3)
        | (go_at_call 25; refine (put_any (H5.out.2.2.1.below H3.out) (by have := H5.out.2.2.2.2.2.2.1; omega) (Cd.codeOf (kkA i)) ⟨#[]⟩ (by have := H5.out.2.2.2.2.1; have := H5.out.2.2.2.2.2.1; omega) (by decide)).mono ?_; rintro e4 w4 ⟨rfl, e5, hw4⟩; have H4 := Lib.hid hw4; clear hw4))
      go_roundw
      case rel =>
        obtain ⟨y1, y2, y3, y4, _⟩ := H5.out
        have hk := HK.out
        refine ⟨i + 1, by omega, by simp, Turned.below (S := [q, e, m]) (Below.step y1 H3.out) H4.out.turned (by simp; omega) (Nat.le_trans y1.size H3.out.size), ⟨e5, ?_, H4.out.bk⟩, ?_⟩
        · rcases H4.out.new with h | h
          · rw [h]; exact y2
          · exact ⟨Nat.le_trans (Nat.le_trans y1.size H3.out.size) h, by have := y4.lt; have := H3.out.size; omega⟩
        · obtain ⟨u, hu⟩ := y3.st
          have n1 : w1.heap.size ≠ q := by intro h; exact absurd (fresh_ty y4 (h ▸ hu.key.box)) (by decide)
          have n3 : w1.heap.size ≠ m := fun h => hu.map.ne y4 h.symm
          have n2 : w1.heap.size ≠ e := fun h => y2.2 h.symm
          exact H4.out.turned.other (y4.below H3.out) (by simp [n1, n2, n3])
      case measure => simp [intOf]; omega
    · obtain rfl : i = 3 := by omega
      obtain ⟨hlow, ⟨e, he, hA⟩, hK⟩ := hR
      rw [awL3] at hA
      have j3 : ¬ ((3 : Nat) : Int) < 3 := by omega
      have HC := Lib.hid (fun (k : ByteArray) (h : k.size ≤ 2) w => coded_any k (by omega) w)
      have H5 := Lib.hid (And.intro hlow hA)
      clear hi hlow he hA hK hlt
      go_upto_region 8 with (first
        | (go_at_call 26; with_reducible refine (HC.out ⟨#[97]⟩ (by decide) _).mono ?_; rw [aw_a]; rintro e3 w3 ⟨rfl, hb3⟩; have H3 := Lib.hid hb3; clear hb3)
        | (go_at_call 26; with_reducible refine (HC.out ⟨#[97, 98]⟩ (by decide) _).mono ?_; rw [aw_ab]; rintro e4 w4 ⟨rfl, hb4⟩; have H4 := Lib.hid hb4; clear hb4))
      obtain ⟨W5, hW5⟩ : ∃ W5, W5 = ((w4.alloc (.cells #[.string ⟨#[97, 0, 0]⟩, .string ⟨#[]⟩] 34)).alloc (.cells #[.string ⟨#[97, 98, 0, 0]⟩, .string ⟨#[]⟩] 34)).drew := ⟨_, rfl⟩
      have B5 : Below w4.heap.size w4 W5 := by rw [hW5]; exact (Below.new (Below.new (Below.refl _ _) _) _).drew
      have fx : Fresh W5 w4.heap.size #[.string ⟨#[97, 0, 0]⟩, .string ⟨#[]⟩] 34 := by rw [hW5]; exact ((Fresh.new _ _ _ _ rfl).alloc _).drew
      have fy : Fresh W5 (w4.heap.size + 1) #[.string ⟨#[97, 98, 0, 0]⟩, .string ⟨#[]⟩] 34 := by rw [hW5]; exact (Fresh.new _ _ _ _ (by simp)).drew
      have B45 := Below.step H3.out (Below.step H4.out B5)
      have HLOW := Lib.hid (Below.step H5.out.1 B45)
      have HA := Lib.hid (H5.out.2.below B45)
      have x0 := fx.cell 0
      have x1 := fx.cell 1
      have y0 := fy.cell 0
      have y1 := fy.cell 1
      simp only [List.getElem?_toArray, List.getElem?_cons_zero, List.getElem?_cons_succ] at x0 x1 y0 y1
      have KS : Hid (∀ w', Below W5.heap.size W5 w' → w'.cell? ⟨w4.heap.size, 0, none⟩ = some (.string ⟨#[97, 0, 0]⟩) ∧ w'.cell? ⟨w4.heap.size, 1, none⟩ = some (.string ⟨#[]⟩) ∧ w'.cell? ⟨w4.heap.size + 1, 0, none⟩ = some (.string ⟨#[97, 98, 0, 0]⟩) ∧ w'.cell? ⟨w4.heap.size + 1, 1, none⟩ = some (.string ⟨#[]⟩)) := fun w' hb =>
        ⟨(hb.cell (cell_lt' x0)).trans x0, (hb.cell (cell_lt' x1)).trans x1, (hb.cell (cell_lt' y0)).trans y0, (hb.cell (cell_lt' y1)).trans y1⟩
      have AF : Hid (∀ w', Below W5.heap.size W5 w' → Calls Try.prog 20 #[.pointer (some ⟨p, 0, none⟩), .string ⟨#[]⟩, .int .i64 2] w' fun e B => ∃ v, e = .returned v ∧ Below w'.heap.size w' B ∧ B.ownsRow w'.heap.size 34 2 v [xA, yA].length (flatP [xA, yA])) := fun w' hb => by
        have := wfrom_q (HA.out.below hb) (by decide) ⟨#[]⟩ 2 (by decide)
        rw [aw_from] at this
        exact this
      have AB : Hid (∀ w', Below W5.heap.size W5 w' → Calls Try.prog 13 #[.pointer (some ⟨p, 0, none⟩), .string ⟨#[97, 98, 0, 0]⟩, .string ⟨#[98, 0, 0]⟩] w' fun e B => ∃ v, e = .returned v ∧ Below w'.heap.size w' B ∧ B.ownsRow w'.heap.size 34 2 v [yA].length (flatP [yA])) := fun w' hb => by
        have := between_any (HA.out.below hb) (by decide) ⟨#[97, 98, 0, 0]⟩ ⟨#[98, 0, 0]⟩
        rw [aw_bet] at this
        exact this
      have AG : Hid (∀ w', Below W5.heap.size W5 w' → Calls Try.prog 23 #[.pointer (some ⟨p, 0, none⟩), .string ⟨#[97]⟩] w' fun e B => ∃ v, e = .returned v ∧ Below w'.heap.size w' B ∧ B.ownsRow w'.heap.size 34 2 v [xA, yA].length (flatP [xA, yA])) := fun w' hb => by
        have := begin_q (HA.out.below hb) (by decide) ⟨#[97]⟩ (by decide)
        rw [aw_beg] at this
        exact this
      refine wp_region_at (S := fun w' => w'.cell? ⟨w4.heap.size, 0, none⟩ = some (.string ⟨#[97, 0, 0]⟩) ∧ w'.cell? ⟨w4.heap.size, 1, none⟩ = some (.string ⟨#[]⟩) ∧ w'.cell? ⟨w4.heap.size + 1, 0, none⟩ = some (.string ⟨#[97, 98, 0, 0]⟩) ∧ w'.cell? ⟨w4.heap.size + 1, 1, none⟩ = some (.string ⟨#[]⟩)) (by kernel_rfl) hW5.symm (KS.out _ (Below.refl _ _)) (fun hHeld => ?_)
      clear hW5 B5 fx fy B45 x0 x1 y0 y1
      refine wpAnyH_take (i := 0) (oi := ?_) (v := ?_) ?_ (by kernel_rfl) (by kernel_rfl) (by kernel_rfl) ?_ (Or.inl ⟨?_, ?_⟩) (by assumption) ?_
      rotate_left 2
      · simp only [List.getElem?_toArray, List.getElem?_cons_zero] <;> rfl
      · exact fun _ _ _ h => h
      · rfl
      · (intro w hSw; (try dsimp only at hSw); go_simp; try (with_reducible rfl))
      try simp only [Act.put, List.setIfInBounds_toArray, List.set_cons_zero, List.set_cons_succ]
      refine wpAnyH_take (i := 2) (oi := ?_) (v := ?_) ?_ (by kernel_rfl) (by kernel_rfl) (by kernel_rfl) ?_ (Or.inl ⟨?_, ?_⟩) (by assumption) ?_
      rotate_left 2
      · simp only [List.getElem?_toArray, List.getElem?_cons_succ, List.getElem?_cons_zero] <;> rfl
      · exact fun _ _ _ h => h
      · rfl
      · (intro w hSw; (try dsimp only at hSw); go_simp; try (with_reducible rfl))
      try simp only [Act.put, List.setIfInBounds_toArray, List.set_cons_zero, List.set_cons_succ]
      refine wpAnyH_take (i := 3) (oi := ?_) (v := ?_) ?_ (by kernel_rfl) (by kernel_rfl) (by kernel_rfl) ?_ (Or.inl ⟨?_, ?_⟩) (by assumption) ?_
      rotate_left 2
      · simp only [List.getElem?_toArray, List.getElem?_cons_succ, List.getElem?_cons_zero] <;> rfl
      · exact fun _ _ _ h => h
      · rfl
      · (intro w hSw; (try dsimp only at hSw); go_simp; try (with_reducible rfl))
      try simp only [Act.put, List.setIfInBounds_toArray, List.set_cons_zero, List.set_cons_succ]
      refine wpAnyH_ready (rs := [1, 4]) (by kernel_rfl) (by simp) ?_
      refine AllReadyH.cons (o := _) (by simp only [List.getElem?_toArray, List.getElem?_cons_succ, List.getElem?_cons_zero] <;> rfl) (fun K hK => ?_) ?_
      · go_simp
        with_reducible refine (AF.out _ (Below.refl _ _)).mono ?_
        rintro e1 w1 ⟨v1, rfl, hb1, ho1⟩
        obtain ⟨a1, k1, rfl⟩ := row_form ho1
        have HB1 := Lib.hid hb1
        have HO1 := Lib.hid ho1
        clear hb1 ho1
        go_wp2_with fail
        refine hK.out _ _ ?_ (fun hHeld => ?_)
        · (try dsimp only)
          exact KS.out _ HB1.out
        clear hK K
        try simp only [Act.put, List.setIfInBounds_toArray, List.set_cons_zero, List.set_cons_succ]
        refine wpAnyH_ready (rs := [4]) (by kernel_rfl) (by simp) ?_
        refine AllReadyH.cons (o := _) (by simp only [List.getElem?_toArray, List.getElem?_cons_succ, List.getElem?_cons_zero] <;> rfl) (fun K hK => ?_) ?_
        · go_simp
          refine hK.out _ _ ?_ (fun hHeld => ?_)
          · (try dsimp only)
            exact KS.out _ (Below.step HB1.out (Below.new (Below.refl _ _) _))
          clear hK K
          try simp only [Act.put, List.setIfInBounds_toArray, List.set_cons_zero, List.set_cons_succ]
          refine wpAnyH_ready (rs := [5]) (by kernel_rfl) (by simp) ?_
          refine AllReadyH.cons (o := _) (by simp only [List.getElem?_toArray, List.getElem?_cons_succ, List.getElem?_cons_zero] <;> rfl) (fun K hK => ?_) ?_
          · go_simp
            refine (same_any ((Holds.of_own HO1.out).below (Below.new (Below.refl _ _) _)) ((Holds.of_own (l := [xA, yA]) (World.ownsRow_lit _ #[.string ⟨#[97, 0, 0]⟩, .string ⟨#[]⟩, .string ⟨#[97, 98, 0, 0]⟩, .string ⟨#[]⟩] 2 (Nat.le_refl _) (by unfold maxLen; omega) rfl)).below (Below.refl _ _)) (by decide) (by decide)).mono ?_
            rw [show sameP [xA, yA] [xA, yA] = true from by simp [sameP]]
            rintro e5 w5 ⟨rfl, hb5⟩
            have HB5 := Lib.hid hb5
            clear hb5
            go_wp2_with fail
            refine hK.out _ _ ?_ (fun hHeld => ?_)
            · (try dsimp only)
              exact KS.out _ (Below.step (Below.step HB1.out (Below.new (Below.refl _ _) _)) HB5.out)
            clear hK K
            try simp only [Act.put, List.setIfInBounds_toArray, List.set_cons_zero, List.set_cons_succ]
            refine wpAnyH_take (i := 6) (oi := ?_) (v := ?_) ?_ (by kernel_rfl) (by kernel_rfl) (by kernel_rfl) ?_ (Or.inl ⟨?_, ?_⟩) (by assumption) ?_
            rotate_left 2
            · simp only [List.getElem?_toArray, List.getElem?_cons_succ, List.getElem?_cons_zero] <;> rfl
            · exact fun _ _ _ h => h
            · rfl
            · (intro w hSw; (try dsimp only at hSw); go_simp; try (with_reducible rfl))
            try simp only [Act.put, List.setIfInBounds_toArray, List.set_cons_zero, List.set_cons_succ]
            refine wpAnyH_take (i := 7) (oi := ?_) (v := ?_) ?_ (by kernel_rfl) (by kernel_rfl) (by kernel_rfl) ?_ (Or.inl ⟨?_, ?_⟩) (by assumption) ?_
            rotate_left 2
            · simp only [List.getElem?_toArray, List.getElem?_cons_succ, List.getElem?_cons_zero] <;> rfl
            · exact fun _ _ _ h => h
            · rfl
            · (intro w hSw; (try dsimp only at hSw); go_simp; try (with_reducible rfl))
            try simp only [Act.put, List.setIfInBounds_toArray, List.set_cons_zero, List.set_cons_succ]
            refine wpAnyH_take (i := 11) (oi := ?_) (v := ?_) ?_ (by kernel_rfl) (by kernel_rfl) (by kernel_rfl) ?_ (Or.inl ⟨?_, ?_⟩) (by assumption) ?_
            rotate_left 2
            · simp only [List.getElem?_toArray, List.getElem?_cons_succ, List.getElem?_cons_zero] <;> rfl
            · exact fun _ _ _ h => h
            · rfl
            · (intro w hSw; (try dsimp only at hSw); go_simp; try (with_reducible rfl))
            try simp only [Act.put, List.setIfInBounds_toArray, List.set_cons_zero, List.set_cons_succ]
            refine wpAnyH_ready (rs := [8, 12]) (by kernel_rfl) (by simp) ?_
            refine AllReadyH.cons (o := _) (by simp only [List.getElem?_toArray, List.getElem?_cons_succ, List.getElem?_cons_zero] <;> rfl) (fun K hK => ?_) ?_
            · go_simp
              with_reducible refine (HC.out ⟨#[97, 98]⟩ (by decide) _).mono ?_
              rw [aw_ab]
              rintro e8 w8 ⟨rfl, hb8⟩
              have HB8 := Lib.hid hb8
              clear hb8
              go_wp2_with fail
              refine hK.out _ _ ?_ (fun hHeld => ?_)
              · (try dsimp only)
                exact KS.out _ (Below.step (Below.step (Below.step HB1.out (Below.new (Below.refl _ _) _)) HB5.out) HB8.out)
              clear hK K
              try simp only [Act.put, List.setIfInBounds_toArray, List.set_cons_zero, List.set_cons_succ]
              refine wpAnyH_ready (rs := [9, 12]) (by kernel_rfl) (by simp) ?_
              refine AllReadyH.cons (o := _) (by simp only [List.getElem?_toArray, List.getElem?_cons_succ, List.getElem?_cons_zero] <;> rfl) (fun K hK => ?_) ?_
              · go_simp
                with_reducible refine (HC.out ⟨#[98]⟩ (by decide) _).mono ?_
                rw [aw_b]
                rintro e9 w9 ⟨rfl, hb9⟩
                have HB9 := Lib.hid hb9
                clear hb9
                go_wp2_with fail
                refine hK.out _ _ ?_ (fun hHeld => ?_)
                · (try dsimp only)
                  exact KS.out _ (Below.step (Below.step (Below.step (Below.step HB1.out (Below.new (Below.refl _ _) _)) HB5.out) HB8.out) HB9.out)
                clear hK K
                try simp only [Act.put, List.setIfInBounds_toArray, List.set_cons_zero, List.set_cons_succ]
                refine wpAnyH_ready (rs := [10, 12]) (by kernel_rfl) (by simp) ?_
                refine AllReadyH.cons (o := _) (by simp only [List.getElem?_toArray, List.getElem?_cons_succ, List.getElem?_cons_zero] <;> rfl) (fun K hK => ?_) ?_
                · go_simp
                  with_reducible refine (AB.out _ (Below.step (Below.step (Below.step (Below.step HB1.out (Below.new (Below.refl _ _) _)) HB5.out) HB8.out) HB9.out)).mono ?_
                  rintro e10 w10 ⟨v10, rfl, hb10, ho10⟩
                  obtain ⟨a10, k10, rfl⟩ := row_form ho10
                  have HB10 := Lib.hid hb10
                  have HO10 := Lib.hid ho10
                  clear hb10 ho10
                  go_wp2_with fail
                  refine hK.out _ _ ?_ (fun hHeld => ?_)
                  · (try dsimp only)
                    exact KS.out _ (Below.step (Below.step (Below.step (Below.step (Below.step HB1.out (Below.new (Below.refl _ _) _)) HB5.out) HB8.out) HB9.out) HB10.out)
                  clear hK K
                  try simp only [Act.put, List.setIfInBounds_toArray, List.set_cons_zero, List.set_cons_succ]
                  refine wpAnyH_ready (rs := [12]) (by kernel_rfl) (by simp) ?_
                  refine AllReadyH.cons (o := _) (by simp only [List.getElem?_toArray, List.getElem?_cons_succ, List.getElem?_cons_zero] <;> rfl) (fun K hK => ?_) ?_
                  · go_simp
                    refine hK.out _ _ ?_ (fun hHeld => ?_)
                    · (try dsimp only)
                      exact KS.out _ (Below.step (Below.step (Below.step (Below.step (Below.step (Below.step HB1.out (Below.new (Below.refl _ _) _)) HB5.out) HB8.out) HB9.out) HB10.out) (Below.new (Below.refl _ _) _))
                    clear hK K
                    try simp only [Act.put, List.setIfInBounds_toArray, List.set_cons_zero, List.set_cons_succ]
                    refine wpAnyH_ready (rs := [13]) (by kernel_rfl) (by simp) ?_
                    refine AllReadyH.cons (o := _) (by simp only [List.getElem?_toArray, List.getElem?_cons_succ, List.getElem?_cons_zero] <;> rfl) (fun K hK => ?_) ?_
                    · go_simp
                      refine (same_any ((Holds.of_own HO10.out).below (Below.new (Below.refl _ _) _)) ((Holds.of_own (l := [yA]) (World.ownsRow_lit _ #[.string ⟨#[97, 98, 0, 0]⟩, .string ⟨#[]⟩] 1 (Nat.le_refl _) (by unfold maxLen; omega) rfl)).below (Below.refl _ _)) (by decide) (by decide)).mono ?_
                      rw [show sameP [yA] [yA] = true from by simp [sameP]]
                      rintro e13 w13 ⟨rfl, hb13⟩
                      have HB13 := Lib.hid hb13
                      clear hb13
                      go_wp2_with fail
                      refine hK.out _ _ ?_ (fun hHeld => ?_)
                      · (try dsimp only)
                        exact KS.out _ (Below.step (Below.step (Below.step (Below.step (Below.step (Below.step (Below.step HB1.out (Below.new (Below.refl _ _) _)) HB5.out) HB8.out) HB9.out) HB10.out) (Below.new (Below.refl _ _) _)) HB13.out)
                      clear hK K
                      try simp only [Act.put, List.setIfInBounds_toArray, List.set_cons_zero, List.set_cons_succ]
                      refine wpAnyH_take (i := 14) (oi := ?_) (v := ?_) ?_ (by kernel_rfl) (by kernel_rfl) (by kernel_rfl) ?_ (Or.inl ⟨?_, ?_⟩) (by assumption) ?_
                      rotate_left 2
                      · simp only [List.getElem?_toArray, List.getElem?_cons_succ, List.getElem?_cons_zero] <;> rfl
                      · exact fun _ _ _ h => h
                      · rfl
                      · (intro w hSw; (try dsimp only at hSw); go_simp; try (with_reducible rfl))
                      try simp only [Act.put, List.setIfInBounds_toArray, List.set_cons_zero, List.set_cons_succ]
                      refine wpAnyH_take (i := 15) (oi := ?_) (v := ?_) ?_ (by kernel_rfl) (by kernel_rfl) (by kernel_rfl) ?_ (Or.inl ⟨?_, ?_⟩) (by assumption) ?_
                      rotate_left 2
                      · simp only [List.getElem?_toArray, List.getElem?_cons_succ, List.getElem?_cons_zero] <;> rfl
                      · exact fun _ _ _ h => h
                      · rfl
                      · (intro w hSw; (try dsimp only at hSw); go_simp; try (with_reducible rfl))
                      try simp only [Act.put, List.setIfInBounds_toArray, List.set_cons_zero, List.set_cons_succ]
                      refine wpAnyH_take (i := 16) (oi := ?_) (v := ?_) ?_ (by kernel_rfl) (by kernel_rfl) (by kernel_rfl) ?_ (Or.inl ⟨?_, ?_⟩) (by assumption) ?_
                      rotate_left 2
                      · simp only [List.getElem?_toArray, List.getElem?_cons_succ, List.getElem?_cons_zero] <;> rfl
                      · exact fun _ _ _ h => h
                      · rfl
                      · (intro w hSw; (try dsimp only at hSw); go_simp; try (with_reducible rfl))
                      try simp only [Act.put, List.setIfInBounds_toArray, List.set_cons_zero, List.set_cons_succ]
                      refine wpAnyH_take (i := 18) (oi := ?_) (v := ?_) ?_ (by kernel_rfl) (by kernel_rfl) (by kernel_rfl) ?_ (Or.inl ⟨?_, ?_⟩) (by assumption) ?_
                      rotate_left 2
                      · simp only [List.getElem?_toArray, List.getElem?_cons_succ, List.getElem?_cons_zero] <;> rfl
                      · exact fun _ _ _ h => h
                      · rfl
                      · (intro w hSw; (try dsimp only at hSw); go_simp; try (with_reducible rfl))
                      try simp only [Act.put, List.setIfInBounds_toArray, List.set_cons_zero, List.set_cons_succ]
                      refine wpAnyH_take (i := 19) (oi := ?_) (v := ?_) ?_ (by kernel_rfl) (by kernel_rfl) (by kernel_rfl) ?_ (Or.inl ⟨?_, ?_⟩) (by assumption) ?_
                      rotate_left 2
                      · simp only [List.getElem?_toArray, List.getElem?_cons_succ, List.getElem?_cons_zero] <;> rfl
                      · exact fun _ _ _ h => h
                      · rfl
                      · (intro w hSw; (try dsimp only at hSw); go_simp; try (with_reducible rfl))
                      try simp only [Act.put, List.setIfInBounds_toArray, List.set_cons_zero, List.set_cons_succ]
                      refine wpAnyH_ready (rs := [17, 20]) (by kernel_rfl) (by simp) ?_
                      refine AllReadyH.cons (o := _) (by simp only [List.getElem?_toArray, List.getElem?_cons_succ, List.getElem?_cons_zero] <;> rfl) (fun K hK => ?_) ?_
                      · go_simp
                        with_reducible refine (AG.out _ (Below.step (Below.step (Below.step (Below.step (Below.step (Below.step (Below.step HB1.out (Below.new (Below.refl _ _) _)) HB5.out) HB8.out) HB9.out) HB10.out) (Below.new (Below.refl _ _) _)) HB13.out)).mono ?_
                        rintro e17 w17 ⟨v17, rfl, hb17, ho17⟩
                        obtain ⟨a17, k17, rfl⟩ := row_form ho17
                        have HB17 := Lib.hid hb17
                        have HO17 := Lib.hid ho17
                        clear hb17 ho17
                        go_wp2_with fail
                        refine hK.out _ _ ?_ (fun hHeld => ?_)
                        · (try dsimp only)
                          exact KS.out _ (Below.step (Below.step (Below.step (Below.step (Below.step (Below.step (Below.step (Below.step HB1.out (Below.new (Below.refl _ _) _)) HB5.out) HB8.out) HB9.out) HB10.out) (Below.new (Below.refl _ _) _)) HB13.out) HB17.out)
                        clear hK K
                        try simp only [Act.put, List.setIfInBounds_toArray, List.set_cons_zero, List.set_cons_succ]
                        refine wpAnyH_ready (rs := [20]) (by kernel_rfl) (by simp) ?_
                        refine AllReadyH.cons (o := _) (by simp only [List.getElem?_toArray, List.getElem?_cons_succ, List.getElem?_cons_zero] <;> rfl) (fun K hK => ?_) ?_
                        · go_simp
                          refine hK.out _ _ ?_ (fun hHeld => ?_)
                          · (try dsimp only)
                            exact KS.out _ (Below.step (Below.step (Below.step (Below.step (Below.step (Below.step (Below.step (Below.step (Below.step HB1.out (Below.new (Below.refl _ _) _)) HB5.out) HB8.out) HB9.out) HB10.out) (Below.new (Below.refl _ _) _)) HB13.out) HB17.out) (Below.new (Below.refl _ _) _))
                          clear hK K
                          try simp only [Act.put, List.setIfInBounds_toArray, List.set_cons_zero, List.set_cons_succ]
                          refine wpAnyH_ready (rs := [21]) (by kernel_rfl) (by simp) ?_
                          refine AllReadyH.cons (o := _) (by simp only [List.getElem?_toArray, List.getElem?_cons_succ, List.getElem?_cons_zero] <;> rfl) (fun K hK => ?_) ?_
                          · go_simp
                            refine (same_any ((Holds.of_own HO17.out).below (Below.new (Below.refl _ _) _)) ((Holds.of_own (l := [xA, yA]) (World.ownsRow_lit _ #[.string ⟨#[97, 0, 0]⟩, .string ⟨#[]⟩, .string ⟨#[97, 98, 0, 0]⟩, .string ⟨#[]⟩] 2 (Nat.le_refl _) (by unfold maxLen; omega) rfl)).below (Below.refl _ _)) (by decide) (by decide)).mono ?_
                            rw [show sameP [xA, yA] [xA, yA] = true from by simp [sameP]]
                            rintro e21 w21 ⟨rfl, hb21⟩
                            have HB21 := Lib.hid hb21
                            clear hb21
                            go_wp2_with fail
                            refine hK.out _ _ ?_ (fun hHeld => ?_)
                            · (try dsimp only)
                              exact KS.out _ (Below.step (Below.step (Below.step (Below.step (Below.step (Below.step (Below.step (Below.step (Below.step (Below.step HB1.out (Below.new (Below.refl _ _) _)) HB5.out) HB8.out) HB9.out) HB10.out) (Below.new (Below.refl _ _) _)) HB13.out) HB17.out) (Below.new (Below.refl _ _) _)) HB21.out)
                            clear hK K
                            try simp only [Act.put, List.setIfInBounds_toArray, List.set_cons_zero, List.set_cons_succ]
                            refine wpAnyH_take (i := 22) (oi := ?_) (v := ?_) ?_ (by kernel_rfl) (by kernel_rfl) (by kernel_rfl) ?_ (Or.inl ⟨?_, ?_⟩) (by assumption) ?_
                            rotate_left 2
                            · simp only [List.getElem?_toArray, List.getElem?_cons_succ, List.getElem?_cons_zero] <;> rfl
                            · exact fun _ _ _ h => h
                            · rfl
                            · (intro w hSw; (try dsimp only at hSw); go_simp; try (with_reducible rfl))
                            try simp only [Act.put, List.setIfInBounds_toArray, List.set_cons_zero, List.set_cons_succ]
                            refine wpAnyH_take (i := 23) (oi := ?_) (v := ?_) ?_ (by kernel_rfl) (by kernel_rfl) (by kernel_rfl) ?_ (Or.inl ⟨?_, ?_⟩) (by assumption) ?_
                            rotate_left 2
                            · simp only [List.getElem?_toArray, List.getElem?_cons_succ, List.getElem?_cons_zero] <;> rfl
                            · exact fun _ _ _ h => h
                            · rfl
                            · (intro w hSw; (try dsimp only at hSw); go_simp; try (with_reducible rfl))
                            try simp only [Act.put, List.setIfInBounds_toArray, List.set_cons_zero, List.set_cons_succ]
                            refine wpAnyH_done (by kernel_rfl) ?_ _
                            go_wp2_with fail
                            go_ret
                            exact ⟨rfl, Below.step HLOW.out (Below.step (Below.step (Below.step (Below.step (Below.step (Below.step (Below.step (Below.step (Below.step (Below.step HB1.out (Below.new (Below.refl _ _) _)) HB5.out) HB8.out) HB9.out) HB10.out) (Below.new (Below.refl _ _) _)) HB13.out) HB17.out) (Below.new (Below.refl _ _) _)) HB21.out)⟩
                          exact AllReadyH.nil
                        exact AllReadyH.nil
                      refine AllReadyH.cons (o := _) (by simp only [List.getElem?_toArray, List.getElem?_cons_succ, List.getElem?_cons_zero] <;> rfl) (fun K hK => ?_) ?_
                      · go_simp
                        refine hK.out _ _ ?_ (fun hHeld => ?_)
                        · (try dsimp only)
                          exact KS.out _ (Below.step (Below.step (Below.step (Below.step (Below.step (Below.step (Below.step (Below.step HB1.out (Below.new (Below.refl _ _) _)) HB5.out) HB8.out) HB9.out) HB10.out) (Below.new (Below.refl _ _) _)) HB13.out) (Below.new (Below.refl _ _) _))
                        clear hK K
                        try simp only [Act.put, List.setIfInBounds_toArray, List.set_cons_zero, List.set_cons_succ]
                        refine wpAnyH_ready (rs := [17]) (by kernel_rfl) (by simp) ?_
                        refine AllReadyH.cons (o := _) (by simp only [List.getElem?_toArray, List.getElem?_cons_succ, List.getElem?_cons_zero] <;> rfl) (fun K hK => ?_) ?_
                        · go_simp
                          with_reducible refine (AG.out _ (Below.step (Below.step (Below.step (Below.step (Below.step (Below.step (Below.step (Below.step HB1.out (Below.new (Below.refl _ _) _)) HB5.out) HB8.out) HB9.out) HB10.out) (Below.new (Below.refl _ _) _)) HB13.out) (Below.new (Below.refl _ _) _))).mono ?_
                          rintro e17 w17 ⟨v17, rfl, hb17, ho17⟩
                          obtain ⟨a17, k17, rfl⟩ := row_form ho17
                          have HB17 := Lib.hid hb17
                          have HO17 := Lib.hid ho17
                          clear hb17 ho17
                          go_wp2_with fail
                          refine hK.out _ _ ?_ (fun hHeld => ?_)
                          · (try dsimp only)
                            exact KS.out _ (Below.step (Below.step (Below.step (Below.step (Below.step (Below.step (Below.step (Below.step (Below.step HB1.out (Below.new (Below.refl _ _) _)) HB5.out) HB8.out) HB9.out) HB10.out) (Below.new (Below.refl _ _) _)) HB13.out) (Below.new (Below.refl _ _) _)) HB17.out)
                          clear hK K
                          try simp only [Act.put, List.setIfInBounds_toArray, List.set_cons_zero, List.set_cons_succ]
                          refine wpAnyH_ready (rs := [21]) (by kernel_rfl) (by simp) ?_
                          refine AllReadyH.cons (o := _) (by simp only [List.getElem?_toArray, List.getElem?_cons_succ, List.getElem?_cons_zero] <;> rfl) (fun K hK => ?_) ?_
                          · go_simp
                            refine (same_any ((Holds.of_own HO17.out).below (Below.refl _ _)) ((Holds.of_own (l := [xA, yA]) (World.ownsRow_lit _ #[.string ⟨#[97, 0, 0]⟩, .string ⟨#[]⟩, .string ⟨#[97, 98, 0, 0]⟩, .string ⟨#[]⟩] 2 (Nat.le_refl _) (by unfold maxLen; omega) rfl)).below HB17.out) (by decide) (by decide)).mono ?_
                            rw [show sameP [xA, yA] [xA, yA] = true from by simp [sameP]]
                            rintro e21 w21 ⟨rfl, hb21⟩
                            have HB21 := Lib.hid hb21
                            clear hb21
                            go_wp2_with fail
                            refine hK.out _ _ ?_ (fun hHeld => ?_)
                            · (try dsimp only)
                              exact KS.out _ (Below.step (Below.step (Below.step (Below.step (Below.step (Below.step (Below.step (Below.step (Below.step (Below.step HB1.out (Below.new (Below.refl _ _) _)) HB5.out) HB8.out) HB9.out) HB10.out) (Below.new (Below.refl _ _) _)) HB13.out) (Below.new (Below.refl _ _) _)) HB17.out) HB21.out)
                            clear hK K
                            try simp only [Act.put, List.setIfInBounds_toArray, List.set_cons_zero, List.set_cons_succ]
                            refine wpAnyH_take (i := 22) (oi := ?_) (v := ?_) ?_ (by kernel_rfl) (by kernel_rfl) (by kernel_rfl) ?_ (Or.inl ⟨?_, ?_⟩) (by assumption) ?_
                            rotate_left 2
                            · simp only [List.getElem?_toArray, List.getElem?_cons_succ, List.getElem?_cons_zero] <;> rfl
                            · exact fun _ _ _ h => h
                            · rfl
                            · (intro w hSw; (try dsimp only at hSw); go_simp; try (with_reducible rfl))
                            try simp only [Act.put, List.setIfInBounds_toArray, List.set_cons_zero, List.set_cons_succ]
                            refine wpAnyH_take (i := 23) (oi := ?_) (v := ?_) ?_ (by kernel_rfl) (by kernel_rfl) (by kernel_rfl) ?_ (Or.inl ⟨?_, ?_⟩) (by assumption) ?_
                            rotate_left 2
                            · simp only [List.getElem?_toArray, List.getElem?_cons_succ, List.getElem?_cons_zero] <;> rfl
                            · exact fun _ _ _ h => h
                            · rfl
                            · (intro w hSw; (try dsimp only at hSw); go_simp; try (with_reducible rfl))
                            try simp only [Act.put, List.setIfInBounds_toArray, List.set_cons_zero, List.set_cons_succ]
                            refine wpAnyH_done (by kernel_rfl) ?_ _
                            go_wp2_with fail
                            go_ret
                            exact ⟨rfl, Below.step HLOW.out (Below.step (Below.step (Below.step (Below.step (Below.step (Below.step (Below.step (Below.step (Below.step (Below.step HB1.out (Below.new (Below.refl _ _) _)) HB5.out) HB8.out) HB9.out) HB10.out) (Below.new (Below.refl _ _) _)) HB13.out) (Below.new (Below.refl _ _) _)) HB17.out) HB21.out)⟩
                          exact AllReadyH.nil
                        exact AllReadyH.nil
                      exact AllReadyH.nil
                    exact AllReadyH.nil
                  exact AllReadyH.nil
                refine AllReadyH.cons (o := _) (by simp only [List.getElem?_toArray, List.getElem?_cons_succ, List.getElem?_cons_zero] <;> rfl) (fun K hK => ?_) ?_
                · go_simp
                  refine hK.out _ _ ?_ (fun hHeld => ?_)
                  · (try dsimp only)
                    exact KS.out _ (Below.step (Below.step (Below.step (Below.step (Below.step HB1.out (Below.new (Below.refl _ _) _)) HB5.out) HB8.out) HB9.out) (Below.new (Below.refl _ _) _))
                  clear hK K
                  try simp only [Act.put, List.setIfInBounds_toArray, List.set_cons_zero, List.set_cons_succ]
                  refine wpAnyH_ready (rs := [10]) (by kernel_rfl) (by simp) ?_
                  refine AllReadyH.cons (o := _) (by simp only [List.getElem?_toArray, List.getElem?_cons_succ, List.getElem?_cons_zero] <;> rfl) (fun K hK => ?_) ?_
                  · go_simp
                    with_reducible refine (AB.out _ (Below.step (Below.step (Below.step (Below.step (Below.step HB1.out (Below.new (Below.refl _ _) _)) HB5.out) HB8.out) HB9.out) (Below.new (Below.refl _ _) _))).mono ?_
                    rintro e10 w10 ⟨v10, rfl, hb10, ho10⟩
                    obtain ⟨a10, k10, rfl⟩ := row_form ho10
                    have HB10 := Lib.hid hb10
                    have HO10 := Lib.hid ho10
                    clear hb10 ho10
                    go_wp2_with fail
                    refine hK.out _ _ ?_ (fun hHeld => ?_)
                    · (try dsimp only)
                      exact KS.out _ (Below.step (Below.step (Below.step (Below.step (Below.step (Below.step HB1.out (Below.new (Below.refl _ _) _)) HB5.out) HB8.out) HB9.out) (Below.new (Below.refl _ _) _)) HB10.out)
                    clear hK K
                    try simp only [Act.put, List.setIfInBounds_toArray, List.set_cons_zero, List.set_cons_succ]
                    refine wpAnyH_ready (rs := [13]) (by kernel_rfl) (by simp) ?_
                    refine AllReadyH.cons (o := _) (by simp only [List.getElem?_toArray, List.getElem?_cons_succ, List.getElem?_cons_zero] <;> rfl) (fun K hK => ?_) ?_
                    · go_simp
                      refine (same_any ((Holds.of_own HO10.out).below (Below.refl _ _)) ((Holds.of_own (l := [yA]) (World.ownsRow_lit _ #[.string ⟨#[97, 98, 0, 0]⟩, .string ⟨#[]⟩] 1 (Nat.le_refl _) (by unfold maxLen; omega) rfl)).below HB10.out) (by decide) (by decide)).mono ?_
                      rw [show sameP [yA] [yA] = true from by simp [sameP]]
                      rintro e13 w13 ⟨rfl, hb13⟩
                      have HB13 := Lib.hid hb13
                      clear hb13
                      go_wp2_with fail
                      refine hK.out _ _ ?_ (fun hHeld => ?_)
                      · (try dsimp only)
                        exact KS.out _ (Below.step (Below.step (Below.step (Below.step (Below.step (Below.step (Below.step HB1.out (Below.new (Below.refl _ _) _)) HB5.out) HB8.out) HB9.out) (Below.new (Below.refl _ _) _)) HB10.out) HB13.out)
                      clear hK K
                      try simp only [Act.put, List.setIfInBounds_toArray, List.set_cons_zero, List.set_cons_succ]
                      refine wpAnyH_take (i := 14) (oi := ?_) (v := ?_) ?_ (by kernel_rfl) (by kernel_rfl) (by kernel_rfl) ?_ (Or.inl ⟨?_, ?_⟩) (by assumption) ?_
                      rotate_left 2
                      · simp only [List.getElem?_toArray, List.getElem?_cons_succ, List.getElem?_cons_zero] <;> rfl
                      · exact fun _ _ _ h => h
                      · rfl
                      · (intro w hSw; (try dsimp only at hSw); go_simp; try (with_reducible rfl))
                      try simp only [Act.put, List.setIfInBounds_toArray, List.set_cons_zero, List.set_cons_succ]
                      refine wpAnyH_take (i := 15) (oi := ?_) (v := ?_) ?_ (by kernel_rfl) (by kernel_rfl) (by kernel_rfl) ?_ (Or.inl ⟨?_, ?_⟩) (by assumption) ?_
                      rotate_left 2
                      · simp only [List.getElem?_toArray, List.getElem?_cons_succ, List.getElem?_cons_zero] <;> rfl
                      · exact fun _ _ _ h => h
                      · rfl
                      · (intro w hSw; (try dsimp only at hSw); go_simp; try (with_reducible rfl))
                      try simp only [Act.put, List.setIfInBounds_toArray, List.set_cons_zero, List.set_cons_succ]
                      refine wpAnyH_take (i := 16) (oi := ?_) (v := ?_) ?_ (by kernel_rfl) (by kernel_rfl) (by kernel_rfl) ?_ (Or.inl ⟨?_, ?_⟩) (by assumption) ?_
                      rotate_left 2
                      · simp only [List.getElem?_toArray, List.getElem?_cons_succ, List.getElem?_cons_zero] <;> rfl
                      · exact fun _ _ _ h => h
                      · rfl
                      · (intro w hSw; (try dsimp only at hSw); go_simp; try (with_reducible rfl))
                      try simp only [Act.put, List.setIfInBounds_toArray, List.set_cons_zero, List.set_cons_succ]
                      refine wpAnyH_take (i := 18) (oi := ?_) (v := ?_) ?_ (by kernel_rfl) (by kernel_rfl) (by kernel_rfl) ?_ (Or.inl ⟨?_, ?_⟩) (by assumption) ?_
                      rotate_left 2
                      · simp only [List.getElem?_toArray, List.getElem?_cons_succ, List.getElem?_cons_zero] <;> rfl
                      · exact fun _ _ _ h => h
                      · rfl
                      · (intro w hSw; (try dsimp only at hSw); go_simp; try (with_reducible rfl))
                      try simp only [Act.put, List.setIfInBounds_toArray, List.set_cons_zero, List.set_cons_succ]
                      refine wpAnyH_take (i := 19) (oi := ?_) (v := ?_) ?_ (by kernel_rfl) (by kernel_rfl) (by kernel_rfl) ?_ (Or.inl ⟨?_, ?_⟩) (by assumption) ?_
                      rotate_left 2
                      · simp only [List.getElem?_toArray, List.getElem?_cons_succ, List.getElem?_cons_zero] <;> rfl
                      · exact fun _ _ _ h => h
                      · rfl
                      · (intro w hSw; (try dsimp only at hSw); go_simp; try (with_reducible rfl))
                      try simp only [Act.put, List.setIfInBounds_toArray, List.set_cons_zero, List.set_cons_succ]
                      refine wpAnyH_ready (rs := [17, 20]) (by kernel_rfl) (by simp) ?_
                      refine AllReadyH.cons (o := _) (by simp only [List.getElem?_toArray, List.getElem?_cons_succ, List.getElem?_cons_zero] <;> rfl) (fun K hK => ?_) ?_
                      · go_simp
                        with_reducible refine (AG.out _ (Below.step (Below.step (Below.step (Below.step (Below.step (Below.step (Below.step HB1.out (Below.new (Below.refl _ _) _)) HB5.out) HB8.out) HB9.out) (Below.new (Below.refl _ _) _)) HB10.out) HB13.out)).mono ?_
                        rintro e17 w17 ⟨v17, rfl, hb17, ho17⟩
                        obtain ⟨a17, k17, rfl⟩ := row_form ho17
                        have HB17 := Lib.hid hb17
                        have HO17 := Lib.hid ho17
                        clear hb17 ho17
                        go_wp2_with fail
                        refine hK.out _ _ ?_ (fun hHeld => ?_)
                        · (try dsimp only)
                          exact KS.out _ (Below.step (Below.step (Below.step (Below.step (Below.step (Below.step (Below.step (Below.step HB1.out (Below.new (Below.refl _ _) _)) HB5.out) HB8.out) HB9.out) (Below.new (Below.refl _ _) _)) HB10.out) HB13.out) HB17.out)
                        clear hK K
                        try simp only [Act.put, List.setIfInBounds_toArray, List.set_cons_zero, List.set_cons_succ]
                        refine wpAnyH_ready (rs := [20]) (by kernel_rfl) (by simp) ?_
                        refine AllReadyH.cons (o := _) (by simp only [List.getElem?_toArray, List.getElem?_cons_succ, List.getElem?_cons_zero] <;> rfl) (fun K hK => ?_) ?_
                        · go_simp
                          refine hK.out _ _ ?_ (fun hHeld => ?_)
                          · (try dsimp only)
                            exact KS.out _ (Below.step (Below.step (Below.step (Below.step (Below.step (Below.step (Below.step (Below.step (Below.step HB1.out (Below.new (Below.refl _ _) _)) HB5.out) HB8.out) HB9.out) (Below.new (Below.refl _ _) _)) HB10.out) HB13.out) HB17.out) (Below.new (Below.refl _ _) _))
                          clear hK K
                          try simp only [Act.put, List.setIfInBounds_toArray, List.set_cons_zero, List.set_cons_succ]
                          refine wpAnyH_ready (rs := [21]) (by kernel_rfl) (by simp) ?_
                          refine AllReadyH.cons (o := _) (by simp only [List.getElem?_toArray, List.getElem?_cons_succ, List.getElem?_cons_zero] <;> rfl) (fun K hK => ?_) ?_
                          · go_simp
                            refine (same_any ((Holds.of_own HO17.out).below (Below.new (Below.refl _ _) _)) ((Holds.of_own (l := [xA, yA]) (World.ownsRow_lit _ #[.string ⟨#[97, 0, 0]⟩, .string ⟨#[]⟩, .string ⟨#[97, 98, 0, 0]⟩, .string ⟨#[]⟩] 2 (Nat.le_refl _) (by unfold maxLen; omega) rfl)).below (Below.refl _ _)) (by decide) (by decide)).mono ?_
                            rw [show sameP [xA, yA] [xA, yA] = true from by simp [sameP]]
                            rintro e21 w21 ⟨rfl, hb21⟩
                            have HB21 := Lib.hid hb21
                            clear hb21
                            go_wp2_with fail
                            refine hK.out _ _ ?_ (fun hHeld => ?_)
                            · (try dsimp only)
                              exact KS.out _ (Below.step (Below.step (Below.step (Below.step (Below.step (Below.step (Below.step (Below.step (Below.step (Below.step HB1.out (Below.new (Below.refl _ _) _)) HB5.out) HB8.out) HB9.out) (Below.new (Below.refl _ _) _)) HB10.out) HB13.out) HB17.out) (Below.new (Below.refl _ _) _)) HB21.out)
                            clear hK K
                            try simp only [Act.put, List.setIfInBounds_toArray, List.set_cons_zero, List.set_cons_succ]
                            refine wpAnyH_take (i := 22) (oi := ?_) (v := ?_) ?_ (by kernel_rfl) (by kernel_rfl) (by kernel_rfl) ?_ (Or.inl ⟨?_, ?_⟩) (by assumption) ?_
                            rotate_left 2
                            · simp only [List.getElem?_toArray, List.getElem?_cons_succ, List.getElem?_cons_zero] <;> rfl
                            · exact fun _ _ _ h => h
                            · rfl
                            · (intro w hSw; (try dsimp only at hSw); go_simp; try (with_reducible rfl))
                            try simp only [Act.put, List.setIfInBounds_toArray, List.set_cons_zero, List.set_cons_succ]
                            refine wpAnyH_take (i := 23) (oi := ?_) (v := ?_) ?_ (by kernel_rfl) (by kernel_rfl) (by kernel_rfl) ?_ (Or.inl ⟨?_, ?_⟩) (by assumption) ?_
                            rotate_left 2
                            · simp only [List.getElem?_toArray, List.getElem?_cons_succ, List.getElem?_cons_zero] <;> rfl
                            · exact fun _ _ _ h => h
                            · rfl
                            · (intro w hSw; (try dsimp only at hSw); go_simp; try (with_reducible rfl))
                            try simp only [Act.put, List.setIfInBounds_toArray, List.set_cons_zero, List.set_cons_succ]
                            refine wpAnyH_done (by kernel_rfl) ?_ _
                            go_wp2_with fail
                            go_ret
                            exact ⟨rfl, Below.step HLOW.out (Below.step (Below.step (Below.step (Below.step (Below.step (Below.step (Below.step (Below.step (Below.step (Below.step HB1.out (Below.new (Below.refl _ _) _)) HB5.out) HB8.out) HB9.out) (Below.new (Below.refl _ _) _)) HB10.out) HB13.out) HB17.out) (Below.new (Below.refl _ _) _)) HB21.out)⟩
                          exact AllReadyH.nil
                        exact AllReadyH.nil
                      refine AllReadyH.cons (o := _) (by simp only [List.getElem?_toArray, List.getElem?_cons_succ, List.getElem?_cons_zero] <;> rfl) (fun K hK => ?_) ?_
                      · go_simp
                        refine hK.out _ _ ?_ (fun hHeld => ?_)
                        · (try dsimp only)
                          exact KS.out _ (Below.step (Below.step (Below.step (Below.step (Below.step (Below.step (Below.step (Below.step HB1.out (Below.new (Below.refl _ _) _)) HB5.out) HB8.out) HB9.out) (Below.new (Below.refl _ _) _)) HB10.out) HB13.out) (Below.new (Below.refl _ _) _))
                        clear hK K
                        try simp only [Act.put, List.setIfInBounds_toArray, List.set_cons_zero, List.set_cons_succ]
                        refine wpAnyH_ready (rs := [17]) (by kernel_rfl) (by simp) ?_
                        refine AllReadyH.cons (o := _) (by simp only [List.getElem?_toArray, List.getElem?_cons_succ, List.getElem?_cons_zero] <;> rfl) (fun K hK => ?_) ?_
                        · go_simp
                          with_reducible refine (AG.out _ (Below.step (Below.step (Below.step (Below.step (Below.step (Below.step (Below.step (Below.step HB1.out (Below.new (Below.refl _ _) _)) HB5.out) HB8.out) HB9.out) (Below.new (Below.refl _ _) _)) HB10.out) HB13.out) (Below.new (Below.refl _ _) _))).mono ?_
                          rintro e17 w17 ⟨v17, rfl, hb17, ho17⟩
                          obtain ⟨a17, k17, rfl⟩ := row_form ho17
                          have HB17 := Lib.hid hb17
                          have HO17 := Lib.hid ho17
                          clear hb17 ho17
                          go_wp2_with fail
                          refine hK.out _ _ ?_ (fun hHeld => ?_)
                          · (try dsimp only)
                            exact KS.out _ (Below.step (Below.step (Below.step (Below.step (Below.step (Below.step (Below.step (Below.step (Below.step HB1.out (Below.new (Below.refl _ _) _)) HB5.out) HB8.out) HB9.out) (Below.new (Below.refl _ _) _)) HB10.out) HB13.out) (Below.new (Below.refl _ _) _)) HB17.out)
                          clear hK K
                          try simp only [Act.put, List.setIfInBounds_toArray, List.set_cons_zero, List.set_cons_succ]
                          refine wpAnyH_ready (rs := [21]) (by kernel_rfl) (by simp) ?_
                          refine AllReadyH.cons (o := _) (by simp only [List.getElem?_toArray, List.getElem?_cons_succ, List.getElem?_cons_zero] <;> rfl) (fun K hK => ?_) ?_
                          · go_simp
                            refine (same_any ((Holds.of_own HO17.out).below (Below.refl _ _)) ((Holds.of_own (l := [xA, yA]) (World.ownsRow_lit _ #[.string ⟨#[97, 0, 0]⟩, .string ⟨#[]⟩, .string ⟨#[97, 98, 0, 0]⟩, .string ⟨#[]⟩] 2 (Nat.le_refl _) (by unfold maxLen; omega) rfl)).below HB17.out) (by decide) (by decide)).mono ?_
                            rw [show sameP [xA, yA] [xA, yA] = true from by simp [sameP]]
                            rintro e21 w21 ⟨rfl, hb21⟩
                            have HB21 := Lib.hid hb21
                            clear hb21
                            go_wp2_with fail
                            refine hK.out _ _ ?_ (fun hHeld => ?_)
                            · (try dsimp only)
                              exact KS.out _ (Below.step (Below.step (Below.step (Below.step (Below.step (Below.step (Below.step (Below.step (Below.step (Below.step HB1.out (Below.new (Below.refl _ _) _)) HB5.out) HB8.out) HB9.out) (Below.new (Below.refl _ _) _)) HB10.out) HB13.out) (Below.new (Below.refl _ _) _)) HB17.out) HB21.out)
                            clear hK K
                            try simp only [Act.put, List.setIfInBounds_toArray, List.set_cons_zero, List.set_cons_succ]
                            refine wpAnyH_take (i := 22) (oi := ?_) (v := ?_) ?_ (by kernel_rfl) (by kernel_rfl) (by kernel_rfl) ?_ (Or.inl ⟨?_, ?_⟩) (by assumption) ?_
                            rotate_left 2
                            · simp only [List.getElem?_toArray, List.getElem?_cons_succ, List.getElem?_cons_zero] <;> rfl
                            · exact fun _ _ _ h => h
                            · rfl
                            · (intro w hSw; (try dsimp only at hSw); go_simp; try (with_reducible rfl))
                            try simp only [Act.put, List.setIfInBounds_toArray, List.set_cons_zero, List.set_cons_succ]
                            refine wpAnyH_take (i := 23) (oi := ?_) (v := ?_) ?_ (by kernel_rfl) (by kernel_rfl) (by kernel_rfl) ?_ (Or.inl ⟨?_, ?_⟩) (by assumption) ?_
                            rotate_left 2
                            · simp only [List.getElem?_toArray, List.getElem?_cons_succ, List.getElem?_cons_zero] <;> rfl
                            · exact fun _ _ _ h => h
                            · rfl
                            · (intro w hSw; (try dsimp only at hSw); go_simp; try (with_reducible rfl))
                            try simp only [Act.put, List.setIfInBounds_toArray, List.set_cons_zero, List.set_cons_succ]
                            refine wpAnyH_done (by kernel_rfl) ?_ _
                            go_wp2_with fail
                            go_ret
                            exact ⟨rfl, Below.step HLOW.out (Below.step (Below.step (Below.step (Below.step (Below.step (Below.step (Below.step (Below.step (Below.step (Below.step HB1.out (Below.new (Below.refl _ _) _)) HB5.out) HB8.out) HB9.out) (Below.new (Below.refl _ _) _)) HB10.out) HB13.out) (Below.new (Below.refl _ _) _)) HB17.out) HB21.out)⟩
                          exact AllReadyH.nil
                        exact AllReadyH.nil
                      exact AllReadyH.nil
                    exact AllReadyH.nil
                  exact AllReadyH.nil
                exact AllReadyH.nil
              refine AllReadyH.cons (o := _) (by simp only [List.getElem?_toArray, List.getElem?_cons_succ, List.getElem?_cons_zero] <;> rfl) (fun K hK => ?_) ?_
              · go_simp
                refine hK.out _ _ ?_ (fun hHeld => ?_)
                · (try dsimp only)
                  exact KS.out _ (Below.step (Below.step (Below.step (Below.step HB1.out (Below.new (Below.refl _ _) _)) HB5.out) HB8.out) (Below.new (Below.refl _ _) _))
                clear hK K
                try simp only [Act.put, List.setIfInBounds_toArray, List.set_cons_zero, List.set_cons_succ]
                refine wpAnyH_ready (rs := [9]) (by kernel_rfl) (by simp) ?_
                refine AllReadyH.cons (o := _) (by simp only [List.getElem?_toArray, List.getElem?_cons_succ, List.getElem?_cons_zero] <;> rfl) (fun K hK => ?_) ?_
                · go_simp
                  with_reducible refine (HC.out ⟨#[98]⟩ (by decide) _).mono ?_
                  rw [aw_b]
                  rintro e9 w9 ⟨rfl, hb9⟩
                  have HB9 := Lib.hid hb9
                  clear hb9
                  go_wp2_with fail
                  refine hK.out _ _ ?_ (fun hHeld => ?_)
                  · (try dsimp only)
                    exact KS.out _ (Below.step (Below.step (Below.step (Below.step (Below.step HB1.out (Below.new (Below.refl _ _) _)) HB5.out) HB8.out) (Below.new (Below.refl _ _) _)) HB9.out)
                  clear hK K
                  try simp only [Act.put, List.setIfInBounds_toArray, List.set_cons_zero, List.set_cons_succ]
                  refine wpAnyH_ready (rs := [10]) (by kernel_rfl) (by simp) ?_
                  refine AllReadyH.cons (o := _) (by simp only [List.getElem?_toArray, List.getElem?_cons_succ, List.getElem?_cons_zero] <;> rfl) (fun K hK => ?_) ?_
                  · go_simp
                    with_reducible refine (AB.out _ (Below.step (Below.step (Below.step (Below.step (Below.step HB1.out (Below.new (Below.refl _ _) _)) HB5.out) HB8.out) (Below.new (Below.refl _ _) _)) HB9.out)).mono ?_
                    rintro e10 w10 ⟨v10, rfl, hb10, ho10⟩
                    obtain ⟨a10, k10, rfl⟩ := row_form ho10
                    have HB10 := Lib.hid hb10
                    have HO10 := Lib.hid ho10
                    clear hb10 ho10
                    go_wp2_with fail
                    refine hK.out _ _ ?_ (fun hHeld => ?_)
                    · (try dsimp only)
                      exact KS.out _ (Below.step (Below.step (Below.step (Below.step (Below.step (Below.step HB1.out (Below.new (Below.refl _ _) _)) HB5.out) HB8.out) (Below.new (Below.refl _ _) _)) HB9.out) HB10.out)
                    clear hK K
                    try simp only [Act.put, List.setIfInBounds_toArray, List.set_cons_zero, List.set_cons_succ]
                    refine wpAnyH_ready (rs := [13]) (by kernel_rfl) (by simp) ?_
                    refine AllReadyH.cons (o := _) (by simp only [List.getElem?_toArray, List.getElem?_cons_succ, List.getElem?_cons_zero] <;> rfl) (fun K hK => ?_) ?_
                    · go_simp
                      refine (same_any ((Holds.of_own HO10.out).below (Below.refl _ _)) ((Holds.of_own (l := [yA]) (World.ownsRow_lit _ #[.string ⟨#[97, 98, 0, 0]⟩, .string ⟨#[]⟩] 1 (Nat.le_refl _) (by unfold maxLen; omega) rfl)).below (Below.step HB9.out HB10.out)) (by decide) (by decide)).mono ?_
                      rw [show sameP [yA] [yA] = true from by simp [sameP]]
                      rintro e13 w13 ⟨rfl, hb13⟩
                      have HB13 := Lib.hid hb13
                      clear hb13
                      go_wp2_with fail
                      refine hK.out _ _ ?_ (fun hHeld => ?_)
                      · (try dsimp only)
                        exact KS.out _ (Below.step (Below.step (Below.step (Below.step (Below.step (Below.step (Below.step HB1.out (Below.new (Below.refl _ _) _)) HB5.out) HB8.out) (Below.new (Below.refl _ _) _)) HB9.out) HB10.out) HB13.out)
                      clear hK K
                      try simp only [Act.put, List.setIfInBounds_toArray, List.set_cons_zero, List.set_cons_succ]
                      refine wpAnyH_take (i := 14) (oi := ?_) (v := ?_) ?_ (by kernel_rfl) (by kernel_rfl) (by kernel_rfl) ?_ (Or.inl ⟨?_, ?_⟩) (by assumption) ?_
                      rotate_left 2
                      · simp only [List.getElem?_toArray, List.getElem?_cons_succ, List.getElem?_cons_zero] <;> rfl
                      · exact fun _ _ _ h => h
                      · rfl
                      · (intro w hSw; (try dsimp only at hSw); go_simp; try (with_reducible rfl))
                      try simp only [Act.put, List.setIfInBounds_toArray, List.set_cons_zero, List.set_cons_succ]
                      refine wpAnyH_take (i := 15) (oi := ?_) (v := ?_) ?_ (by kernel_rfl) (by kernel_rfl) (by kernel_rfl) ?_ (Or.inl ⟨?_, ?_⟩) (by assumption) ?_
                      rotate_left 2
                      · simp only [List.getElem?_toArray, List.getElem?_cons_succ, List.getElem?_cons_zero] <;> rfl
                      · exact fun _ _ _ h => h
                      · rfl
                      · (intro w hSw; (try dsimp only at hSw); go_simp; try (with_reducible rfl))
                      try simp only [Act.put, List.setIfInBounds_toArray, List.set_cons_zero, List.set_cons_succ]
                      refine wpAnyH_take (i := 16) (oi := ?_) (v := ?_) ?_ (by kernel_rfl) (by kernel_rfl) (by kernel_rfl) ?_ (Or.inl ⟨?_, ?_⟩) (by assumption) ?_
                      rotate_left 2
                      · simp only [List.getElem?_toArray, List.getElem?_cons_succ, List.getElem?_cons_zero] <;> rfl
                      · exact fun _ _ _ h => h
                      · rfl
                      · (intro w hSw; (try dsimp only at hSw); go_simp; try (with_reducible rfl))
                      try simp only [Act.put, List.setIfInBounds_toArray, List.set_cons_zero, List.set_cons_succ]
                      refine wpAnyH_take (i := 18) (oi := ?_) (v := ?_) ?_ (by kernel_rfl) (by kernel_rfl) (by kernel_rfl) ?_ (Or.inl ⟨?_, ?_⟩) (by assumption) ?_
                      rotate_left 2
                      · simp only [List.getElem?_toArray, List.getElem?_cons_succ, List.getElem?_cons_zero] <;> rfl
                      · exact fun _ _ _ h => h
                      · rfl
                      · (intro w hSw; (try dsimp only at hSw); go_simp; try (with_reducible rfl))
                      try simp only [Act.put, List.setIfInBounds_toArray, List.set_cons_zero, List.set_cons_succ]
                      refine wpAnyH_take (i := 19) (oi := ?_) (v := ?_) ?_ (by kernel_rfl) (by kernel_rfl) (by kernel_rfl) ?_ (Or.inl ⟨?_, ?_⟩) (by assumption) ?_
                      rotate_left 2
                      · simp only [List.getElem?_toArray, List.getElem?_cons_succ, List.getElem?_cons_zero] <;> rfl
                      · exact fun _ _ _ h => h
                      · rfl
                      · (intro w hSw; (try dsimp only at hSw); go_simp; try (with_reducible rfl))
                      try simp only [Act.put, List.setIfInBounds_toArray, List.set_cons_zero, List.set_cons_succ]
                      refine wpAnyH_ready (rs := [17, 20]) (by kernel_rfl) (by simp) ?_
                      refine AllReadyH.cons (o := _) (by simp only [List.getElem?_toArray, List.getElem?_cons_succ, List.getElem?_cons_zero] <;> rfl) (fun K hK => ?_) ?_
                      · go_simp
                        with_reducible refine (AG.out _ (Below.step (Below.step (Below.step (Below.step (Below.step (Below.step (Below.step HB1.out (Below.new (Below.refl _ _) _)) HB5.out) HB8.out) (Below.new (Below.refl _ _) _)) HB9.out) HB10.out) HB13.out)).mono ?_
                        rintro e17 w17 ⟨v17, rfl, hb17, ho17⟩
                        obtain ⟨a17, k17, rfl⟩ := row_form ho17
                        have HB17 := Lib.hid hb17
                        have HO17 := Lib.hid ho17
                        clear hb17 ho17
                        go_wp2_with fail
                        refine hK.out _ _ ?_ (fun hHeld => ?_)
                        · (try dsimp only)
                          exact KS.out _ (Below.step (Below.step (Below.step (Below.step (Below.step (Below.step (Below.step (Below.step HB1.out (Below.new (Below.refl _ _) _)) HB5.out) HB8.out) (Below.new (Below.refl _ _) _)) HB9.out) HB10.out) HB13.out) HB17.out)
                        clear hK K
                        try simp only [Act.put, List.setIfInBounds_toArray, List.set_cons_zero, List.set_cons_succ]
                        refine wpAnyH_ready (rs := [20]) (by kernel_rfl) (by simp) ?_
                        refine AllReadyH.cons (o := _) (by simp only [List.getElem?_toArray, List.getElem?_cons_succ, List.getElem?_cons_zero] <;> rfl) (fun K hK => ?_) ?_
                        · go_simp
                          refine hK.out _ _ ?_ (fun hHeld => ?_)
                          · (try dsimp only)
                            exact KS.out _ (Below.step (Below.step (Below.step (Below.step (Below.step (Below.step (Below.step (Below.step (Below.step HB1.out (Below.new (Below.refl _ _) _)) HB5.out) HB8.out) (Below.new (Below.refl _ _) _)) HB9.out) HB10.out) HB13.out) HB17.out) (Below.new (Below.refl _ _) _))
                          clear hK K
                          try simp only [Act.put, List.setIfInBounds_toArray, List.set_cons_zero, List.set_cons_succ]
                          refine wpAnyH_ready (rs := [21]) (by kernel_rfl) (by simp) ?_
                          refine AllReadyH.cons (o := _) (by simp only [List.getElem?_toArray, List.getElem?_cons_succ, List.getElem?_cons_zero] <;> rfl) (fun K hK => ?_) ?_
                          · go_simp
                            refine (same_any ((Holds.of_own HO17.out).below (Below.new (Below.refl _ _) _)) ((Holds.of_own (l := [xA, yA]) (World.ownsRow_lit _ #[.string ⟨#[97, 0, 0]⟩, .string ⟨#[]⟩, .string ⟨#[97, 98, 0, 0]⟩, .string ⟨#[]⟩] 2 (Nat.le_refl _) (by unfold maxLen; omega) rfl)).below (Below.refl _ _)) (by decide) (by decide)).mono ?_
                            rw [show sameP [xA, yA] [xA, yA] = true from by simp [sameP]]
                            rintro e21 w21 ⟨rfl, hb21⟩
                            have HB21 := Lib.hid hb21
                            clear hb21
                            go_wp2_with fail
                            refine hK.out _ _ ?_ (fun hHeld => ?_)
                            · (try dsimp only)
                              exact KS.out _ (Below.step (Below.step (Below.step (Below.step (Below.step (Below.step (Below.step (Below.step (Below.step (Below.step HB1.out (Below.new (Below.refl _ _) _)) HB5.out) HB8.out) (Below.new (Below.refl _ _) _)) HB9.out) HB10.out) HB13.out) HB17.out) (Below.new (Below.refl _ _) _)) HB21.out)
                            clear hK K
                            try simp only [Act.put, List.setIfInBounds_toArray, List.set_cons_zero, List.set_cons_succ]
                            refine wpAnyH_take (i := 22) (oi := ?_) (v := ?_) ?_ (by kernel_rfl) (by kernel_rfl) (by kernel_rfl) ?_ (Or.inl ⟨?_, ?_⟩) (by assumption) ?_
                            rotate_left 2
                            · simp only [List.getElem?_toArray, List.getElem?_cons_succ, List.getElem?_cons_zero] <;> rfl
                            · exact fun _ _ _ h => h
                            · rfl
                            · (intro w hSw; (try dsimp only at hSw); go_simp; try (with_reducible rfl))
                            try simp only [Act.put, List.setIfInBounds_toArray, List.set_cons_zero, List.set_cons_succ]
                            refine wpAnyH_take (i := 23) (oi := ?_) (v := ?_) ?_ (by kernel_rfl) (by kernel_rfl) (by kernel_rfl) ?_ (Or.inl ⟨?_, ?_⟩) (by assumption) ?_
                            rotate_left 2
                            · simp only [List.getElem?_toArray, List.getElem?_cons_succ, List.getElem?_cons_zero] <;> rfl
                            · exact fun _ _ _ h => h
                            · rfl
                            · (intro w hSw; (try dsimp only at hSw); go_simp; try (with_reducible rfl))
                            try simp only [Act.put, List.setIfInBounds_toArray, List.set_cons_zero, List.set_cons_succ]
                            refine wpAnyH_done (by kernel_rfl) ?_ _
                            go_wp2_with fail
                            go_ret
                            exact ⟨rfl, Below.step HLOW.out (Below.step (Below.step (Below.step (Below.step (Below.step (Below.step (Below.step (Below.step (Below.step (Below.step HB1.out (Below.new (Below.refl _ _) _)) HB5.out) HB8.out) (Below.new (Below.refl _ _) _)) HB9.out) HB10.out) HB13.out) HB17.out) (Below.new (Below.refl _ _) _)) HB21.out)⟩
                          exact AllReadyH.nil
                        exact AllReadyH.nil
                      refine AllReadyH.cons (o := _) (by simp only [List.getElem?_toArray, List.getElem?_cons_succ, List.getElem?_cons_zero] <;> rfl) (fun K hK => ?_) ?_
                      · go_simp
                        refine hK.out _ _ ?_ (fun hHeld => ?_)
                        · (try dsimp only)
                          exact KS.out _ (Below.step (Below.step (Below.step (Below.step (Below.step (Below.step (Below.step (Below.step HB1.out (Below.new (Below.refl _ _) _)) HB5.out) HB8.out) (Below.new (Below.refl _ _) _)) HB9.out) HB10.out) HB13.out) (Below.new (Below.refl _ _) _))
                        clear hK K
                        try simp only [Act.put, List.setIfInBounds_toArray, List.set_cons_zero, List.set_cons_succ]
                        refine wpAnyH_ready (rs := [17]) (by kernel_rfl) (by simp) ?_
                        refine AllReadyH.cons (o := _) (by simp only [List.getElem?_toArray, List.getElem?_cons_succ, List.getElem?_cons_zero] <;> rfl) (fun K hK => ?_) ?_
                        · go_simp
                          with_reducible refine (AG.out _ (Below.step (Below.step (Below.step (Below.step (Below.step (Below.step (Below.step (Below.step HB1.out (Below.new (Below.refl _ _) _)) HB5.out) HB8.out) (Below.new (Below.refl _ _) _)) HB9.out) HB10.out) HB13.out) (Below.new (Below.refl _ _) _))).mono ?_
                          rintro e17 w17 ⟨v17, rfl, hb17, ho17⟩
                          obtain ⟨a17, k17, rfl⟩ := row_form ho17
                          have HB17 := Lib.hid hb17
                          have HO17 := Lib.hid ho17
                          clear hb17 ho17
                          go_wp2_with fail
                          refine hK.out _ _ ?_ (fun hHeld => ?_)
                          · (try dsimp only)
                            exact KS.out _ (Below.step (Below.step (Below.step (Below.step (Below.step (Below.step (Below.step (Below.step (Below.step HB1.out (Below.new (Below.refl _ _) _)) HB5.out) HB8.out) (Below.new (Below.refl _ _) _)) HB9.out) HB10.out) HB13.out) (Below.new (Below.refl _ _) _)) HB17.out)
                          clear hK K
                          try simp only [Act.put, List.setIfInBounds_toArray, List.set_cons_zero, List.set_cons_succ]
                          refine wpAnyH_ready (rs := [21]) (by kernel_rfl) (by simp) ?_
                          refine AllReadyH.cons (o := _) (by simp only [List.getElem?_toArray, List.getElem?_cons_succ, List.getElem?_cons_zero] <;> rfl) (fun K hK => ?_) ?_
                          · go_simp
                            refine (same_any ((Holds.of_own HO17.out).below (Below.refl _ _)) ((Holds.of_own (l := [xA, yA]) (World.ownsRow_lit _ #[.string ⟨#[97, 0, 0]⟩, .string ⟨#[]⟩, .string ⟨#[97, 98, 0, 0]⟩, .string ⟨#[]⟩] 2 (Nat.le_refl _) (by unfold maxLen; omega) rfl)).below HB17.out) (by decide) (by decide)).mono ?_
                            rw [show sameP [xA, yA] [xA, yA] = true from by simp [sameP]]
                            rintro e21 w21 ⟨rfl, hb21⟩
                            have HB21 := Lib.hid hb21
                            clear hb21
                            go_wp2_with fail
                            refine hK.out _ _ ?_ (fun hHeld => ?_)
                            · (try dsimp only)
                              exact KS.out _ (Below.step (Below.step (Below.step (Below.step (Below.step (Below.step (Below.step (Below.step (Below.step (Below.step HB1.out (Below.new (Below.refl _ _) _)) HB5.out) HB8.out) (Below.new (Below.refl _ _) _)) HB9.out) HB10.out) HB13.out) (Below.new (Below.refl _ _) _)) HB17.out) HB21.out)
                            clear hK K
                            try simp only [Act.put, List.setIfInBounds_toArray, List.set_cons_zero, List.set_cons_succ]
                            refine wpAnyH_take (i := 22) (oi := ?_) (v := ?_) ?_ (by kernel_rfl) (by kernel_rfl) (by kernel_rfl) ?_ (Or.inl ⟨?_, ?_⟩) (by assumption) ?_
                            rotate_left 2
                            · simp only [List.getElem?_toArray, List.getElem?_cons_succ, List.getElem?_cons_zero] <;> rfl
                            · exact fun _ _ _ h => h
                            · rfl
                            · (intro w hSw; (try dsimp only at hSw); go_simp; try (with_reducible rfl))
                            try simp only [Act.put, List.setIfInBounds_toArray, List.set_cons_zero, List.set_cons_succ]
                            refine wpAnyH_take (i := 23) (oi := ?_) (v := ?_) ?_ (by kernel_rfl) (by kernel_rfl) (by kernel_rfl) ?_ (Or.inl ⟨?_, ?_⟩) (by assumption) ?_
                            rotate_left 2
                            · simp only [List.getElem?_toArray, List.getElem?_cons_succ, List.getElem?_cons_zero] <;> rfl
                            · exact fun _ _ _ h => h
                            · rfl
                            · (intro w hSw; (try dsimp only at hSw); go_simp; try (with_reducible rfl))
                            try simp only [Act.put, List.setIfInBounds_toArray, List.set_cons_zero, List.set_cons_succ]
                            refine wpAnyH_done (by kernel_rfl) ?_ _
                            go_wp2_with fail
                            go_ret
                            exact ⟨rfl, Below.step HLOW.out (Below.step (Below.step (Below.step (Below.step (Below.step (Below.step (Below.step (Below.step (Below.step (Below.step HB1.out (Below.new (Below.refl _ _) _)) HB5.out) HB8.out) (Below.new (Below.refl _ _) _)) HB9.out) HB10.out) HB13.out) (Below.new (Below.refl _ _) _)) HB17.out) HB21.out)⟩
                          exact AllReadyH.nil
                        exact AllReadyH.nil
                      exact AllReadyH.nil
                    exact AllReadyH.nil
                  exact AllReadyH.nil
                exact AllReadyH.nil
              exact AllReadyH.nil
            refine AllReadyH.cons (o := _) (by simp only [List.getElem?_toArray, List.getElem?_cons_succ, List.getElem?_cons_zero] <;> rfl) (fun K hK => ?_) ?_
            · go_simp
              refine hK.out _ _ ?_ (fun hHeld => ?_)
              · (try dsimp only)
                exact KS.out _ (Below.step (Below.step (Below.step HB1.out (Below.new (Below.refl _ _) _)) HB5.out) (Below.new (Below.refl _ _) _))
              clear hK K
              try simp only [Act.put, List.setIfInBounds_toArray, List.set_cons_zero, List.set_cons_succ]
              refine wpAnyH_ready (rs := [8]) (by kernel_rfl) (by simp) ?_
              refine AllReadyH.cons (o := _) (by simp only [List.getElem?_toArray, List.getElem?_cons_succ, List.getElem?_cons_zero] <;> rfl) (fun K hK => ?_) ?_
              · go_simp
                with_reducible refine (HC.out ⟨#[97, 98]⟩ (by decide) _).mono ?_
                rw [aw_ab]
                rintro e8 w8 ⟨rfl, hb8⟩
                have HB8 := Lib.hid hb8
                clear hb8
                go_wp2_with fail
                refine hK.out _ _ ?_ (fun hHeld => ?_)
                · (try dsimp only)
                  exact KS.out _ (Below.step (Below.step (Below.step (Below.step HB1.out (Below.new (Below.refl _ _) _)) HB5.out) (Below.new (Below.refl _ _) _)) HB8.out)
                clear hK K
                try simp only [Act.put, List.setIfInBounds_toArray, List.set_cons_zero, List.set_cons_succ]
                refine wpAnyH_ready (rs := [9]) (by kernel_rfl) (by simp) ?_
                refine AllReadyH.cons (o := _) (by simp only [List.getElem?_toArray, List.getElem?_cons_succ, List.getElem?_cons_zero] <;> rfl) (fun K hK => ?_) ?_
                · go_simp
                  with_reducible refine (HC.out ⟨#[98]⟩ (by decide) _).mono ?_
                  rw [aw_b]
                  rintro e9 w9 ⟨rfl, hb9⟩
                  have HB9 := Lib.hid hb9
                  clear hb9
                  go_wp2_with fail
                  refine hK.out _ _ ?_ (fun hHeld => ?_)
                  · (try dsimp only)
                    exact KS.out _ (Below.step (Below.step (Below.step (Below.step (Below.step HB1.out (Below.new (Below.refl _ _) _)) HB5.out) (Below.new (Below.refl _ _) _)) HB8.out) HB9.out)
                  clear hK K
                  try simp only [Act.put, List.setIfInBounds_toArray, List.set_cons_zero, List.set_cons_succ]
                  refine wpAnyH_ready (rs := [10]) (by kernel_rfl) (by simp) ?_
                  refine AllReadyH.cons (o := _) (by simp only [List.getElem?_toArray, List.getElem?_cons_succ, List.getElem?_cons_zero] <;> rfl) (fun K hK => ?_) ?_
                  · go_simp
                    with_reducible refine (AB.out _ (Below.step (Below.step (Below.step (Below.step (Below.step HB1.out (Below.new (Below.refl _ _) _)) HB5.out) (Below.new (Below.refl _ _) _)) HB8.out) HB9.out)).mono ?_
                    rintro e10 w10 ⟨v10, rfl, hb10, ho10⟩
                    obtain ⟨a10, k10, rfl⟩ := row_form ho10
                    have HB10 := Lib.hid hb10
                    have HO10 := Lib.hid ho10
                    clear hb10 ho10
                    go_wp2_with fail
                    refine hK.out _ _ ?_ (fun hHeld => ?_)
                    · (try dsimp only)
                      exact KS.out _ (Below.step (Below.step (Below.step (Below.step (Below.step (Below.step HB1.out (Below.new (Below.refl _ _) _)) HB5.out) (Below.new (Below.refl _ _) _)) HB8.out) HB9.out) HB10.out)
                    clear hK K
                    try simp only [Act.put, List.setIfInBounds_toArray, List.set_cons_zero, List.set_cons_succ]
                    refine wpAnyH_ready (rs := [13]) (by kernel_rfl) (by simp) ?_
                    refine AllReadyH.cons (o := _) (by simp only [List.getElem?_toArray, List.getElem?_cons_succ, List.getElem?_cons_zero] <;> rfl) (fun K hK => ?_) ?_
                    · go_simp
                      refine (same_any ((Holds.of_own HO10.out).below (Below.refl _ _)) ((Holds.of_own (l := [yA]) (World.ownsRow_lit _ #[.string ⟨#[97, 98, 0, 0]⟩, .string ⟨#[]⟩] 1 (Nat.le_refl _) (by unfold maxLen; omega) rfl)).below (Below.step (Below.step HB8.out HB9.out) HB10.out)) (by decide) (by decide)).mono ?_
                      rw [show sameP [yA] [yA] = true from by simp [sameP]]
                      rintro e13 w13 ⟨rfl, hb13⟩
                      have HB13 := Lib.hid hb13
                      clear hb13
                      go_wp2_with fail
                      refine hK.out _ _ ?_ (fun hHeld => ?_)
                      · (try dsimp only)
                        exact KS.out _ (Below.step (Below.step (Below.step (Below.step (Below.step (Below.step (Below.step HB1.out (Below.new (Below.refl _ _) _)) HB5.out) (Below.new (Below.refl _ _) _)) HB8.out) HB9.out) HB10.out) HB13.out)
                      clear hK K
                      try simp only [Act.put, List.setIfInBounds_toArray, List.set_cons_zero, List.set_cons_succ]
                      refine wpAnyH_take (i := 14) (oi := ?_) (v := ?_) ?_ (by kernel_rfl) (by kernel_rfl) (by kernel_rfl) ?_ (Or.inl ⟨?_, ?_⟩) (by assumption) ?_
                      rotate_left 2
                      · simp only [List.getElem?_toArray, List.getElem?_cons_succ, List.getElem?_cons_zero] <;> rfl
                      · exact fun _ _ _ h => h
                      · rfl
                      · (intro w hSw; (try dsimp only at hSw); go_simp; try (with_reducible rfl))
                      try simp only [Act.put, List.setIfInBounds_toArray, List.set_cons_zero, List.set_cons_succ]
                      refine wpAnyH_take (i := 15) (oi := ?_) (v := ?_) ?_ (by kernel_rfl) (by kernel_rfl) (by kernel_rfl) ?_ (Or.inl ⟨?_, ?_⟩) (by assumption) ?_
                      rotate_left 2
                      · simp only [List.getElem?_toArray, List.getElem?_cons_succ, List.getElem?_cons_zero] <;> rfl
                      · exact fun _ _ _ h => h
                      · rfl
                      · (intro w hSw; (try dsimp only at hSw); go_simp; try (with_reducible rfl))
                      try simp only [Act.put, List.setIfInBounds_toArray, List.set_cons_zero, List.set_cons_succ]
                      refine wpAnyH_take (i := 16) (oi := ?_) (v := ?_) ?_ (by kernel_rfl) (by kernel_rfl) (by kernel_rfl) ?_ (Or.inl ⟨?_, ?_⟩) (by assumption) ?_
                      rotate_left 2
                      · simp only [List.getElem?_toArray, List.getElem?_cons_succ, List.getElem?_cons_zero] <;> rfl
                      · exact fun _ _ _ h => h
                      · rfl
                      · (intro w hSw; (try dsimp only at hSw); go_simp; try (with_reducible rfl))
                      try simp only [Act.put, List.setIfInBounds_toArray, List.set_cons_zero, List.set_cons_succ]
                      refine wpAnyH_take (i := 18) (oi := ?_) (v := ?_) ?_ (by kernel_rfl) (by kernel_rfl) (by kernel_rfl) ?_ (Or.inl ⟨?_, ?_⟩) (by assumption) ?_
                      rotate_left 2
                      · simp only [List.getElem?_toArray, List.getElem?_cons_succ, List.getElem?_cons_zero] <;> rfl
                      · exact fun _ _ _ h => h
                      · rfl
                      · (intro w hSw; (try dsimp only at hSw); go_simp; try (with_reducible rfl))
                      try simp only [Act.put, List.setIfInBounds_toArray, List.set_cons_zero, List.set_cons_succ]
                      refine wpAnyH_take (i := 19) (oi := ?_) (v := ?_) ?_ (by kernel_rfl) (by kernel_rfl) (by kernel_rfl) ?_ (Or.inl ⟨?_, ?_⟩) (by assumption) ?_
                      rotate_left 2
                      · simp only [List.getElem?_toArray, List.getElem?_cons_succ, List.getElem?_cons_zero] <;> rfl
                      · exact fun _ _ _ h => h
                      · rfl
                      · (intro w hSw; (try dsimp only at hSw); go_simp; try (with_reducible rfl))
                      try simp only [Act.put, List.setIfInBounds_toArray, List.set_cons_zero, List.set_cons_succ]
                      refine wpAnyH_ready (rs := [17, 20]) (by kernel_rfl) (by simp) ?_
                      refine AllReadyH.cons (o := _) (by simp only [List.getElem?_toArray, List.getElem?_cons_succ, List.getElem?_cons_zero] <;> rfl) (fun K hK => ?_) ?_
                      · go_simp
                        with_reducible refine (AG.out _ (Below.step (Below.step (Below.step (Below.step (Below.step (Below.step (Below.step HB1.out (Below.new (Below.refl _ _) _)) HB5.out) (Below.new (Below.refl _ _) _)) HB8.out) HB9.out) HB10.out) HB13.out)).mono ?_
                        rintro e17 w17 ⟨v17, rfl, hb17, ho17⟩
                        obtain ⟨a17, k17, rfl⟩ := row_form ho17
                        have HB17 := Lib.hid hb17
                        have HO17 := Lib.hid ho17
                        clear hb17 ho17
                        go_wp2_with fail
                        refine hK.out _ _ ?_ (fun hHeld => ?_)
                        · (try dsimp only)
                          exact KS.out _ (Below.step (Below.step (Below.step (Below.step (Below.step (Below.step (Below.step (Below.step HB1.out (Below.new (Below.refl _ _) _)) HB5.out) (Below.new (Below.refl _ _) _)) HB8.out) HB9.out) HB10.out) HB13.out) HB17.out)
                        clear hK K
                        try simp only [Act.put, List.setIfInBounds_toArray, List.set_cons_zero, List.set_cons_succ]
                        refine wpAnyH_ready (rs := [20]) (by kernel_rfl) (by simp) ?_
                        refine AllReadyH.cons (o := _) (by simp only [List.getElem?_toArray, List.getElem?_cons_succ, List.getElem?_cons_zero] <;> rfl) (fun K hK => ?_) ?_
                        · go_simp
                          refine hK.out _ _ ?_ (fun hHeld => ?_)
                          · (try dsimp only)
                            exact KS.out _ (Below.step (Below.step (Below.step (Below.step (Below.step (Below.step (Below.step (Below.step (Below.step HB1.out (Below.new (Below.refl _ _) _)) HB5.out) (Below.new (Below.refl _ _) _)) HB8.out) HB9.out) HB10.out) HB13.out) HB17.out) (Below.new (Below.refl _ _) _))
                          clear hK K
                          try simp only [Act.put, List.setIfInBounds_toArray, List.set_cons_zero, List.set_cons_succ]
                          refine wpAnyH_ready (rs := [21]) (by kernel_rfl) (by simp) ?_
                          refine AllReadyH.cons (o := _) (by simp only [List.getElem?_toArray, List.getElem?_cons_succ, List.getElem?_cons_zero] <;> rfl) (fun K hK => ?_) ?_
                          · go_simp
                            refine (same_any ((Holds.of_own HO17.out).below (Below.new (Below.refl _ _) _)) ((Holds.of_own (l := [xA, yA]) (World.ownsRow_lit _ #[.string ⟨#[97, 0, 0]⟩, .string ⟨#[]⟩, .string ⟨#[97, 98, 0, 0]⟩, .string ⟨#[]⟩] 2 (Nat.le_refl _) (by unfold maxLen; omega) rfl)).below (Below.refl _ _)) (by decide) (by decide)).mono ?_
                            rw [show sameP [xA, yA] [xA, yA] = true from by simp [sameP]]
                            rintro e21 w21 ⟨rfl, hb21⟩
                            have HB21 := Lib.hid hb21
                            clear hb21
                            go_wp2_with fail
                            refine hK.out _ _ ?_ (fun hHeld => ?_)
                            · (try dsimp only)
                              exact KS.out _ (Below.step (Below.step (Below.step (Below.step (Below.step (Below.step (Below.step (Below.step (Below.step (Below.step HB1.out (Below.new (Below.refl _ _) _)) HB5.out) (Below.new (Below.refl _ _) _)) HB8.out) HB9.out) HB10.out) HB13.out) HB17.out) (Below.new (Below.refl _ _) _)) HB21.out)
                            clear hK K
                            try simp only [Act.put, List.setIfInBounds_toArray, List.set_cons_zero, List.set_cons_succ]
                            refine wpAnyH_take (i := 22) (oi := ?_) (v := ?_) ?_ (by kernel_rfl) (by kernel_rfl) (by kernel_rfl) ?_ (Or.inl ⟨?_, ?_⟩) (by assumption) ?_
                            rotate_left 2
                            · simp only [List.getElem?_toArray, List.getElem?_cons_succ, List.getElem?_cons_zero] <;> rfl
                            · exact fun _ _ _ h => h
                            · rfl
                            · (intro w hSw; (try dsimp only at hSw); go_simp; try (with_reducible rfl))
                            try simp only [Act.put, List.setIfInBounds_toArray, List.set_cons_zero, List.set_cons_succ]
                            refine wpAnyH_take (i := 23) (oi := ?_) (v := ?_) ?_ (by kernel_rfl) (by kernel_rfl) (by kernel_rfl) ?_ (Or.inl ⟨?_, ?_⟩) (by assumption) ?_
                            rotate_left 2
                            · simp only [List.getElem?_toArray, List.getElem?_cons_succ, List.getElem?_cons_zero] <;> rfl
                            · exact fun _ _ _ h => h
                            · rfl
                            · (intro w hSw; (try dsimp only at hSw); go_simp; try (with_reducible rfl))
                            try simp only [Act.put, List.setIfInBounds_toArray, List.set_cons_zero, List.set_cons_succ]
                            refine wpAnyH_done (by kernel_rfl) ?_ _
                            go_wp2_with fail
                            go_ret
                            exact ⟨rfl, Below.step HLOW.out (Below.step (Below.step (Below.step (Below.step (Below.step (Below.step (Below.step (Below.step (Below.step (Below.step HB1.out (Below.new (Below.refl _ _) _)) HB5.out) (Below.new (Below.refl _ _) _)) HB8.out) HB9.out) HB10.out) HB13.out) HB17.out) (Below.new (Below.refl _ _) _)) HB21.out)⟩
                          exact AllReadyH.nil
                        exact AllReadyH.nil
                      refine AllReadyH.cons (o := _) (by simp only [List.getElem?_toArray, List.getElem?_cons_succ, List.getElem?_cons_zero] <;> rfl) (fun K hK => ?_) ?_
                      · go_simp
                        refine hK.out _ _ ?_ (fun hHeld => ?_)
                        · (try dsimp only)
                          exact KS.out _ (Below.step (Below.step (Below.step (Below.step (Below.step (Below.step (Below.step (Below.step HB1.out (Below.new (Below.refl _ _) _)) HB5.out) (Below.new (Below.refl _ _) _)) HB8.out) HB9.out) HB10.out) HB13.out) (Below.new (Below.refl _ _) _))
                        clear hK K
                        try simp only [Act.put, List.setIfInBounds_toArray, List.set_cons_zero, List.set_cons_succ]
                        refine wpAnyH_ready (rs := [17]) (by kernel_rfl) (by simp) ?_
                        refine AllReadyH.cons (o := _) (by simp only [List.getElem?_toArray, List.getElem?_cons_succ, List.getElem?_cons_zero] <;> rfl) (fun K hK => ?_) ?_
                        · go_simp
                          with_reducible refine (AG.out _ (Below.step (Below.step (Below.step (Below.step (Below.step (Below.step (Below.step (Below.step HB1.out (Below.new (Below.refl _ _) _)) HB5.out) (Below.new (Below.refl _ _) _)) HB8.out) HB9.out) HB10.out) HB13.out) (Below.new (Below.refl _ _) _))).mono ?_
                          rintro e17 w17 ⟨v17, rfl, hb17, ho17⟩
                          obtain ⟨a17, k17, rfl⟩ := row_form ho17
                          have HB17 := Lib.hid hb17
                          have HO17 := Lib.hid ho17
                          clear hb17 ho17
                          go_wp2_with fail
                          refine hK.out _ _ ?_ (fun hHeld => ?_)
                          · (try dsimp only)
                            exact KS.out _ (Below.step (Below.step (Below.step (Below.step (Below.step (Below.step (Below.step (Below.step (Below.step HB1.out (Below.new (Below.refl _ _) _)) HB5.out) (Below.new (Below.refl _ _) _)) HB8.out) HB9.out) HB10.out) HB13.out) (Below.new (Below.refl _ _) _)) HB17.out)
                          clear hK K
                          try simp only [Act.put, List.setIfInBounds_toArray, List.set_cons_zero, List.set_cons_succ]
                          refine wpAnyH_ready (rs := [21]) (by kernel_rfl) (by simp) ?_
                          refine AllReadyH.cons (o := _) (by simp only [List.getElem?_toArray, List.getElem?_cons_succ, List.getElem?_cons_zero] <;> rfl) (fun K hK => ?_) ?_
                          · go_simp
                            refine (same_any ((Holds.of_own HO17.out).below (Below.refl _ _)) ((Holds.of_own (l := [xA, yA]) (World.ownsRow_lit _ #[.string ⟨#[97, 0, 0]⟩, .string ⟨#[]⟩, .string ⟨#[97, 98, 0, 0]⟩, .string ⟨#[]⟩] 2 (Nat.le_refl _) (by unfold maxLen; omega) rfl)).below HB17.out) (by decide) (by decide)).mono ?_
                            rw [show sameP [xA, yA] [xA, yA] = true from by simp [sameP]]
                            rintro e21 w21 ⟨rfl, hb21⟩
                            have HB21 := Lib.hid hb21
                            clear hb21
                            go_wp2_with fail
                            refine hK.out _ _ ?_ (fun hHeld => ?_)
                            · (try dsimp only)
                              exact KS.out _ (Below.step (Below.step (Below.step (Below.step (Below.step (Below.step (Below.step (Below.step (Below.step (Below.step HB1.out (Below.new (Below.refl _ _) _)) HB5.out) (Below.new (Below.refl _ _) _)) HB8.out) HB9.out) HB10.out) HB13.out) (Below.new (Below.refl _ _) _)) HB17.out) HB21.out)
                            clear hK K
                            try simp only [Act.put, List.setIfInBounds_toArray, List.set_cons_zero, List.set_cons_succ]
                            refine wpAnyH_take (i := 22) (oi := ?_) (v := ?_) ?_ (by kernel_rfl) (by kernel_rfl) (by kernel_rfl) ?_ (Or.inl ⟨?_, ?_⟩) (by assumption) ?_
                            rotate_left 2
                            · simp only [List.getElem?_toArray, List.getElem?_cons_succ, List.getElem?_cons_zero] <;> rfl
                            · exact fun _ _ _ h => h
                            · rfl
                            · (intro w hSw; (try dsimp only at hSw); go_simp; try (with_reducible rfl))
                            try simp only [Act.put, List.setIfInBounds_toArray, List.set_cons_zero, List.set_cons_succ]
                            refine wpAnyH_take (i := 23) (oi := ?_) (v := ?_) ?_ (by kernel_rfl) (by kernel_rfl) (by kernel_rfl) ?_ (Or.inl ⟨?_, ?_⟩) (by assumption) ?_
                            rotate_left 2
                            · simp only [List.getElem?_toArray, List.getElem?_cons_succ, List.getElem?_cons_zero] <;> rfl
                            · exact fun _ _ _ h => h
                            · rfl
                            · (intro w hSw; (try dsimp only at hSw); go_simp; try (with_reducible rfl))
                            try simp only [Act.put, List.setIfInBounds_toArray, List.set_cons_zero, List.set_cons_succ]
                            refine wpAnyH_done (by kernel_rfl) ?_ _
                            go_wp2_with fail
                            go_ret
                            exact ⟨rfl, Below.step HLOW.out (Below.step (Below.step (Below.step (Below.step (Below.step (Below.step (Below.step (Below.step (Below.step (Below.step HB1.out (Below.new (Below.refl _ _) _)) HB5.out) (Below.new (Below.refl _ _) _)) HB8.out) HB9.out) HB10.out) HB13.out) (Below.new (Below.refl _ _) _)) HB17.out) HB21.out)⟩
                          exact AllReadyH.nil
                        exact AllReadyH.nil
                      exact AllReadyH.nil
                    exact AllReadyH.nil
                  exact AllReadyH.nil
                exact AllReadyH.nil
              exact AllReadyH.nil
            exact AllReadyH.nil
          exact AllReadyH.nil
        exact AllReadyH.nil
      refine AllReadyH.cons (o := _) (by simp only [List.getElem?_toArray, List.getElem?_cons_succ, List.getElem?_cons_zero] <;> rfl) (fun K hK => ?_) ?_
      · go_simp
        refine hK.out _ _ ?_ (fun hHeld => ?_)
        · (try dsimp only)
          exact KS.out _ (Below.new (Below.refl _ _) _)
        clear hK K
        try simp only [Act.put, List.setIfInBounds_toArray, List.set_cons_zero, List.set_cons_succ]
        refine wpAnyH_ready (rs := [1]) (by kernel_rfl) (by simp) ?_
        refine AllReadyH.cons (o := _) (by simp only [List.getElem?_toArray, List.getElem?_cons_succ, List.getElem?_cons_zero] <;> rfl) (fun K hK => ?_) ?_
        · go_simp
          with_reducible refine (AF.out _ (Below.new (Below.refl _ _) _)).mono ?_
          rintro e1 w1 ⟨v1, rfl, hb1, ho1⟩
          obtain ⟨a1, k1, rfl⟩ := row_form ho1
          have HB1 := Lib.hid hb1
          have HO1 := Lib.hid ho1
          clear hb1 ho1
          go_wp2_with fail
          refine hK.out _ _ ?_ (fun hHeld => ?_)
          · (try dsimp only)
            exact KS.out _ (Below.step (Below.new (Below.refl _ _) _) HB1.out)
          clear hK K
          try simp only [Act.put, List.setIfInBounds_toArray, List.set_cons_zero, List.set_cons_succ]
          refine wpAnyH_ready (rs := [5]) (by kernel_rfl) (by simp) ?_
          refine AllReadyH.cons (o := _) (by simp only [List.getElem?_toArray, List.getElem?_cons_succ, List.getElem?_cons_zero] <;> rfl) (fun K hK => ?_) ?_
          · go_simp
            refine (same_any ((Holds.of_own HO1.out).below (Below.refl _ _)) ((Holds.of_own (l := [xA, yA]) (World.ownsRow_lit _ #[.string ⟨#[97, 0, 0]⟩, .string ⟨#[]⟩, .string ⟨#[97, 98, 0, 0]⟩, .string ⟨#[]⟩] 2 (Nat.le_refl _) (by unfold maxLen; omega) rfl)).below HB1.out) (by decide) (by decide)).mono ?_
            rw [show sameP [xA, yA] [xA, yA] = true from by simp [sameP]]
            rintro e5 w5 ⟨rfl, hb5⟩
            have HB5 := Lib.hid hb5
            clear hb5
            go_wp2_with fail
            refine hK.out _ _ ?_ (fun hHeld => ?_)
            · (try dsimp only)
              exact KS.out _ (Below.step (Below.step (Below.new (Below.refl _ _) _) HB1.out) HB5.out)
            clear hK K
            try simp only [Act.put, List.setIfInBounds_toArray, List.set_cons_zero, List.set_cons_succ]
            refine wpAnyH_take (i := 6) (oi := ?_) (v := ?_) ?_ (by kernel_rfl) (by kernel_rfl) (by kernel_rfl) ?_ (Or.inl ⟨?_, ?_⟩) (by assumption) ?_
            rotate_left 2
            · simp only [List.getElem?_toArray, List.getElem?_cons_succ, List.getElem?_cons_zero] <;> rfl
            · exact fun _ _ _ h => h
            · rfl
            · (intro w hSw; (try dsimp only at hSw); go_simp; try (with_reducible rfl))
            try simp only [Act.put, List.setIfInBounds_toArray, List.set_cons_zero, List.set_cons_succ]
            refine wpAnyH_take (i := 7) (oi := ?_) (v := ?_) ?_ (by kernel_rfl) (by kernel_rfl) (by kernel_rfl) ?_ (Or.inl ⟨?_, ?_⟩) (by assumption) ?_
            rotate_left 2
            · simp only [List.getElem?_toArray, List.getElem?_cons_succ, List.getElem?_cons_zero] <;> rfl
            · exact fun _ _ _ h => h
            · rfl
            · (intro w hSw; (try dsimp only at hSw); go_simp; try (with_reducible rfl))
            try simp only [Act.put, List.setIfInBounds_toArray, List.set_cons_zero, List.set_cons_succ]
            refine wpAnyH_take (i := 11) (oi := ?_) (v := ?_) ?_ (by kernel_rfl) (by kernel_rfl) (by kernel_rfl) ?_ (Or.inl ⟨?_, ?_⟩) (by assumption) ?_
            rotate_left 2
            · simp only [List.getElem?_toArray, List.getElem?_cons_succ, List.getElem?_cons_zero] <;> rfl
            · exact fun _ _ _ h => h
            · rfl
            · (intro w hSw; (try dsimp only at hSw); go_simp; try (with_reducible rfl))
            try simp only [Act.put, List.setIfInBounds_toArray, List.set_cons_zero, List.set_cons_succ]
            refine wpAnyH_ready (rs := [8, 12]) (by kernel_rfl) (by simp) ?_
            refine AllReadyH.cons (o := _) (by simp only [List.getElem?_toArray, List.getElem?_cons_succ, List.getElem?_cons_zero] <;> rfl) (fun K hK => ?_) ?_
            · go_simp
              with_reducible refine (HC.out ⟨#[97, 98]⟩ (by decide) _).mono ?_
              rw [aw_ab]
              rintro e8 w8 ⟨rfl, hb8⟩
              have HB8 := Lib.hid hb8
              clear hb8
              go_wp2_with fail
              refine hK.out _ _ ?_ (fun hHeld => ?_)
              · (try dsimp only)
                exact KS.out _ (Below.step (Below.step (Below.step (Below.new (Below.refl _ _) _) HB1.out) HB5.out) HB8.out)
              clear hK K
              try simp only [Act.put, List.setIfInBounds_toArray, List.set_cons_zero, List.set_cons_succ]
              refine wpAnyH_ready (rs := [9, 12]) (by kernel_rfl) (by simp) ?_
              refine AllReadyH.cons (o := _) (by simp only [List.getElem?_toArray, List.getElem?_cons_succ, List.getElem?_cons_zero] <;> rfl) (fun K hK => ?_) ?_
              · go_simp
                with_reducible refine (HC.out ⟨#[98]⟩ (by decide) _).mono ?_
                rw [aw_b]
                rintro e9 w9 ⟨rfl, hb9⟩
                have HB9 := Lib.hid hb9
                clear hb9
                go_wp2_with fail
                refine hK.out _ _ ?_ (fun hHeld => ?_)
                · (try dsimp only)
                  exact KS.out _ (Below.step (Below.step (Below.step (Below.step (Below.new (Below.refl _ _) _) HB1.out) HB5.out) HB8.out) HB9.out)
                clear hK K
                try simp only [Act.put, List.setIfInBounds_toArray, List.set_cons_zero, List.set_cons_succ]
                refine wpAnyH_ready (rs := [10, 12]) (by kernel_rfl) (by simp) ?_
                refine AllReadyH.cons (o := _) (by simp only [List.getElem?_toArray, List.getElem?_cons_succ, List.getElem?_cons_zero] <;> rfl) (fun K hK => ?_) ?_
                · go_simp
                  with_reducible refine (AB.out _ (Below.step (Below.step (Below.step (Below.step (Below.new (Below.refl _ _) _) HB1.out) HB5.out) HB8.out) HB9.out)).mono ?_
                  rintro e10 w10 ⟨v10, rfl, hb10, ho10⟩
                  obtain ⟨a10, k10, rfl⟩ := row_form ho10
                  have HB10 := Lib.hid hb10
                  have HO10 := Lib.hid ho10
                  clear hb10 ho10
                  go_wp2_with fail
                  refine hK.out _ _ ?_ (fun hHeld => ?_)
                  · (try dsimp only)
                    exact KS.out _ (Below.step (Below.step (Below.step (Below.step (Below.step (Below.new (Below.refl _ _) _) HB1.out) HB5.out) HB8.out) HB9.out) HB10.out)
                  clear hK K
                  try simp only [Act.put, List.setIfInBounds_toArray, List.set_cons_zero, List.set_cons_succ]
                  refine wpAnyH_ready (rs := [12]) (by kernel_rfl) (by simp) ?_
                  refine AllReadyH.cons (o := _) (by simp only [List.getElem?_toArray, List.getElem?_cons_succ, List.getElem?_cons_zero] <;> rfl) (fun K hK => ?_) ?_
                  · go_simp
                    refine hK.out _ _ ?_ (fun hHeld => ?_)
                    · (try dsimp only)
                      exact KS.out _ (Below.step (Below.step (Below.step (Below.step (Below.step (Below.step (Below.new (Below.refl _ _) _) HB1.out) HB5.out) HB8.out) HB9.out) HB10.out) (Below.new (Below.refl _ _) _))
                    clear hK K
                    try simp only [Act.put, List.setIfInBounds_toArray, List.set_cons_zero, List.set_cons_succ]
                    refine wpAnyH_ready (rs := [13]) (by kernel_rfl) (by simp) ?_
                    refine AllReadyH.cons (o := _) (by simp only [List.getElem?_toArray, List.getElem?_cons_succ, List.getElem?_cons_zero] <;> rfl) (fun K hK => ?_) ?_
                    · go_simp
                      refine (same_any ((Holds.of_own HO10.out).below (Below.new (Below.refl _ _) _)) ((Holds.of_own (l := [yA]) (World.ownsRow_lit _ #[.string ⟨#[97, 98, 0, 0]⟩, .string ⟨#[]⟩] 1 (Nat.le_refl _) (by unfold maxLen; omega) rfl)).below (Below.refl _ _)) (by decide) (by decide)).mono ?_
                      rw [show sameP [yA] [yA] = true from by simp [sameP]]
                      rintro e13 w13 ⟨rfl, hb13⟩
                      have HB13 := Lib.hid hb13
                      clear hb13
                      go_wp2_with fail
                      refine hK.out _ _ ?_ (fun hHeld => ?_)
                      · (try dsimp only)
                        exact KS.out _ (Below.step (Below.step (Below.step (Below.step (Below.step (Below.step (Below.step (Below.new (Below.refl _ _) _) HB1.out) HB5.out) HB8.out) HB9.out) HB10.out) (Below.new (Below.refl _ _) _)) HB13.out)
                      clear hK K
                      try simp only [Act.put, List.setIfInBounds_toArray, List.set_cons_zero, List.set_cons_succ]
                      refine wpAnyH_take (i := 14) (oi := ?_) (v := ?_) ?_ (by kernel_rfl) (by kernel_rfl) (by kernel_rfl) ?_ (Or.inl ⟨?_, ?_⟩) (by assumption) ?_
                      rotate_left 2
                      · simp only [List.getElem?_toArray, List.getElem?_cons_succ, List.getElem?_cons_zero] <;> rfl
                      · exact fun _ _ _ h => h
                      · rfl
                      · (intro w hSw; (try dsimp only at hSw); go_simp; try (with_reducible rfl))
                      try simp only [Act.put, List.setIfInBounds_toArray, List.set_cons_zero, List.set_cons_succ]
                      refine wpAnyH_take (i := 15) (oi := ?_) (v := ?_) ?_ (by kernel_rfl) (by kernel_rfl) (by kernel_rfl) ?_ (Or.inl ⟨?_, ?_⟩) (by assumption) ?_
                      rotate_left 2
                      · simp only [List.getElem?_toArray, List.getElem?_cons_succ, List.getElem?_cons_zero] <;> rfl
                      · exact fun _ _ _ h => h
                      · rfl
                      · (intro w hSw; (try dsimp only at hSw); go_simp; try (with_reducible rfl))
                      try simp only [Act.put, List.setIfInBounds_toArray, List.set_cons_zero, List.set_cons_succ]
                      refine wpAnyH_take (i := 16) (oi := ?_) (v := ?_) ?_ (by kernel_rfl) (by kernel_rfl) (by kernel_rfl) ?_ (Or.inl ⟨?_, ?_⟩) (by assumption) ?_
                      rotate_left 2
                      · simp only [List.getElem?_toArray, List.getElem?_cons_succ, List.getElem?_cons_zero] <;> rfl
                      · exact fun _ _ _ h => h
                      · rfl
                      · (intro w hSw; (try dsimp only at hSw); go_simp; try (with_reducible rfl))
                      try simp only [Act.put, List.setIfInBounds_toArray, List.set_cons_zero, List.set_cons_succ]
                      refine wpAnyH_take (i := 18) (oi := ?_) (v := ?_) ?_ (by kernel_rfl) (by kernel_rfl) (by kernel_rfl) ?_ (Or.inl ⟨?_, ?_⟩) (by assumption) ?_
                      rotate_left 2
                      · simp only [List.getElem?_toArray, List.getElem?_cons_succ, List.getElem?_cons_zero] <;> rfl
                      · exact fun _ _ _ h => h
                      · rfl
                      · (intro w hSw; (try dsimp only at hSw); go_simp; try (with_reducible rfl))
                      try simp only [Act.put, List.setIfInBounds_toArray, List.set_cons_zero, List.set_cons_succ]
                      refine wpAnyH_take (i := 19) (oi := ?_) (v := ?_) ?_ (by kernel_rfl) (by kernel_rfl) (by kernel_rfl) ?_ (Or.inl ⟨?_, ?_⟩) (by assumption) ?_
                      rotate_left 2
                      · simp only [List.getElem?_toArray, List.getElem?_cons_succ, List.getElem?_cons_zero] <;> rfl
                      · exact fun _ _ _ h => h
                      · rfl
                      · (intro w hSw; (try dsimp only at hSw); go_simp; try (with_reducible rfl))
                      try simp only [Act.put, List.setIfInBounds_toArray, List.set_cons_zero, List.set_cons_succ]
                      refine wpAnyH_ready (rs := [17, 20]) (by kernel_rfl) (by simp) ?_
                      refine AllReadyH.cons (o := _) (by simp only [List.getElem?_toArray, List.getElem?_cons_succ, List.getElem?_cons_zero] <;> rfl) (fun K hK => ?_) ?_
                      · go_simp
                        with_reducible refine (AG.out _ (Below.step (Below.step (Below.step (Below.step (Below.step (Below.step (Below.step (Below.new (Below.refl _ _) _) HB1.out) HB5.out) HB8.out) HB9.out) HB10.out) (Below.new (Below.refl _ _) _)) HB13.out)).mono ?_
                        rintro e17 w17 ⟨v17, rfl, hb17, ho17⟩
                        obtain ⟨a17, k17, rfl⟩ := row_form ho17
                        have HB17 := Lib.hid hb17
                        have HO17 := Lib.hid ho17
                        clear hb17 ho17
                        go_wp2_with fail
                        refine hK.out _ _ ?_ (fun hHeld => ?_)
                        · (try dsimp only)
                          exact KS.out _ (Below.step (Below.step (Below.step (Below.step (Below.step (Below.step (Below.step (Below.step (Below.new (Below.refl _ _) _) HB1.out) HB5.out) HB8.out) HB9.out) HB10.out) (Below.new (Below.refl _ _) _)) HB13.out) HB17.out)
                        clear hK K
                        try simp only [Act.put, List.setIfInBounds_toArray, List.set_cons_zero, List.set_cons_succ]
                        refine wpAnyH_ready (rs := [20]) (by kernel_rfl) (by simp) ?_
                        refine AllReadyH.cons (o := _) (by simp only [List.getElem?_toArray, List.getElem?_cons_succ, List.getElem?_cons_zero] <;> rfl) (fun K hK => ?_) ?_
                        · go_simp
                          refine hK.out _ _ ?_ (fun hHeld => ?_)
                          · (try dsimp only)
                            exact KS.out _ (Below.step (Below.step (Below.step (Below.step (Below.step (Below.step (Below.step (Below.step (Below.step (Below.new (Below.refl _ _) _) HB1.out) HB5.out) HB8.out) HB9.out) HB10.out) (Below.new (Below.refl _ _) _)) HB13.out) HB17.out) (Below.new (Below.refl _ _) _))
                          clear hK K
                          try simp only [Act.put, List.setIfInBounds_toArray, List.set_cons_zero, List.set_cons_succ]
                          refine wpAnyH_ready (rs := [21]) (by kernel_rfl) (by simp) ?_
                          refine AllReadyH.cons (o := _) (by simp only [List.getElem?_toArray, List.getElem?_cons_succ, List.getElem?_cons_zero] <;> rfl) (fun K hK => ?_) ?_
                          · go_simp
                            refine (same_any ((Holds.of_own HO17.out).below (Below.new (Below.refl _ _) _)) ((Holds.of_own (l := [xA, yA]) (World.ownsRow_lit _ #[.string ⟨#[97, 0, 0]⟩, .string ⟨#[]⟩, .string ⟨#[97, 98, 0, 0]⟩, .string ⟨#[]⟩] 2 (Nat.le_refl _) (by unfold maxLen; omega) rfl)).below (Below.refl _ _)) (by decide) (by decide)).mono ?_
                            rw [show sameP [xA, yA] [xA, yA] = true from by simp [sameP]]
                            rintro e21 w21 ⟨rfl, hb21⟩
                            have HB21 := Lib.hid hb21
                            clear hb21
                            go_wp2_with fail
                            refine hK.out _ _ ?_ (fun hHeld => ?_)
                            · (try dsimp only)
                              exact KS.out _ (Below.step (Below.step (Below.step (Below.step (Below.step (Below.step (Below.step (Below.step (Below.step (Below.step (Below.new (Below.refl _ _) _) HB1.out) HB5.out) HB8.out) HB9.out) HB10.out) (Below.new (Below.refl _ _) _)) HB13.out) HB17.out) (Below.new (Below.refl _ _) _)) HB21.out)
                            clear hK K
                            try simp only [Act.put, List.setIfInBounds_toArray, List.set_cons_zero, List.set_cons_succ]
                            refine wpAnyH_take (i := 22) (oi := ?_) (v := ?_) ?_ (by kernel_rfl) (by kernel_rfl) (by kernel_rfl) ?_ (Or.inl ⟨?_, ?_⟩) (by assumption) ?_
                            rotate_left 2
                            · simp only [List.getElem?_toArray, List.getElem?_cons_succ, List.getElem?_cons_zero] <;> rfl
                            · exact fun _ _ _ h => h
                            · rfl
                            · (intro w hSw; (try dsimp only at hSw); go_simp; try (with_reducible rfl))
                            try simp only [Act.put, List.setIfInBounds_toArray, List.set_cons_zero, List.set_cons_succ]
                            refine wpAnyH_take (i := 23) (oi := ?_) (v := ?_) ?_ (by kernel_rfl) (by kernel_rfl) (by kernel_rfl) ?_ (Or.inl ⟨?_, ?_⟩) (by assumption) ?_
                            rotate_left 2
                            · simp only [List.getElem?_toArray, List.getElem?_cons_succ, List.getElem?_cons_zero] <;> rfl
                            · exact fun _ _ _ h => h
                            · rfl
                            · (intro w hSw; (try dsimp only at hSw); go_simp; try (with_reducible rfl))
                            try simp only [Act.put, List.setIfInBounds_toArray, List.set_cons_zero, List.set_cons_succ]
                            refine wpAnyH_done (by kernel_rfl) ?_ _
                            go_wp2_with fail
                            go_ret
                            exact ⟨rfl, Below.step HLOW.out (Below.step (Below.step (Below.step (Below.step (Below.step (Below.step (Below.step (Below.step (Below.step (Below.step (Below.new (Below.refl _ _) _) HB1.out) HB5.out) HB8.out) HB9.out) HB10.out) (Below.new (Below.refl _ _) _)) HB13.out) HB17.out) (Below.new (Below.refl _ _) _)) HB21.out)⟩
                          exact AllReadyH.nil
                        exact AllReadyH.nil
                      refine AllReadyH.cons (o := _) (by simp only [List.getElem?_toArray, List.getElem?_cons_succ, List.getElem?_cons_zero] <;> rfl) (fun K hK => ?_) ?_
                      · go_simp
                        refine hK.out _ _ ?_ (fun hHeld => ?_)
                        · (try dsimp only)
                          exact KS.out _ (Below.step (Below.step (Below.step (Below.step (Below.step (Below.step (Below.step (Below.step (Below.new (Below.refl _ _) _) HB1.out) HB5.out) HB8.out) HB9.out) HB10.out) (Below.new (Below.refl _ _) _)) HB13.out) (Below.new (Below.refl _ _) _))
                        clear hK K
                        try simp only [Act.put, List.setIfInBounds_toArray, List.set_cons_zero, List.set_cons_succ]
                        refine wpAnyH_ready (rs := [17]) (by kernel_rfl) (by simp) ?_
                        refine AllReadyH.cons (o := _) (by simp only [List.getElem?_toArray, List.getElem?_cons_succ, List.getElem?_cons_zero] <;> rfl) (fun K hK => ?_) ?_
                        · go_simp
                          with_reducible refine (AG.out _ (Below.step (Below.step (Below.step (Below.step (Below.step (Below.step (Below.step (Below.step (Below.new (Below.refl _ _) _) HB1.out) HB5.out) HB8.out) HB9.out) HB10.out) (Below.new (Below.refl _ _) _)) HB13.out) (Below.new (Below.refl _ _) _))).mono ?_
                          rintro e17 w17 ⟨v17, rfl, hb17, ho17⟩
                          obtain ⟨a17, k17, rfl⟩ := row_form ho17
                          have HB17 := Lib.hid hb17
                          have HO17 := Lib.hid ho17
                          clear hb17 ho17
                          go_wp2_with fail
                          refine hK.out _ _ ?_ (fun hHeld => ?_)
                          · (try dsimp only)
                            exact KS.out _ (Below.step (Below.step (Below.step (Below.step (Below.step (Below.step (Below.step (Below.step (Below.step (Below.new (Below.refl _ _) _) HB1.out) HB5.out) HB8.out) HB9.out) HB10.out) (Below.new (Below.refl _ _) _)) HB13.out) (Below.new (Below.refl _ _) _)) HB17.out)
                          clear hK K
                          try simp only [Act.put, List.setIfInBounds_toArray, List.set_cons_zero, List.set_cons_succ]
                          refine wpAnyH_ready (rs := [21]) (by kernel_rfl) (by simp) ?_
                          refine AllReadyH.cons (o := _) (by simp only [List.getElem?_toArray, List.getElem?_cons_succ, List.getElem?_cons_zero] <;> rfl) (fun K hK => ?_) ?_
                          · go_simp
                            refine (same_any ((Holds.of_own HO17.out).below (Below.refl _ _)) ((Holds.of_own (l := [xA, yA]) (World.ownsRow_lit _ #[.string ⟨#[97, 0, 0]⟩, .string ⟨#[]⟩, .string ⟨#[97, 98, 0, 0]⟩, .string ⟨#[]⟩] 2 (Nat.le_refl _) (by unfold maxLen; omega) rfl)).below HB17.out) (by decide) (by decide)).mono ?_
                            rw [show sameP [xA, yA] [xA, yA] = true from by simp [sameP]]
                            rintro e21 w21 ⟨rfl, hb21⟩
                            have HB21 := Lib.hid hb21
                            clear hb21
                            go_wp2_with fail
                            refine hK.out _ _ ?_ (fun hHeld => ?_)
                            · (try dsimp only)
                              exact KS.out _ (Below.step (Below.step (Below.step (Below.step (Below.step (Below.step (Below.step (Below.step (Below.step (Below.step (Below.new (Below.refl _ _) _) HB1.out) HB5.out) HB8.out) HB9.out) HB10.out) (Below.new (Below.refl _ _) _)) HB13.out) (Below.new (Below.refl _ _) _)) HB17.out) HB21.out)
                            clear hK K
                            try simp only [Act.put, List.setIfInBounds_toArray, List.set_cons_zero, List.set_cons_succ]
                            refine wpAnyH_take (i := 22) (oi := ?_) (v := ?_) ?_ (by kernel_rfl) (by kernel_rfl) (by kernel_rfl) ?_ (Or.inl ⟨?_, ?_⟩) (by assumption) ?_
                            rotate_left 2
                            · simp only [List.getElem?_toArray, List.getElem?_cons_succ, List.getElem?_cons_zero] <;> rfl
                            · exact fun _ _ _ h => h
                            · rfl
                            · (intro w hSw; (try dsimp only at hSw); go_simp; try (with_reducible rfl))
                            try simp only [Act.put, List.setIfInBounds_toArray, List.set_cons_zero, List.set_cons_succ]
                            refine wpAnyH_take (i := 23) (oi := ?_) (v := ?_) ?_ (by kernel_rfl) (by kernel_rfl) (by kernel_rfl) ?_ (Or.inl ⟨?_, ?_⟩) (by assumption) ?_
                            rotate_left 2
                            · simp only [List.getElem?_toArray, List.getElem?_cons_succ, List.getElem?_cons_zero] <;> rfl
                            · exact fun _ _ _ h => h
                            · rfl
                            · (intro w hSw; (try dsimp only at hSw); go_simp; try (with_reducible rfl))
                            try simp only [Act.put, List.setIfInBounds_toArray, List.set_cons_zero, List.set_cons_succ]
                            refine wpAnyH_done (by kernel_rfl) ?_ _
                            go_wp2_with fail
                            go_ret
                            exact ⟨rfl, Below.step HLOW.out (Below.step (Below.step (Below.step (Below.step (Below.step (Below.step (Below.step (Below.step (Below.step (Below.step (Below.new (Below.refl _ _) _) HB1.out) HB5.out) HB8.out) HB9.out) HB10.out) (Below.new (Below.refl _ _) _)) HB13.out) (Below.new (Below.refl _ _) _)) HB17.out) HB21.out)⟩
                          exact AllReadyH.nil
                        exact AllReadyH.nil
                      exact AllReadyH.nil
                    exact AllReadyH.nil
                  exact AllReadyH.nil
                refine AllReadyH.cons (o := _) (by simp only [List.getElem?_toArray, List.getElem?_cons_succ, List.getElem?_cons_zero] <;> rfl) (fun K hK => ?_) ?_
                · go_simp
                  refine hK.out _ _ ?_ (fun hHeld => ?_)
                  · (try dsimp only)
                    exact KS.out _ (Below.step (Below.step (Below.step (Below.step (Below.step (Below.new (Below.refl _ _) _) HB1.out) HB5.out) HB8.out) HB9.out) (Below.new (Below.refl _ _) _))
                  clear hK K
                  try simp only [Act.put, List.setIfInBounds_toArray, List.set_cons_zero, List.set_cons_succ]
                  refine wpAnyH_ready (rs := [10]) (by kernel_rfl) (by simp) ?_
                  refine AllReadyH.cons (o := _) (by simp only [List.getElem?_toArray, List.getElem?_cons_succ, List.getElem?_cons_zero] <;> rfl) (fun K hK => ?_) ?_
                  · go_simp
                    with_reducible refine (AB.out _ (Below.step (Below.step (Below.step (Below.step (Below.step (Below.new (Below.refl _ _) _) HB1.out) HB5.out) HB8.out) HB9.out) (Below.new (Below.refl _ _) _))).mono ?_
                    rintro e10 w10 ⟨v10, rfl, hb10, ho10⟩
                    obtain ⟨a10, k10, rfl⟩ := row_form ho10
                    have HB10 := Lib.hid hb10
                    have HO10 := Lib.hid ho10
                    clear hb10 ho10
                    go_wp2_with fail
                    refine hK.out _ _ ?_ (fun hHeld => ?_)
                    · (try dsimp only)
                      exact KS.out _ (Below.step (Below.step (Below.step (Below.step (Below.step (Below.step (Below.new (Below.refl _ _) _) HB1.out) HB5.out) HB8.out) HB9.out) (Below.new (Below.refl _ _) _)) HB10.out)
                    clear hK K
                    try simp only [Act.put, List.setIfInBounds_toArray, List.set_cons_zero, List.set_cons_succ]
                    refine wpAnyH_ready (rs := [13]) (by kernel_rfl) (by simp) ?_
                    refine AllReadyH.cons (o := _) (by simp only [List.getElem?_toArray, List.getElem?_cons_succ, List.getElem?_cons_zero] <;> rfl) (fun K hK => ?_) ?_
                    · go_simp
                      refine (same_any ((Holds.of_own HO10.out).below (Below.refl _ _)) ((Holds.of_own (l := [yA]) (World.ownsRow_lit _ #[.string ⟨#[97, 98, 0, 0]⟩, .string ⟨#[]⟩] 1 (Nat.le_refl _) (by unfold maxLen; omega) rfl)).below HB10.out) (by decide) (by decide)).mono ?_
                      rw [show sameP [yA] [yA] = true from by simp [sameP]]
                      rintro e13 w13 ⟨rfl, hb13⟩
                      have HB13 := Lib.hid hb13
                      clear hb13
                      go_wp2_with fail
                      refine hK.out _ _ ?_ (fun hHeld => ?_)
                      · (try dsimp only)
                        exact KS.out _ (Below.step (Below.step (Below.step (Below.step (Below.step (Below.step (Below.step (Below.new (Below.refl _ _) _) HB1.out) HB5.out) HB8.out) HB9.out) (Below.new (Below.refl _ _) _)) HB10.out) HB13.out)
                      clear hK K
                      try simp only [Act.put, List.setIfInBounds_toArray, List.set_cons_zero, List.set_cons_succ]
                      refine wpAnyH_take (i := 14) (oi := ?_) (v := ?_) ?_ (by kernel_rfl) (by kernel_rfl) (by kernel_rfl) ?_ (Or.inl ⟨?_, ?_⟩) (by assumption) ?_
                      rotate_left 2
                      · simp only [List.getElem?_toArray, List.getElem?_cons_succ, List.getElem?_cons_zero] <;> rfl
                      · exact fun _ _ _ h => h
                      · rfl
                      · (intro w hSw; (try dsimp only at hSw); go_simp; try (with_reducible rfl))
                      try simp only [Act.put, List.setIfInBounds_toArray, List.set_cons_zero, List.set_cons_succ]
                      refine wpAnyH_take (i := 15) (oi := ?_) (v := ?_) ?_ (by kernel_rfl) (by kernel_rfl) (by kernel_rfl) ?_ (Or.inl ⟨?_, ?_⟩) (by assumption) ?_
                      rotate_left 2
                      · simp only [List.getElem?_toArray, List.getElem?_cons_succ, List.getElem?_cons_zero] <;> rfl
                      · exact fun _ _ _ h => h
                      · rfl
                      · (intro w hSw; (try dsimp only at hSw); go_simp; try (with_reducible rfl))
                      try simp only [Act.put, List.setIfInBounds_toArray, List.set_cons_zero, List.set_cons_succ]
                      refine wpAnyH_take (i := 16) (oi := ?_) (v := ?_) ?_ (by kernel_rfl) (by kernel_rfl) (by kernel_rfl) ?_ (Or.inl ⟨?_, ?_⟩) (by assumption) ?_
                      rotate_left 2
                      · simp only [List.getElem?_toArray, List.getElem?_cons_succ, List.getElem?_cons_zero] <;> rfl
                      · exact fun _ _ _ h => h
                      · rfl
                      · (intro w hSw; (try dsimp only at hSw); go_simp; try (with_reducible rfl))
                      try simp only [Act.put, List.setIfInBounds_toArray, List.set_cons_zero, List.set_cons_succ]
                      refine wpAnyH_take (i := 18) (oi := ?_) (v := ?_) ?_ (by kernel_rfl) (by kernel_rfl) (by kernel_rfl) ?_ (Or.inl ⟨?_, ?_⟩) (by assumption) ?_
                      rotate_left 2
                      · simp only [List.getElem?_toArray, List.getElem?_cons_succ, List.getElem?_cons_zero] <;> rfl
                      · exact fun _ _ _ h => h
                      · rfl
                      · (intro w hSw; (try dsimp only at hSw); go_simp; try (with_reducible rfl))
                      try simp only [Act.put, List.setIfInBounds_toArray, List.set_cons_zero, List.set_cons_succ]
                      refine wpAnyH_take (i := 19) (oi := ?_) (v := ?_) ?_ (by kernel_rfl) (by kernel_rfl) (by kernel_rfl) ?_ (Or.inl ⟨?_, ?_⟩) (by assumption) ?_
                      rotate_left 2
                      · simp only [List.getElem?_toArray, List.getElem?_cons_succ, List.getElem?_cons_zero] <;> rfl
                      · exact fun _ _ _ h => h
                      · rfl
                      · (intro w hSw; (try dsimp only at hSw); go_simp; try (with_reducible rfl))
                      try simp only [Act.put, List.setIfInBounds_toArray, List.set_cons_zero, List.set_cons_succ]
                      refine wpAnyH_ready (rs := [17, 20]) (by kernel_rfl) (by simp) ?_
                      refine AllReadyH.cons (o := _) (by simp only [List.getElem?_toArray, List.getElem?_cons_succ, List.getElem?_cons_zero] <;> rfl) (fun K hK => ?_) ?_
                      · go_simp
                        with_reducible refine (AG.out _ (Below.step (Below.step (Below.step (Below.step (Below.step (Below.step (Below.step (Below.new (Below.refl _ _) _) HB1.out) HB5.out) HB8.out) HB9.out) (Below.new (Below.refl _ _) _)) HB10.out) HB13.out)).mono ?_
                        rintro e17 w17 ⟨v17, rfl, hb17, ho17⟩
                        obtain ⟨a17, k17, rfl⟩ := row_form ho17
                        have HB17 := Lib.hid hb17
                        have HO17 := Lib.hid ho17
                        clear hb17 ho17
                        go_wp2_with fail
                        refine hK.out _ _ ?_ (fun hHeld => ?_)
                        · (try dsimp only)
                          exact KS.out _ (Below.step (Below.step (Below.step (Below.step (Below.step (Below.step (Below.step (Below.step (Below.new (Below.refl _ _) _) HB1.out) HB5.out) HB8.out) HB9.out) (Below.new (Below.refl _ _) _)) HB10.out) HB13.out) HB17.out)
                        clear hK K
                        try simp only [Act.put, List.setIfInBounds_toArray, List.set_cons_zero, List.set_cons_succ]
                        refine wpAnyH_ready (rs := [20]) (by kernel_rfl) (by simp) ?_
                        refine AllReadyH.cons (o := _) (by simp only [List.getElem?_toArray, List.getElem?_cons_succ, List.getElem?_cons_zero] <;> rfl) (fun K hK => ?_) ?_
                        · go_simp
                          refine hK.out _ _ ?_ (fun hHeld => ?_)
                          · (try dsimp only)
                            exact KS.out _ (Below.step (Below.step (Below.step (Below.step (Below.step (Below.step (Below.step (Below.step (Below.step (Below.new (Below.refl _ _) _) HB1.out) HB5.out) HB8.out) HB9.out) (Below.new (Below.refl _ _) _)) HB10.out) HB13.out) HB17.out) (Below.new (Below.refl _ _) _))
                          clear hK K
                          try simp only [Act.put, List.setIfInBounds_toArray, List.set_cons_zero, List.set_cons_succ]
                          refine wpAnyH_ready (rs := [21]) (by kernel_rfl) (by simp) ?_
                          refine AllReadyH.cons (o := _) (by simp only [List.getElem?_toArray, List.getElem?_cons_succ, List.getElem?_cons_zero] <;> rfl) (fun K hK => ?_) ?_
                          · go_simp
                            refine (same_any ((Holds.of_own HO17.out).below (Below.new (Below.refl _ _) _)) ((Holds.of_own (l := [xA, yA]) (World.ownsRow_lit _ #[.string ⟨#[97, 0, 0]⟩, .string ⟨#[]⟩, .string ⟨#[97, 98, 0, 0]⟩, .string ⟨#[]⟩] 2 (Nat.le_refl _) (by unfold maxLen; omega) rfl)).below (Below.refl _ _)) (by decide) (by decide)).mono ?_
                            rw [show sameP [xA, yA] [xA, yA] = true from by simp [sameP]]
                            rintro e21 w21 ⟨rfl, hb21⟩
                            have HB21 := Lib.hid hb21
                            clear hb21
                            go_wp2_with fail
                            refine hK.out _ _ ?_ (fun hHeld => ?_)
                            · (try dsimp only)
                              exact KS.out _ (Below.step (Below.step (Below.step (Below.step (Below.step (Below.step (Below.step (Below.step (Below.step (Below.step (Below.new (Below.refl _ _) _) HB1.out) HB5.out) HB8.out) HB9.out) (Below.new (Below.refl _ _) _)) HB10.out) HB13.out) HB17.out) (Below.new (Below.refl _ _) _)) HB21.out)
                            clear hK K
                            try simp only [Act.put, List.setIfInBounds_toArray, List.set_cons_zero, List.set_cons_succ]
                            refine wpAnyH_take (i := 22) (oi := ?_) (v := ?_) ?_ (by kernel_rfl) (by kernel_rfl) (by kernel_rfl) ?_ (Or.inl ⟨?_, ?_⟩) (by assumption) ?_
                            rotate_left 2
                            · simp only [List.getElem?_toArray, List.getElem?_cons_succ, List.getElem?_cons_zero] <;> rfl
                            · exact fun _ _ _ h => h
                            · rfl
                            · (intro w hSw; (try dsimp only at hSw); go_simp; try (with_reducible rfl))
                            try simp only [Act.put, List.setIfInBounds_toArray, List.set_cons_zero, List.set_cons_succ]
                            refine wpAnyH_take (i := 23) (oi := ?_) (v := ?_) ?_ (by kernel_rfl) (by kernel_rfl) (by kernel_rfl) ?_ (Or.inl ⟨?_, ?_⟩) (by assumption) ?_
                            rotate_left 2
                            · simp only [List.getElem?_toArray, List.getElem?_cons_succ, List.getElem?_cons_zero] <;> rfl
                            · exact fun _ _ _ h => h
                            · rfl
                            · (intro w hSw; (try dsimp only at hSw); go_simp; try (with_reducible rfl))
                            try simp only [Act.put, List.setIfInBounds_toArray, List.set_cons_zero, List.set_cons_succ]
                            refine wpAnyH_done (by kernel_rfl) ?_ _
                            go_wp2_with fail
                            go_ret
                            exact ⟨rfl, Below.step HLOW.out (Below.step (Below.step (Below.step (Below.step (Below.step (Below.step (Below.step (Below.step (Below.step (Below.step (Below.new (Below.refl _ _) _) HB1.out) HB5.out) HB8.out) HB9.out) (Below.new (Below.refl _ _) _)) HB10.out) HB13.out) HB17.out) (Below.new (Below.refl _ _) _)) HB21.out)⟩
                          exact AllReadyH.nil
                        exact AllReadyH.nil
                      refine AllReadyH.cons (o := _) (by simp only [List.getElem?_toArray, List.getElem?_cons_succ, List.getElem?_cons_zero] <;> rfl) (fun K hK => ?_) ?_
                      · go_simp
                        refine hK.out _ _ ?_ (fun hHeld => ?_)
                        · (try dsimp only)
                          exact KS.out _ (Below.step (Below.step (Below.step (Below.step (Below.step (Below.step (Below.step (Below.step (Below.new (Below.refl _ _) _) HB1.out) HB5.out) HB8.out) HB9.out) (Below.new (Below.refl _ _) _)) HB10.out) HB13.out) (Below.new (Below.refl _ _) _))
                        clear hK K
                        try simp only [Act.put, List.setIfInBounds_toArray, List.set_cons_zero, List.set_cons_succ]
                        refine wpAnyH_ready (rs := [17]) (by kernel_rfl) (by simp) ?_
                        refine AllReadyH.cons (o := _) (by simp only [List.getElem?_toArray, List.getElem?_cons_succ, List.getElem?_cons_zero] <;> rfl) (fun K hK => ?_) ?_
                        · go_simp
                          with_reducible refine (AG.out _ (Below.step (Below.step (Below.step (Below.step (Below.step (Below.step (Below.step (Below.step (Below.new (Below.refl _ _) _) HB1.out) HB5.out) HB8.out) HB9.out) (Below.new (Below.refl _ _) _)) HB10.out) HB13.out) (Below.new (Below.refl _ _) _))).mono ?_
                          rintro e17 w17 ⟨v17, rfl, hb17, ho17⟩
                          obtain ⟨a17, k17, rfl⟩ := row_form ho17
                          have HB17 := Lib.hid hb17
                          have HO17 := Lib.hid ho17
                          clear hb17 ho17
                          go_wp2_with fail
                          refine hK.out _ _ ?_ (fun hHeld => ?_)
                          · (try dsimp only)
                            exact KS.out _ (Below.step (Below.step (Below.step (Below.step (Below.step (Below.step (Below.step (Below.step (Below.step (Below.new (Below.refl _ _) _) HB1.out) HB5.out) HB8.out) HB9.out) (Below.new (Below.refl _ _) _)) HB10.out) HB13.out) (Below.new (Below.refl _ _) _)) HB17.out)
                          clear hK K
                          try simp only [Act.put, List.setIfInBounds_toArray, List.set_cons_zero, List.set_cons_succ]
                          refine wpAnyH_ready (rs := [21]) (by kernel_rfl) (by simp) ?_
                          refine AllReadyH.cons (o := _) (by simp only [List.getElem?_toArray, List.getElem?_cons_succ, List.getElem?_cons_zero] <;> rfl) (fun K hK => ?_) ?_
                          · go_simp
                            refine (same_any ((Holds.of_own HO17.out).below (Below.refl _ _)) ((Holds.of_own (l := [xA, yA]) (World.ownsRow_lit _ #[.string ⟨#[97, 0, 0]⟩, .string ⟨#[]⟩, .string ⟨#[97, 98, 0, 0]⟩, .string ⟨#[]⟩] 2 (Nat.le_refl _) (by unfold maxLen; omega) rfl)).below HB17.out) (by decide) (by decide)).mono ?_
                            rw [show sameP [xA, yA] [xA, yA] = true from by simp [sameP]]
                            rintro e21 w21 ⟨rfl, hb21⟩
                            have HB21 := Lib.hid hb21
                            clear hb21
                            go_wp2_with fail
                            refine hK.out _ _ ?_ (fun hHeld => ?_)
                            · (try dsimp only)
                              exact KS.out _ (Below.step (Below.step (Below.step (Below.step (Below.step (Below.step (Below.step (Below.step (Below.step (Below.step (Below.new (Below.refl _ _) _) HB1.out) HB5.out) HB8.out) HB9.out) (Below.new (Below.refl _ _) _)) HB10.out) HB13.out) (Below.new (Below.refl _ _) _)) HB17.out) HB21.out)
                            clear hK K
                            try simp only [Act.put, List.setIfInBounds_toArray, List.set_cons_zero, List.set_cons_succ]
                            refine wpAnyH_take (i := 22) (oi := ?_) (v := ?_) ?_ (by kernel_rfl) (by kernel_rfl) (by kernel_rfl) ?_ (Or.inl ⟨?_, ?_⟩) (by assumption) ?_
                            rotate_left 2
                            · simp only [List.getElem?_toArray, List.getElem?_cons_succ, List.getElem?_cons_zero] <;> rfl
                            · exact fun _ _ _ h => h
                            · rfl
                            · (intro w hSw; (try dsimp only at hSw); go_simp; try (with_reducible rfl))
                            try simp only [Act.put, List.setIfInBounds_toArray, List.set_cons_zero, List.set_cons_succ]
                            refine wpAnyH_take (i := 23) (oi := ?_) (v := ?_) ?_ (by kernel_rfl) (by kernel_rfl) (by kernel_rfl) ?_ (Or.inl ⟨?_, ?_⟩) (by assumption) ?_
                            rotate_left 2
                            · simp only [List.getElem?_toArray, List.getElem?_cons_succ, List.getElem?_cons_zero] <;> rfl
                            · exact fun _ _ _ h => h
                            · rfl
                            · (intro w hSw; (try dsimp only at hSw); go_simp; try (with_reducible rfl))
                            try simp only [Act.put, List.setIfInBounds_toArray, List.set_cons_zero, List.set_cons_succ]
                            refine wpAnyH_done (by kernel_rfl) ?_ _
                            go_wp2_with fail
                            go_ret
                            exact ⟨rfl, Below.step HLOW.out (Below.step (Below.step (Below.step (Below.step (Below.step (Below.step (Below.step (Below.step (Below.step (Below.step (Below.new (Below.refl _ _) _) HB1.out) HB5.out) HB8.out) HB9.out) (Below.new (Below.refl _ _) _)) HB10.out) HB13.out) (Below.new (Below.refl _ _) _)) HB17.out) HB21.out)⟩
                          exact AllReadyH.nil
                        exact AllReadyH.nil
                      exact AllReadyH.nil
                    exact AllReadyH.nil
                  exact AllReadyH.nil
                exact AllReadyH.nil
              refine AllReadyH.cons (o := _) (by simp only [List.getElem?_toArray, List.getElem?_cons_succ, List.getElem?_cons_zero] <;> rfl) (fun K hK => ?_) ?_
              · go_simp
                refine hK.out _ _ ?_ (fun hHeld => ?_)
                · (try dsimp only)
                  exact KS.out _ (Below.step (Below.step (Below.step (Below.step (Below.new (Below.refl _ _) _) HB1.out) HB5.out) HB8.out) (Below.new (Below.refl _ _) _))
                clear hK K
                try simp only [Act.put, List.setIfInBounds_toArray, List.set_cons_zero, List.set_cons_succ]
                refine wpAnyH_ready (rs := [9]) (by kernel_rfl) (by simp) ?_
                refine AllReadyH.cons (o := _) (by simp only [List.getElem?_toArray, List.getElem?_cons_succ, List.getElem?_cons_zero] <;> rfl) (fun K hK => ?_) ?_
                · go_simp
                  with_reducible refine (HC.out ⟨#[98]⟩ (by decide) _).mono ?_
                  rw [aw_b]
                  rintro e9 w9 ⟨rfl, hb9⟩
                  have HB9 := Lib.hid hb9
                  clear hb9
                  go_wp2_with fail
                  refine hK.out _ _ ?_ (fun hHeld => ?_)
                  · (try dsimp only)
                    exact KS.out _ (Below.step (Below.step (Below.step (Below.step (Below.step (Below.new (Below.refl _ _) _) HB1.out) HB5.out) HB8.out) (Below.new (Below.refl _ _) _)) HB9.out)
                  clear hK K
                  try simp only [Act.put, List.setIfInBounds_toArray, List.set_cons_zero, List.set_cons_succ]
                  refine wpAnyH_ready (rs := [10]) (by kernel_rfl) (by simp) ?_
                  refine AllReadyH.cons (o := _) (by simp only [List.getElem?_toArray, List.getElem?_cons_succ, List.getElem?_cons_zero] <;> rfl) (fun K hK => ?_) ?_
                  · go_simp
                    with_reducible refine (AB.out _ (Below.step (Below.step (Below.step (Below.step (Below.step (Below.new (Below.refl _ _) _) HB1.out) HB5.out) HB8.out) (Below.new (Below.refl _ _) _)) HB9.out)).mono ?_
                    rintro e10 w10 ⟨v10, rfl, hb10, ho10⟩
                    obtain ⟨a10, k10, rfl⟩ := row_form ho10
                    have HB10 := Lib.hid hb10
                    have HO10 := Lib.hid ho10
                    clear hb10 ho10
                    go_wp2_with fail
                    refine hK.out _ _ ?_ (fun hHeld => ?_)
                    · (try dsimp only)
                      exact KS.out _ (Below.step (Below.step (Below.step (Below.step (Below.step (Below.step (Below.new (Below.refl _ _) _) HB1.out) HB5.out) HB8.out) (Below.new (Below.refl _ _) _)) HB9.out) HB10.out)
                    clear hK K
                    try simp only [Act.put, List.setIfInBounds_toArray, List.set_cons_zero, List.set_cons_succ]
                    refine wpAnyH_ready (rs := [13]) (by kernel_rfl) (by simp) ?_
                    refine AllReadyH.cons (o := _) (by simp only [List.getElem?_toArray, List.getElem?_cons_succ, List.getElem?_cons_zero] <;> rfl) (fun K hK => ?_) ?_
                    · go_simp
                      refine (same_any ((Holds.of_own HO10.out).below (Below.refl _ _)) ((Holds.of_own (l := [yA]) (World.ownsRow_lit _ #[.string ⟨#[97, 98, 0, 0]⟩, .string ⟨#[]⟩] 1 (Nat.le_refl _) (by unfold maxLen; omega) rfl)).below (Below.step HB9.out HB10.out)) (by decide) (by decide)).mono ?_
                      rw [show sameP [yA] [yA] = true from by simp [sameP]]
                      rintro e13 w13 ⟨rfl, hb13⟩
                      have HB13 := Lib.hid hb13
                      clear hb13
                      go_wp2_with fail
                      refine hK.out _ _ ?_ (fun hHeld => ?_)
                      · (try dsimp only)
                        exact KS.out _ (Below.step (Below.step (Below.step (Below.step (Below.step (Below.step (Below.step (Below.new (Below.refl _ _) _) HB1.out) HB5.out) HB8.out) (Below.new (Below.refl _ _) _)) HB9.out) HB10.out) HB13.out)
                      clear hK K
                      try simp only [Act.put, List.setIfInBounds_toArray, List.set_cons_zero, List.set_cons_succ]
                      refine wpAnyH_take (i := 14) (oi := ?_) (v := ?_) ?_ (by kernel_rfl) (by kernel_rfl) (by kernel_rfl) ?_ (Or.inl ⟨?_, ?_⟩) (by assumption) ?_
                      rotate_left 2
                      · simp only [List.getElem?_toArray, List.getElem?_cons_succ, List.getElem?_cons_zero] <;> rfl
                      · exact fun _ _ _ h => h
                      · rfl
                      · (intro w hSw; (try dsimp only at hSw); go_simp; try (with_reducible rfl))
                      try simp only [Act.put, List.setIfInBounds_toArray, List.set_cons_zero, List.set_cons_succ]
                      refine wpAnyH_take (i := 15) (oi := ?_) (v := ?_) ?_ (by kernel_rfl) (by kernel_rfl) (by kernel_rfl) ?_ (Or.inl ⟨?_, ?_⟩) (by assumption) ?_
                      rotate_left 2
                      · simp only [List.getElem?_toArray, List.getElem?_cons_succ, List.getElem?_cons_zero] <;> rfl
                      · exact fun _ _ _ h => h
                      · rfl
                      · (intro w hSw; (try dsimp only at hSw); go_simp; try (with_reducible rfl))
                      try simp only [Act.put, List.setIfInBounds_toArray, List.set_cons_zero, List.set_cons_succ]
                      refine wpAnyH_take (i := 16) (oi := ?_) (v := ?_) ?_ (by kernel_rfl) (by kernel_rfl) (by kernel_rfl) ?_ (Or.inl ⟨?_, ?_⟩) (by assumption) ?_
                      rotate_left 2
                      · simp only [List.getElem?_toArray, List.getElem?_cons_succ, List.getElem?_cons_zero] <;> rfl
                      · exact fun _ _ _ h => h
                      · rfl
                      · (intro w hSw; (try dsimp only at hSw); go_simp; try (with_reducible rfl))
                      try simp only [Act.put, List.setIfInBounds_toArray, List.set_cons_zero, List.set_cons_succ]
                      refine wpAnyH_take (i := 18) (oi := ?_) (v := ?_) ?_ (by kernel_rfl) (by kernel_rfl) (by kernel_rfl) ?_ (Or.inl ⟨?_, ?_⟩) (by assumption) ?_
                      rotate_left 2
                      · simp only [List.getElem?_toArray, List.getElem?_cons_succ, List.getElem?_cons_zero] <;> rfl
                      · exact fun _ _ _ h => h
                      · rfl
                      · (intro w hSw; (try dsimp only at hSw); go_simp; try (with_reducible rfl))
                      try simp only [Act.put, List.setIfInBounds_toArray, List.set_cons_zero, List.set_cons_succ]
                      refine wpAnyH_take (i := 19) (oi := ?_) (v := ?_) ?_ (by kernel_rfl) (by kernel_rfl) (by kernel_rfl) ?_ (Or.inl ⟨?_, ?_⟩) (by assumption) ?_
                      rotate_left 2
                      · simp only [List.getElem?_toArray, List.getElem?_cons_succ, List.getElem?_cons_zero] <;> rfl
                      · exact fun _ _ _ h => h
                      · rfl
                      · (intro w hSw; (try dsimp only at hSw); go_simp; try (with_reducible rfl))
                      try simp only [Act.put, List.setIfInBounds_toArray, List.set_cons_zero, List.set_cons_succ]
                      refine wpAnyH_ready (rs := [17, 20]) (by kernel_rfl) (by simp) ?_
                      refine AllReadyH.cons (o := _) (by simp only [List.getElem?_toArray, List.getElem?_cons_succ, List.getElem?_cons_zero] <;> rfl) (fun K hK => ?_) ?_
                      · go_simp
                        with_reducible refine (AG.out _ (Below.step (Below.step (Below.step (Below.step (Below.step (Below.step (Below.step (Below.new (Below.refl _ _) _) HB1.out) HB5.out) HB8.out) (Below.new (Below.refl _ _) _)) HB9.out) HB10.out) HB13.out)).mono ?_
                        rintro e17 w17 ⟨v17, rfl, hb17, ho17⟩
                        obtain ⟨a17, k17, rfl⟩ := row_form ho17
                        have HB17 := Lib.hid hb17
                        have HO17 := Lib.hid ho17
                        clear hb17 ho17
                        go_wp2_with fail
                        refine hK.out _ _ ?_ (fun hHeld => ?_)
                        · (try dsimp only)
                          exact KS.out _ (Below.step (Below.step (Below.step (Below.step (Below.step (Below.step (Below.step (Below.step (Below.new (Below.refl _ _) _) HB1.out) HB5.out) HB8.out) (Below.new (Below.refl _ _) _)) HB9.out) HB10.out) HB13.out) HB17.out)
                        clear hK K
                        try simp only [Act.put, List.setIfInBounds_toArray, List.set_cons_zero, List.set_cons_succ]
                        refine wpAnyH_ready (rs := [20]) (by kernel_rfl) (by simp) ?_
                        refine AllReadyH.cons (o := _) (by simp only [List.getElem?_toArray, List.getElem?_cons_succ, List.getElem?_cons_zero] <;> rfl) (fun K hK => ?_) ?_
                        · go_simp
                          refine hK.out _ _ ?_ (fun hHeld => ?_)
                          · (try dsimp only)
                            exact KS.out _ (Below.step (Below.step (Below.step (Below.step (Below.step (Below.step (Below.step (Below.step (Below.step (Below.new (Below.refl _ _) _) HB1.out) HB5.out) HB8.out) (Below.new (Below.refl _ _) _)) HB9.out) HB10.out) HB13.out) HB17.out) (Below.new (Below.refl _ _) _))
                          clear hK K
                          try simp only [Act.put, List.setIfInBounds_toArray, List.set_cons_zero, List.set_cons_succ]
                          refine wpAnyH_ready (rs := [21]) (by kernel_rfl) (by simp) ?_
                          refine AllReadyH.cons (o := _) (by simp only [List.getElem?_toArray, List.getElem?_cons_succ, List.getElem?_cons_zero] <;> rfl) (fun K hK => ?_) ?_
                          · go_simp
                            refine (same_any ((Holds.of_own HO17.out).below (Below.new (Below.refl _ _) _)) ((Holds.of_own (l := [xA, yA]) (World.ownsRow_lit _ #[.string ⟨#[97, 0, 0]⟩, .string ⟨#[]⟩, .string ⟨#[97, 98, 0, 0]⟩, .string ⟨#[]⟩] 2 (Nat.le_refl _) (by unfold maxLen; omega) rfl)).below (Below.refl _ _)) (by decide) (by decide)).mono ?_
                            rw [show sameP [xA, yA] [xA, yA] = true from by simp [sameP]]
                            rintro e21 w21 ⟨rfl, hb21⟩
                            have HB21 := Lib.hid hb21
                            clear hb21
                            go_wp2_with fail
                            refine hK.out _ _ ?_ (fun hHeld => ?_)
                            · (try dsimp only)
                              exact KS.out _ (Below.step (Below.step (Below.step (Below.step (Below.step (Below.step (Below.step (Below.step (Below.step (Below.step (Below.new (Below.refl _ _) _) HB1.out) HB5.out) HB8.out) (Below.new (Below.refl _ _) _)) HB9.out) HB10.out) HB13.out) HB17.out) (Below.new (Below.refl _ _) _)) HB21.out)
                            clear hK K
                            try simp only [Act.put, List.setIfInBounds_toArray, List.set_cons_zero, List.set_cons_succ]
                            refine wpAnyH_take (i := 22) (oi := ?_) (v := ?_) ?_ (by kernel_rfl) (by kernel_rfl) (by kernel_rfl) ?_ (Or.inl ⟨?_, ?_⟩) (by assumption) ?_
                            rotate_left 2
                            · simp only [List.getElem?_toArray, List.getElem?_cons_succ, List.getElem?_cons_zero] <;> rfl
                            · exact fun _ _ _ h => h
                            · rfl
                            · (intro w hSw; (try dsimp only at hSw); go_simp; try (with_reducible rfl))
                            try simp only [Act.put, List.setIfInBounds_toArray, List.set_cons_zero, List.set_cons_succ]
                            refine wpAnyH_take (i := 23) (oi := ?_) (v := ?_) ?_ (by kernel_rfl) (by kernel_rfl) (by kernel_rfl) ?_ (Or.inl ⟨?_, ?_⟩) (by assumption) ?_
                            rotate_left 2
                            · simp only [List.getElem?_toArray, List.getElem?_cons_succ, List.getElem?_cons_zero] <;> rfl
                            · exact fun _ _ _ h => h
                            · rfl
                            · (intro w hSw; (try dsimp only at hSw); go_simp; try (with_reducible rfl))
                            try simp only [Act.put, List.setIfInBounds_toArray, List.set_cons_zero, List.set_cons_succ]
                            refine wpAnyH_done (by kernel_rfl) ?_ _
                            go_wp2_with fail
                            go_ret
                            exact ⟨rfl, Below.step HLOW.out (Below.step (Below.step (Below.step (Below.step (Below.step (Below.step (Below.step (Below.step (Below.step (Below.step (Below.new (Below.refl _ _) _) HB1.out) HB5.out) HB8.out) (Below.new (Below.refl _ _) _)) HB9.out) HB10.out) HB13.out) HB17.out) (Below.new (Below.refl _ _) _)) HB21.out)⟩
                          exact AllReadyH.nil
                        exact AllReadyH.nil
                      refine AllReadyH.cons (o := _) (by simp only [List.getElem?_toArray, List.getElem?_cons_succ, List.getElem?_cons_zero] <;> rfl) (fun K hK => ?_) ?_
                      · go_simp
                        refine hK.out _ _ ?_ (fun hHeld => ?_)
                        · (try dsimp only)
                          exact KS.out _ (Below.step (Below.step (Below.step (Below.step (Below.step (Below.step (Below.step (Below.step (Below.new (Below.refl _ _) _) HB1.out) HB5.out) HB8.out) (Below.new (Below.refl _ _) _)) HB9.out) HB10.out) HB13.out) (Below.new (Below.refl _ _) _))
                        clear hK K
                        try simp only [Act.put, List.setIfInBounds_toArray, List.set_cons_zero, List.set_cons_succ]
                        refine wpAnyH_ready (rs := [17]) (by kernel_rfl) (by simp) ?_
                        refine AllReadyH.cons (o := _) (by simp only [List.getElem?_toArray, List.getElem?_cons_succ, List.getElem?_cons_zero] <;> rfl) (fun K hK => ?_) ?_
                        · go_simp
                          with_reducible refine (AG.out _ (Below.step (Below.step (Below.step (Below.step (Below.step (Below.step (Below.step (Below.step (Below.new (Below.refl _ _) _) HB1.out) HB5.out) HB8.out) (Below.new (Below.refl _ _) _)) HB9.out) HB10.out) HB13.out) (Below.new (Below.refl _ _) _))).mono ?_
                          rintro e17 w17 ⟨v17, rfl, hb17, ho17⟩
                          obtain ⟨a17, k17, rfl⟩ := row_form ho17
                          have HB17 := Lib.hid hb17
                          have HO17 := Lib.hid ho17
                          clear hb17 ho17
                          go_wp2_with fail
                          refine hK.out _ _ ?_ (fun hHeld => ?_)
                          · (try dsimp only)
                            exact KS.out _ (Below.step (Below.step (Below.step (Below.step (Below.step (Below.step (Below.step (Below.step (Below.step (Below.new (Below.refl _ _) _) HB1.out) HB5.out) HB8.out) (Below.new (Below.refl _ _) _)) HB9.out) HB10.out) HB13.out) (Below.new (Below.refl _ _) _)) HB17.out)
                          clear hK K
                          try simp only [Act.put, List.setIfInBounds_toArray, List.set_cons_zero, List.set_cons_succ]
                          refine wpAnyH_ready (rs := [21]) (by kernel_rfl) (by simp) ?_
                          refine AllReadyH.cons (o := _) (by simp only [List.getElem?_toArray, List.getElem?_cons_succ, List.getElem?_cons_zero] <;> rfl) (fun K hK => ?_) ?_
                          · go_simp
                            refine (same_any ((Holds.of_own HO17.out).below (Below.refl _ _)) ((Holds.of_own (l := [xA, yA]) (World.ownsRow_lit _ #[.string ⟨#[97, 0, 0]⟩, .string ⟨#[]⟩, .string ⟨#[97, 98, 0, 0]⟩, .string ⟨#[]⟩] 2 (Nat.le_refl _) (by unfold maxLen; omega) rfl)).below HB17.out) (by decide) (by decide)).mono ?_
                            rw [show sameP [xA, yA] [xA, yA] = true from by simp [sameP]]
                            rintro e21 w21 ⟨rfl, hb21⟩
                            have HB21 := Lib.hid hb21
                            clear hb21
                            go_wp2_with fail
                            refine hK.out _ _ ?_ (fun hHeld => ?_)
                            · (try dsimp only)
                              exact KS.out _ (Below.step (Below.step (Below.step (Below.step (Below.step (Below.step (Below.step (Below.step (Below.step (Below.step (Below.new (Below.refl _ _) _) HB1.out) HB5.out) HB8.out) (Below.new (Below.refl _ _) _)) HB9.out) HB10.out) HB13.out) (Below.new (Below.refl _ _) _)) HB17.out) HB21.out)
                            clear hK K
                            try simp only [Act.put, List.setIfInBounds_toArray, List.set_cons_zero, List.set_cons_succ]
                            refine wpAnyH_take (i := 22) (oi := ?_) (v := ?_) ?_ (by kernel_rfl) (by kernel_rfl) (by kernel_rfl) ?_ (Or.inl ⟨?_, ?_⟩) (by assumption) ?_
                            rotate_left 2
                            · simp only [List.getElem?_toArray, List.getElem?_cons_succ, List.getElem?_cons_zero] <;> rfl
                            · exact fun _ _ _ h => h
                            · rfl
                            · (intro w hSw; (try dsimp only at hSw); go_simp; try (with_reducible rfl))
                            try simp only [Act.put, List.setIfInBounds_toArray, List.set_cons_zero, List.set_cons_succ]
                            refine wpAnyH_take (i := 23) (oi := ?_) (v := ?_) ?_ (by kernel_rfl) (by kernel_rfl) (by kernel_rfl) ?_ (Or.inl ⟨?_, ?_⟩) (by assumption) ?_
                            rotate_left 2
                            · simp only [List.getElem?_toArray, List.getElem?_cons_succ, List.getElem?_cons_zero] <;> rfl
                            · exact fun _ _ _ h => h
                            · rfl
                            · (intro w hSw; (try dsimp only at hSw); go_simp; try (with_reducible rfl))
                            try simp only [Act.put, List.setIfInBounds_toArray, List.set_cons_zero, List.set_cons_succ]
                            refine wpAnyH_done (by kernel_rfl) ?_ _
                            go_wp2_with fail
                            go_ret
                            exact ⟨rfl, Below.step HLOW.out (Below.step (Below.step (Below.step (Below.step (Below.step (Below.step (Below.step (Below.step (Below.step (Below.step (Below.new (Below.refl _ _) _) HB1.out) HB5.out) HB8.out) (Below.new (Below.refl _ _) _)) HB9.out) HB10.out) HB13.out) (Below.new (Below.refl _ _) _)) HB17.out) HB21.out)⟩
                          exact AllReadyH.nil
                        exact AllReadyH.nil
                      exact AllReadyH.nil
                    exact AllReadyH.nil
                  exact AllReadyH.nil
                exact AllReadyH.nil
              exact AllReadyH.nil
            refine AllReadyH.cons (o := _) (by simp only [List.getElem?_toArray, List.getElem?_cons_succ, List.getElem?_cons_zero] <;> rfl) (fun K hK => ?_) ?_
            · go_simp
              refine hK.out _ _ ?_ (fun hHeld => ?_)
              · (try dsimp only)
                exact KS.out _ (Below.step (Below.step (Below.step (Below.new (Below.refl _ _) _) HB1.out) HB5.out) (Below.new (Below.refl _ _) _))
              clear hK K
              try simp only [Act.put, List.setIfInBounds_toArray, List.set_cons_zero, List.set_cons_succ]
              refine wpAnyH_ready (rs := [8]) (by kernel_rfl) (by simp) ?_
              refine AllReadyH.cons (o := _) (by simp only [List.getElem?_toArray, List.getElem?_cons_succ, List.getElem?_cons_zero] <;> rfl) (fun K hK => ?_) ?_
              · go_simp
                with_reducible refine (HC.out ⟨#[97, 98]⟩ (by decide) _).mono ?_
                rw [aw_ab]
                rintro e8 w8 ⟨rfl, hb8⟩
                have HB8 := Lib.hid hb8
                clear hb8
                go_wp2_with fail
                refine hK.out _ _ ?_ (fun hHeld => ?_)
                · (try dsimp only)
                  exact KS.out _ (Below.step (Below.step (Below.step (Below.step (Below.new (Below.refl _ _) _) HB1.out) HB5.out) (Below.new (Below.refl _ _) _)) HB8.out)
                clear hK K
                try simp only [Act.put, List.setIfInBounds_toArray, List.set_cons_zero, List.set_cons_succ]
                refine wpAnyH_ready (rs := [9]) (by kernel_rfl) (by simp) ?_
                refine AllReadyH.cons (o := _) (by simp only [List.getElem?_toArray, List.getElem?_cons_succ, List.getElem?_cons_zero] <;> rfl) (fun K hK => ?_) ?_
                · go_simp
                  with_reducible refine (HC.out ⟨#[98]⟩ (by decide) _).mono ?_
                  rw [aw_b]
                  rintro e9 w9 ⟨rfl, hb9⟩
                  have HB9 := Lib.hid hb9
                  clear hb9
                  go_wp2_with fail
                  refine hK.out _ _ ?_ (fun hHeld => ?_)
                  · (try dsimp only)
                    exact KS.out _ (Below.step (Below.step (Below.step (Below.step (Below.step (Below.new (Below.refl _ _) _) HB1.out) HB5.out) (Below.new (Below.refl _ _) _)) HB8.out) HB9.out)
                  clear hK K
                  try simp only [Act.put, List.setIfInBounds_toArray, List.set_cons_zero, List.set_cons_succ]
                  refine wpAnyH_ready (rs := [10]) (by kernel_rfl) (by simp) ?_
                  refine AllReadyH.cons (o := _) (by simp only [List.getElem?_toArray, List.getElem?_cons_succ, List.getElem?_cons_zero] <;> rfl) (fun K hK => ?_) ?_
                  · go_simp
                    with_reducible refine (AB.out _ (Below.step (Below.step (Below.step (Below.step (Below.step (Below.new (Below.refl _ _) _) HB1.out) HB5.out) (Below.new (Below.refl _ _) _)) HB8.out) HB9.out)).mono ?_
                    rintro e10 w10 ⟨v10, rfl, hb10, ho10⟩
                    obtain ⟨a10, k10, rfl⟩ := row_form ho10
                    have HB10 := Lib.hid hb10
                    have HO10 := Lib.hid ho10
                    clear hb10 ho10
                    go_wp2_with fail
                    refine hK.out _ _ ?_ (fun hHeld => ?_)
                    · (try dsimp only)
                      exact KS.out _ (Below.step (Below.step (Below.step (Below.step (Below.step (Below.step (Below.new (Below.refl _ _) _) HB1.out) HB5.out) (Below.new (Below.refl _ _) _)) HB8.out) HB9.out) HB10.out)
                    clear hK K
                    try simp only [Act.put, List.setIfInBounds_toArray, List.set_cons_zero, List.set_cons_succ]
                    refine wpAnyH_ready (rs := [13]) (by kernel_rfl) (by simp) ?_
                    refine AllReadyH.cons (o := _) (by simp only [List.getElem?_toArray, List.getElem?_cons_succ, List.getElem?_cons_zero] <;> rfl) (fun K hK => ?_) ?_
                    · go_simp
                      refine (same_any ((Holds.of_own HO10.out).below (Below.refl _ _)) ((Holds.of_own (l := [yA]) (World.ownsRow_lit _ #[.string ⟨#[97, 98, 0, 0]⟩, .string ⟨#[]⟩] 1 (Nat.le_refl _) (by unfold maxLen; omega) rfl)).below (Below.step (Below.step HB8.out HB9.out) HB10.out)) (by decide) (by decide)).mono ?_
                      rw [show sameP [yA] [yA] = true from by simp [sameP]]
                      rintro e13 w13 ⟨rfl, hb13⟩
                      have HB13 := Lib.hid hb13
                      clear hb13
                      go_wp2_with fail
                      refine hK.out _ _ ?_ (fun hHeld => ?_)
                      · (try dsimp only)
                        exact KS.out _ (Below.step (Below.step (Below.step (Below.step (Below.step (Below.step (Below.step (Below.new (Below.refl _ _) _) HB1.out) HB5.out) (Below.new (Below.refl _ _) _)) HB8.out) HB9.out) HB10.out) HB13.out)
                      clear hK K
                      try simp only [Act.put, List.setIfInBounds_toArray, List.set_cons_zero, List.set_cons_succ]
                      refine wpAnyH_take (i := 14) (oi := ?_) (v := ?_) ?_ (by kernel_rfl) (by kernel_rfl) (by kernel_rfl) ?_ (Or.inl ⟨?_, ?_⟩) (by assumption) ?_
                      rotate_left 2
                      · simp only [List.getElem?_toArray, List.getElem?_cons_succ, List.getElem?_cons_zero] <;> rfl
                      · exact fun _ _ _ h => h
                      · rfl
                      · (intro w hSw; (try dsimp only at hSw); go_simp; try (with_reducible rfl))
                      try simp only [Act.put, List.setIfInBounds_toArray, List.set_cons_zero, List.set_cons_succ]
                      refine wpAnyH_take (i := 15) (oi := ?_) (v := ?_) ?_ (by kernel_rfl) (by kernel_rfl) (by kernel_rfl) ?_ (Or.inl ⟨?_, ?_⟩) (by assumption) ?_
                      rotate_left 2
                      · simp only [List.getElem?_toArray, List.getElem?_cons_succ, List.getElem?_cons_zero] <;> rfl
                      · exact fun _ _ _ h => h
                      · rfl
                      · (intro w hSw; (try dsimp only at hSw); go_simp; try (with_reducible rfl))
                      try simp only [Act.put, List.setIfInBounds_toArray, List.set_cons_zero, List.set_cons_succ]
                      refine wpAnyH_take (i := 16) (oi := ?_) (v := ?_) ?_ (by kernel_rfl) (by kernel_rfl) (by kernel_rfl) ?_ (Or.inl ⟨?_, ?_⟩) (by assumption) ?_
                      rotate_left 2
                      · simp only [List.getElem?_toArray, List.getElem?_cons_succ, List.getElem?_cons_zero] <;> rfl
                      · exact fun _ _ _ h => h
                      · rfl
                      · (intro w hSw; (try dsimp only at hSw); go_simp; try (with_reducible rfl))
                      try simp only [Act.put, List.setIfInBounds_toArray, List.set_cons_zero, List.set_cons_succ]
                      refine wpAnyH_take (i := 18) (oi := ?_) (v := ?_) ?_ (by kernel_rfl) (by kernel_rfl) (by kernel_rfl) ?_ (Or.inl ⟨?_, ?_⟩) (by assumption) ?_
                      rotate_left 2
                      · simp only [List.getElem?_toArray, List.getElem?_cons_succ, List.getElem?_cons_zero] <;> rfl
                      · exact fun _ _ _ h => h
                      · rfl
                      · (intro w hSw; (try dsimp only at hSw); go_simp; try (with_reducible rfl))
                      try simp only [Act.put, List.setIfInBounds_toArray, List.set_cons_zero, List.set_cons_succ]
                      refine wpAnyH_take (i := 19) (oi := ?_) (v := ?_) ?_ (by kernel_rfl) (by kernel_rfl) (by kernel_rfl) ?_ (Or.inl ⟨?_, ?_⟩) (by assumption) ?_
                      rotate_left 2
                      · simp only [List.getElem?_toArray, List.getElem?_cons_succ, List.getElem?_cons_zero] <;> rfl
                      · exact fun _ _ _ h => h
                      · rfl
                      · (intro w hSw; (try dsimp only at hSw); go_simp; try (with_reducible rfl))
                      try simp only [Act.put, List.setIfInBounds_toArray, List.set_cons_zero, List.set_cons_succ]
                      refine wpAnyH_ready (rs := [17, 20]) (by kernel_rfl) (by simp) ?_
                      refine AllReadyH.cons (o := _) (by simp only [List.getElem?_toArray, List.getElem?_cons_succ, List.getElem?_cons_zero] <;> rfl) (fun K hK => ?_) ?_
                      · go_simp
                        with_reducible refine (AG.out _ (Below.step (Below.step (Below.step (Below.step (Below.step (Below.step (Below.step (Below.new (Below.refl _ _) _) HB1.out) HB5.out) (Below.new (Below.refl _ _) _)) HB8.out) HB9.out) HB10.out) HB13.out)).mono ?_
                        rintro e17 w17 ⟨v17, rfl, hb17, ho17⟩
                        obtain ⟨a17, k17, rfl⟩ := row_form ho17
                        have HB17 := Lib.hid hb17
                        have HO17 := Lib.hid ho17
                        clear hb17 ho17
                        go_wp2_with fail
                        refine hK.out _ _ ?_ (fun hHeld => ?_)
                        · (try dsimp only)
                          exact KS.out _ (Below.step (Below.step (Below.step (Below.step (Below.step (Below.step (Below.step (Below.step (Below.new (Below.refl _ _) _) HB1.out) HB5.out) (Below.new (Below.refl _ _) _)) HB8.out) HB9.out) HB10.out) HB13.out) HB17.out)
                        clear hK K
                        try simp only [Act.put, List.setIfInBounds_toArray, List.set_cons_zero, List.set_cons_succ]
                        refine wpAnyH_ready (rs := [20]) (by kernel_rfl) (by simp) ?_
                        refine AllReadyH.cons (o := _) (by simp only [List.getElem?_toArray, List.getElem?_cons_succ, List.getElem?_cons_zero] <;> rfl) (fun K hK => ?_) ?_
                        · go_simp
                          refine hK.out _ _ ?_ (fun hHeld => ?_)
                          · (try dsimp only)
                            exact KS.out _ (Below.step (Below.step (Below.step (Below.step (Below.step (Below.step (Below.step (Below.step (Below.step (Below.new (Below.refl _ _) _) HB1.out) HB5.out) (Below.new (Below.refl _ _) _)) HB8.out) HB9.out) HB10.out) HB13.out) HB17.out) (Below.new (Below.refl _ _) _))
                          clear hK K
                          try simp only [Act.put, List.setIfInBounds_toArray, List.set_cons_zero, List.set_cons_succ]
                          refine wpAnyH_ready (rs := [21]) (by kernel_rfl) (by simp) ?_
                          refine AllReadyH.cons (o := _) (by simp only [List.getElem?_toArray, List.getElem?_cons_succ, List.getElem?_cons_zero] <;> rfl) (fun K hK => ?_) ?_
                          · go_simp
                            refine (same_any ((Holds.of_own HO17.out).below (Below.new (Below.refl _ _) _)) ((Holds.of_own (l := [xA, yA]) (World.ownsRow_lit _ #[.string ⟨#[97, 0, 0]⟩, .string ⟨#[]⟩, .string ⟨#[97, 98, 0, 0]⟩, .string ⟨#[]⟩] 2 (Nat.le_refl _) (by unfold maxLen; omega) rfl)).below (Below.refl _ _)) (by decide) (by decide)).mono ?_
                            rw [show sameP [xA, yA] [xA, yA] = true from by simp [sameP]]
                            rintro e21 w21 ⟨rfl, hb21⟩
                            have HB21 := Lib.hid hb21
                            clear hb21
                            go_wp2_with fail
                            refine hK.out _ _ ?_ (fun hHeld => ?_)
                            · (try dsimp only)
                              exact KS.out _ (Below.step (Below.step (Below.step (Below.step (Below.step (Below.step (Below.step (Below.step (Below.step (Below.step (Below.new (Below.refl _ _) _) HB1.out) HB5.out) (Below.new (Below.refl _ _) _)) HB8.out) HB9.out) HB10.out) HB13.out) HB17.out) (Below.new (Below.refl _ _) _)) HB21.out)
                            clear hK K
                            try simp only [Act.put, List.setIfInBounds_toArray, List.set_cons_zero, List.set_cons_succ]
                            refine wpAnyH_take (i := 22) (oi := ?_) (v := ?_) ?_ (by kernel_rfl) (by kernel_rfl) (by kernel_rfl) ?_ (Or.inl ⟨?_, ?_⟩) (by assumption) ?_
                            rotate_left 2
                            · simp only [List.getElem?_toArray, List.getElem?_cons_succ, List.getElem?_cons_zero] <;> rfl
                            · exact fun _ _ _ h => h
                            · rfl
                            · (intro w hSw; (try dsimp only at hSw); go_simp; try (with_reducible rfl))
                            try simp only [Act.put, List.setIfInBounds_toArray, List.set_cons_zero, List.set_cons_succ]
                            refine wpAnyH_take (i := 23) (oi := ?_) (v := ?_) ?_ (by kernel_rfl) (by kernel_rfl) (by kernel_rfl) ?_ (Or.inl ⟨?_, ?_⟩) (by assumption) ?_
                            rotate_left 2
                            · simp only [List.getElem?_toArray, List.getElem?_cons_succ, List.getElem?_cons_zero] <;> rfl
                            · exact fun _ _ _ h => h
                            · rfl
                            · (intro w hSw; (try dsimp only at hSw); go_simp; try (with_reducible rfl))
                            try simp only [Act.put, List.setIfInBounds_toArray, List.set_cons_zero, List.set_cons_succ]
                            refine wpAnyH_done (by kernel_rfl) ?_ _
                            go_wp2_with fail
                            go_ret
                            exact ⟨rfl, Below.step HLOW.out (Below.step (Below.step (Below.step (Below.step (Below.step (Below.step (Below.step (Below.step (Below.step (Below.step (Below.new (Below.refl _ _) _) HB1.out) HB5.out) (Below.new (Below.refl _ _) _)) HB8.out) HB9.out) HB10.out) HB13.out) HB17.out) (Below.new (Below.refl _ _) _)) HB21.out)⟩
                          exact AllReadyH.nil
                        exact AllReadyH.nil
                      refine AllReadyH.cons (o := _) (by simp only [List.getElem?_toArray, List.getElem?_cons_succ, List.getElem?_cons_zero] <;> rfl) (fun K hK => ?_) ?_
                      · go_simp
                        refine hK.out _ _ ?_ (fun hHeld => ?_)
                        · (try dsimp only)
                          exact KS.out _ (Below.step (Below.step (Below.step (Below.step (Below.step (Below.step (Below.step (Below.step (Below.new (Below.refl _ _) _) HB1.out) HB5.out) (Below.new (Below.refl _ _) _)) HB8.out) HB9.out) HB10.out) HB13.out) (Below.new (Below.refl _ _) _))
                        clear hK K
                        try simp only [Act.put, List.setIfInBounds_toArray, List.set_cons_zero, List.set_cons_succ]
                        refine wpAnyH_ready (rs := [17]) (by kernel_rfl) (by simp) ?_
                        refine AllReadyH.cons (o := _) (by simp only [List.getElem?_toArray, List.getElem?_cons_succ, List.getElem?_cons_zero] <;> rfl) (fun K hK => ?_) ?_
                        · go_simp
                          with_reducible refine (AG.out _ (Below.step (Below.step (Below.step (Below.step (Below.step (Below.step (Below.step (Below.step (Below.new (Below.refl _ _) _) HB1.out) HB5.out) (Below.new (Below.refl _ _) _)) HB8.out) HB9.out) HB10.out) HB13.out) (Below.new (Below.refl _ _) _))).mono ?_
                          rintro e17 w17 ⟨v17, rfl, hb17, ho17⟩
                          obtain ⟨a17, k17, rfl⟩ := row_form ho17
                          have HB17 := Lib.hid hb17
                          have HO17 := Lib.hid ho17
                          clear hb17 ho17
                          go_wp2_with fail
                          refine hK.out _ _ ?_ (fun hHeld => ?_)
                          · (try dsimp only)
                            exact KS.out _ (Below.step (Below.step (Below.step (Below.step (Below.step (Below.step (Below.step (Below.step (Below.step (Below.new (Below.refl _ _) _) HB1.out) HB5.out) (Below.new (Below.refl _ _) _)) HB8.out) HB9.out) HB10.out) HB13.out) (Below.new (Below.refl _ _) _)) HB17.out)
                          clear hK K
                          try simp only [Act.put, List.setIfInBounds_toArray, List.set_cons_zero, List.set_cons_succ]
                          refine wpAnyH_ready (rs := [21]) (by kernel_rfl) (by simp) ?_
                          refine AllReadyH.cons (o := _) (by simp only [List.getElem?_toArray, List.getElem?_cons_succ, List.getElem?_cons_zero] <;> rfl) (fun K hK => ?_) ?_
                          · go_simp
                            refine (same_any ((Holds.of_own HO17.out).below (Below.refl _ _)) ((Holds.of_own (l := [xA, yA]) (World.ownsRow_lit _ #[.string ⟨#[97, 0, 0]⟩, .string ⟨#[]⟩, .string ⟨#[97, 98, 0, 0]⟩, .string ⟨#[]⟩] 2 (Nat.le_refl _) (by unfold maxLen; omega) rfl)).below HB17.out) (by decide) (by decide)).mono ?_
                            rw [show sameP [xA, yA] [xA, yA] = true from by simp [sameP]]
                            rintro e21 w21 ⟨rfl, hb21⟩
                            have HB21 := Lib.hid hb21
                            clear hb21
                            go_wp2_with fail
                            refine hK.out _ _ ?_ (fun hHeld => ?_)
                            · (try dsimp only)
                              exact KS.out _ (Below.step (Below.step (Below.step (Below.step (Below.step (Below.step (Below.step (Below.step (Below.step (Below.step (Below.new (Below.refl _ _) _) HB1.out) HB5.out) (Below.new (Below.refl _ _) _)) HB8.out) HB9.out) HB10.out) HB13.out) (Below.new (Below.refl _ _) _)) HB17.out) HB21.out)
                            clear hK K
                            try simp only [Act.put, List.setIfInBounds_toArray, List.set_cons_zero, List.set_cons_succ]
                            refine wpAnyH_take (i := 22) (oi := ?_) (v := ?_) ?_ (by kernel_rfl) (by kernel_rfl) (by kernel_rfl) ?_ (Or.inl ⟨?_, ?_⟩) (by assumption) ?_
                            rotate_left 2
                            · simp only [List.getElem?_toArray, List.getElem?_cons_succ, List.getElem?_cons_zero] <;> rfl
                            · exact fun _ _ _ h => h
                            · rfl
                            · (intro w hSw; (try dsimp only at hSw); go_simp; try (with_reducible rfl))
                            try simp only [Act.put, List.setIfInBounds_toArray, List.set_cons_zero, List.set_cons_succ]
                            refine wpAnyH_take (i := 23) (oi := ?_) (v := ?_) ?_ (by kernel_rfl) (by kernel_rfl) (by kernel_rfl) ?_ (Or.inl ⟨?_, ?_⟩) (by assumption) ?_
                            rotate_left 2
                            · simp only [List.getElem?_toArray, List.getElem?_cons_succ, List.getElem?_cons_zero] <;> rfl
                            · exact fun _ _ _ h => h
                            · rfl
                            · (intro w hSw; (try dsimp only at hSw); go_simp; try (with_reducible rfl))
                            try simp only [Act.put, List.setIfInBounds_toArray, List.set_cons_zero, List.set_cons_succ]
                            refine wpAnyH_done (by kernel_rfl) ?_ _
                            go_wp2_with fail
                            go_ret
                            exact ⟨rfl, Below.step HLOW.out (Below.step (Below.step (Below.step (Below.step (Below.step (Below.step (Below.step (Below.step (Below.step (Below.step (Below.new (Below.refl _ _) _) HB1.out) HB5.out) (Below.new (Below.refl _ _) _)) HB8.out) HB9.out) HB10.out) HB13.out) (Below.new (Below.refl _ _) _)) HB17.out) HB21.out)⟩
                          exact AllReadyH.nil
                        exact AllReadyH.nil
                      exact AllReadyH.nil
                    exact AllReadyH.nil
                  exact AllReadyH.nil
                exact AllReadyH.nil
              exact AllReadyH.nil
            exact AllReadyH.nil
          exact AllReadyH.nil
        exact AllReadyH.nil
      exact AllReadyH.nil
end Go.Proofs.Ytfffifmpfkkgbaa
