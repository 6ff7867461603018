/- The walk of PurseSmall. -/
import Derived.Test.YtpnddccanelcnaaNil
import Derived.Test.YtpnddccanelcnaaCopies
import Derived.Deep.RegionHeld3
import Derived.Deep.DeepCutAuto
import Derived.Deep.CutBlock
import Derived.BigRegion
namespace Go.Proofs.Ytpnddccanelcnaa
open Go.RowKit Go.Sort
set_option maxRecDepth 100000
set_option maxHeartbeats 8000000

abbrev greatV : Array Value := #[.int .u64 0, .int .u64 1, .int .u64 2, .int .u64 9223372036854775807, .int .u64 9223372036854775808, .int .u64 18446744073709551614, .int .u64 18446744073709551615]
abbrev tickV : Array Value := #[.int .i64 (-9223372036854775808), .int .i64 (-1), .int .i64 0, .int .i64 1, .int .i64 2, .int .i64 3, .int .i64 4, .int .i64 5, .int .i64 9223372036854775807]
theorem great_at (q : Nat) (hq : q < 7) : ∃ x : Int, U x ∧ greatV[q]? = some (.int .u64 x) := by
  match q, hq with
  | 0, _ => exact ⟨0, by unfold U; omega, rfl⟩
  | 1, _ => exact ⟨1, by unfold U; omega, rfl⟩
  | 2, _ => exact ⟨2, by unfold U; omega, rfl⟩
  | 3, _ => exact ⟨9223372036854775807, by unfold U; omega, rfl⟩
  | 4, _ => exact ⟨9223372036854775808, by unfold U; omega, rfl⟩
  | 5, _ => exact ⟨18446744073709551614, by unfold U; omega, rfl⟩
  | 6, _ => exact ⟨18446744073709551615, by unfold U; omega, rfl⟩
theorem tick_at (q : Nat) (hq : q < 9) : ∃ x : Int, tickV[q]? = some (.int .i64 x) := by
  match q, hq with
  | 0, _ => exact ⟨_, rfl⟩
  | 1, _ => exact ⟨_, rfl⟩
  | 2, _ => exact ⟨_, rfl⟩
  | 3, _ => exact ⟨_, rfl⟩
  | 4, _ => exact ⟨_, rfl⟩
  | 5, _ => exact ⟨_, rfl⟩
  | 6, _ => exact ⟨_, rfl⟩
  | 7, _ => exact ⟨_, rfl⟩
  | 8, _ => exact ⟨_, rfl⟩
theorem tick_cell (W : World) (q : Nat) (hq : q < 9) : ∃ x : Int, (W.alloc (.cells #[.int .i64 (-9223372036854775808), .int .i64 (-1), .int .i64 0, .int .i64 1, .int .i64 2, .int .i64 3, .int .i64 4, .int .i64 5, .int .i64 9223372036854775807] 3)).cell? ⟨W.heap.size, q, none⟩ = some (.int .i64 x) := by
  obtain ⟨x, hx⟩ := tick_at q hq
  exact ⟨x, ((Fresh.new W W.heap.size tickV 3 rfl).cell q).trans hx⟩
/-- The tickets as the walk reads them: by the list's own look-up (the cell of the array's world is turned to it). -/
theorem tick_list (q : Nat) (hq : q < 9) : ∃ x : Int, [Value.int .i64 (-9223372036854775808), Value.int .i64 (-1), Value.int .i64 0, Value.int .i64 1, Value.int .i64 2, Value.int .i64 3, Value.int .i64 4, Value.int .i64 5, Value.int .i64 9223372036854775807][q]? = some (.int .i64 x) := by
  obtain ⟨x, hx⟩ := tick_at q hq
  exact ⟨x, by simpa using hx⟩
def LimAt (w : World) (y : Nat) (wx : World) : Prop := ∃ X Y : Int, U X ∧ U Y ∧ Fresh wx y #[.int .u64 X, .int .u64 Y] 24 ∧ Below w.heap.size w wx
def DeedC (w : World) (p a m q : Nat) (N : Int) (s : Pu) (r : Rp) (v c : Value) (wx : World) : Prop := ∃ (d : Nat) (C T X Y : Int), c = .pointer (some ⟨d, 0, none⟩) ∧ U X ∧ U Y ∧ Fresh wx d (dcells C T X Y) TD ∧ q ≠ d ∧ w.heap.size ≤ d ∧ Pair w p a m q N s r v wx
def DeedAt (w : World) (p a m q d : Nat) (N : Int) (s : Pu) (r : Rp) (v : Value) (wx : World) : Prop := ∃ C T X Y : Int, U X ∧ U Y ∧ Fresh wx d (dcells C T X Y) TD ∧ Pair w p a m q N s r v wx

theorem At.setD {W : World} {p a m d : Nat} {s : Pu} {cs : Array Value} (h : At W p a m s) (hf : Fresh W d cs TD) (i : Nat) (v : Value) : At (W.setCell ⟨d, i, none⟩ v) p a m s := by
  have n1 : p ≠ d := by
    rintro rfl
    have h1 := h.hp
    unfold Fresh at hf h1
    rw [hf] at h1
    simp at h1
    exact absurd h1.2 (by decide)
  have n2 : a ≠ d := by
    rintro rfl
    have h1 := h.ha
    unfold Fresh at hf h1
    rw [hf] at h1
    simp at h1
    exact absurd h1.2 (by decide)
  have n3 : m ≠ d := by
    rintro rfl
    obtain ⟨es, c, hb, _⟩ := h.hm
    unfold Fresh at hf
    rw [hf] at hb
    cases hb
  exact ⟨h.hp.other n1 i v, h.ha.other n2 i v, by
    obtain ⟨es, c, hb, hi⟩ := h.hm
    exact ⟨es, c, (Below.heap_setCell W ⟨d, i, none⟩ v m n3).trans hb, hi⟩⟩
theorem Row.setD {W : World} {B d : Nat} {v : Value} {l : List Tq} {cs : Array Value} (h : Row W B v l) (hf : Fresh W d cs TD) (i : Nat) (u : Value) : Row (W.setCell ⟨d, i, none⟩ u) B v l :=
  h.stays fun g e => Below.heap_setCell W ⟨d, i, none⟩ u g (by rintro rfl; exact h.apart hf (by decide) e)
theorem Pair.setD {w W : World} {p a m q d : Nat} {N : Int} {s : Pu} {r : Rp} {v : Value} {cs : Array Value} (h : Pair w p a m q N s r v W) (hf : Fresh W d cs TD) (hq : q ≠ d) (hd : w.heap.size ≤ d) (i : Nat) (u : Value) : Pair w p a m q N s r v (W.setCell ⟨d, i, none⟩ u) :=
  ⟨Below.setCell h.low hd _, h.ok, h.rel, h.len, h.at'.setD hf i u, h.box.other hq i u, h.row.setD hf i u⟩
theorem deedC_of {w W : World} {p a m q n' : Nat} {N : Int} {s : Pu} {r : Rp} {v : Value} (hP : Pair w p a m q N s r v W) {C T X Y : Int} (hX : 0 ≤ X ∧ X < 100) (hY : 0 ≤ Y ∧ Y < 100) (hn' : n' = W.heap.size) :
    DeedC w p a m q N s r v (.pointer (some ⟨n', 0, none⟩)) (W.alloc (.cells (dcells C T X Y) TD)) := by
  subst hn'
  exact
  ⟨W.heap.size, C, T, X, Y, rfl, ⟨hX.1, by omega⟩, ⟨hY.1, by omega⟩, Fresh.new _ _ _ _ rfl, Nat.ne_of_lt hP.box.lt, hP.low.size, hP.below (Below.new (Below.refl _ _) _)⟩
theorem purseSmall_walk (w : World) : Calls Try.prog 5 #[] w fun e w' => e = .returned (.bool true) ∧ Below w.heap.size w w' := by
  obtain ⟨w1, hw1⟩ : ∃ w1, w1 = w.alloc (.cells greatV 22) := ⟨_, rfl⟩
  have HB1 : Hid (Below w.heap.size w w1) := by show Below _ _ _; rw [hw1]; exact Below.new (Below.refl _ _) _
  have HG1 : Hid (Fresh w1 w.heap.size greatV 22) := by show Fresh _ _ _ _; rw [hw1]; exact Fresh.new _ _ _ _ rfl
  have HEQ := Lib.hid hw1
  clear hw1
  obtain ⟨g, hg⟩ : ∃ g, g = w.heap.size := ⟨_, rfl⟩
  have HGE := Lib.hid hg
  rw [← hg] at HG1
  have HGL : Hid (g < w1.heap.size) := HG1.out.lt
  clear hg
  go_enter Try.func5, Try.ntmps5
  go_upto_region 2 with fail
  change Code.wp _ _ _ _ (w.alloc (.cells greatV 22))
  rw [← HEQ.out, ← HGE.out]
  go_wp2_with fail
  go_loopw [2] (fun nv wr => ∃ n : Nat, n ≤ 49 ∧ nv = .int .i64 n ∧ Below w1.heap.size w1 wr) (fun nv _ => 49 - (intOf nv).toNat)
  case atStart => exact ⟨0, by omega, rfl, Below.refl _ _⟩
  case round =>
    obtain ⟨n, hn, rfl, hL⟩ := hrel
    have HL := Lib.hid hL
    clear hL
    obtain ⟨wo, hwo⟩ : ∃ wo, wo = wr := ⟨_, rfl⟩
    rw [← hwo] at HL ⊢
    clear hwo
    have n0 : (0 : Int) ≤ (n : Int) := Int.natCast_nonneg _
    by_cases hlt : n < 49
    · focus
        have n1 : (n : Int) < 49 := by omega
        have HN := Lib.hid hlt
        clear hlt hn
        go_wp2_with fail
        go_loopw [3] (fun kv wr => ∃ k : Nat, k ≤ 2 ∧ kv = .int .i64 k ∧ Below w1.heap.size w1 wr) (fun kv _ => 2 - (intOf kv).toNat)
        case atStart => exact ⟨0, by omega, rfl, HL.out⟩
        case round =>
          obtain ⟨k, hk, rfl, hL⟩ := hrel
          have HLk := Lib.hid hL
          clear hL
          obtain ⟨wp, hwp⟩ : ∃ wp, wp = wr := ⟨_, rfl⟩
          rw [← hwp] at HLk ⊢
          clear hwp
          by_cases hlk : k < 2
          · have k1 : (k : Int) < 2 := by omega
            have k0 : (0 : Int) ≤ (k : Int) := Int.natCast_nonneg _
            have HK := Lib.hid hlk
            clear hlk hk
            go_upto_region 9 with fail
            obtain ⟨y, hy⟩ : ∃ y, y = wp.heap.size := ⟨_, rfl⟩
            obtain ⟨W3, hW3⟩ : ∃ W, W = wp.alloc (.cells #[.int .u64 ((n : Int) % 4), .int .u64 ((n : Int) / 4 % 4)] 24) := ⟨_, rfl⟩
            rw [← hW3, ← hy]
            have B3 : Hid (Below w1.heap.size w1 W3) := by show Below _ _ _; rw [hW3]; exact Below.new HLk.out _
            have F3 : Hid (Fresh W3 y #[.int .u64 ((n : Int) % 4), .int .u64 ((n : Int) / 4 % 4)] 24) := by show Fresh _ _ _ _; rw [hW3]; exact Fresh.new _ _ _ _ hy.symm
            have HY : Hid (w1.heap.size ≤ y) := by show _ ≤ _; rw [hy]; exact HLk.out.size
            have UN : Hid (U ((n : Int) % 4) ∧ U ((n : Int) / 4 % 4)) := by unfold U; show _ ∧ _; omega
            clear hW3 hy
            go_upto_if 35 with fail
            go_cut [] (fun wx => LimAt w1 y wx)
            case first =>
              as_aux_lemma =>
                by_cases hk1 : k = 1
                · have q1 : ((k : Int) == 1) = true := by simp [hk1]
                  obtain ⟨a, ha, ha7⟩ : ∃ a : Nat, a = n % 7 ∧ a < 7 := ⟨_, rfl, by omega⟩
                  obtain ⟨b, hb, hb7⟩ : ∃ b : Nat, b = n / 7 ∧ b < 7 := ⟨_, rfl, by have := HN.out; omega⟩
                  obtain ⟨X, uX, cX⟩ := great_at a ha7
                  obtain ⟨Y, uY, cY⟩ := great_at b hb7
                  have gF := HG1.out.below B3.out
                  have gX := gF.cell a
                  have gY := gF.cell b
                  rw [cX] at gX
                  rw [cY] at gY
                  have t1 : (n : Int).tmod 7 = (a : Int) := by rw [Int.tmod_eq_emod_of_nonneg n0, ha]; simp
                  have t2 : (n : Int).tdiv 7 = (b : Int) := by rw [Int.tdiv_eq_ediv_of_nonneg n0, hb]; simp
                  have t3 : IntKind.i64.wrap (a : Int) = (a : Int) := IntWalk.i64_in _ (by omega)
                  have t4 : IntKind.i64.wrap (b : Int) = (b : Int) := IntWalk.i64_in _ (by omega)
                  have t5 : (a : Int) < 7 := by omega
                  have t6 : (b : Int) < 7 := by omega
                  have t7 : (0 : Int) ≤ (a : Int) := by omega
                  have t8 : (0 : Int) ≤ (b : Int) := by omega
                  have x0 := F3.out.cell 0
                  have x1 := F3.out.cell 1
                  simp only [List.getElem?_toArray, List.getElem?_cons_zero, List.getElem?_cons_succ] at x0 x1
                  have z := fun i => F3.out.thawed i
                  have T := Lib.hid (And.intro t1 t2)
                  have UX := Lib.hid (And.intro uX uY)
                  clear gF cX cY ha hb hk1 t1 t2 uX uY
                  go_wp2_with fail
                  have t1 := T.out.1
                  have t2 := T.out.2
                  go_region
                  clear gX gY t1 t2 x0 x1 z
                  go_wp2_with fail
                  go_meet
                  exact ⟨X, Y, UX.out.1, UX.out.2, ((F3.out.set 0 _).set 1 _).drew, (Below.setCell (Below.setCell B3.out HY.out _) HY.out _).drew⟩
                · have q1 : ((k : Int) == 1) = false := by simp; omega
                  clear hk1
                  go_wp2_with fail
                  go_meet
                  exact ⟨_, _, UN.out.1, UN.out.2, F3.out, B3.out⟩
            case rest =>
              focus
                obtain ⟨X, Y, uX, uY, hF, hB⟩ := hcut
                obtain ⟨W4, hW4⟩ : ∃ W, W = wc := ⟨_, rfl⟩
                rw [← hW4] at hF hB ⊢
                have UX := Lib.hid (And.intro uX uY)
                have HF4 := Lib.hid hF
                have HB4 := Lib.hid hB
                clear uX uY hF hB hW4 B3 F3 HY UN
                have l0 := HF4.out.cell 0
                have l1 := HF4.out.cell 1
                simp only [List.getElem?_toArray, List.getElem?_cons_zero, List.getElem?_cons_succ] at l0 l1
                go_wp2_with fail
                refine (new_any X Y _).mono ?_
                rintro e w2 ⟨p, a, m, hp, ha, hm, rfl, hb2, hat⟩
                have l0 := (HF4.out.below hb2).cell 0
                have l1 := (HF4.out.below hb2).cell 1
                simp only [List.getElem?_toArray, List.getElem?_cons_zero, List.getElem?_cons_succ] at l0 l1
                go_upto_region 13 with fail
                obtain ⟨q, hq⟩ : ∃ q, q = w2.heap.size := ⟨_, rfl⟩
                obtain ⟨W5, hW5⟩ : ∃ W, W = w2.alloc (.cells (rcells ⟨X, Y, 0, 0, []⟩ (.slice none 0 0)) TR) := ⟨_, rfl⟩
                change Code.wp _ _ _ _ (w2.alloc (.cells (rcells ⟨X, Y, 0, 0, []⟩ (.slice none 0 0)) TR))
                rw [← hW5, ← hq]
                have P2 : Hid (Pair w1 p a m q 0 ⟨X, Y, 0, 0, 0, 0, 0, []⟩ ⟨X, Y, 0, 0, []⟩ (.slice none 0 0) W5) := by
                  show Pair _ _ _ _ _ _ _ _ _ _
                  rw [hW5]
                  exact ⟨Below.new (Below.step HB4.out hb2) _, ok_new X Y UX.out.1 UX.out.2, rel_new X Y, by simp, hat.below (Below.new (Below.refl _ _) _), Fresh.new _ _ _ _ hq.symm, Row.nil _⟩
                have HS : Hid (∀ k ∈ [a, m], w1.heap.size ≤ k) := by intro k hk; have := HB4.out.size; simp at hk; rcases hk with rfl | rfl <;> omega
                have HQ : Hid (w1.heap.size ≤ q) := by show _ ≤ _; rw [hq]; exact Nat.le_trans HB4.out.size hb2.size
                clear hW5 hq hp ha hm hb2 hat l0 l1 HB4 HF4
                go_wp2_with fail
                go_loopw [7] (fun iv wr => ∃ (i : Nat) (s : Pu) (r : Rp) (v : Value), i ≤ 60 ∧ iv = .int .i64 i ∧ Pair w1 p a m q i s r v wr) (fun iv _ => 60 - (intOf iv).toNat)
                case atStart => exact ⟨0, _, _, _, by omega, rfl, P2.out⟩
                case round =>
                  obtain ⟨i, s, r, v, hi, rfl, hP⟩ := hrel
                  have HP := Lib.hid hP
                  clear hP P2
                  by_cases hli : i < 60
                  · have i1 : (i : Int) < 60 := by omega
                    have i0 : (0 : Int) ≤ (i : Int) := Int.natCast_nonneg _
                    have HI := Lib.hid hli
                    obtain ⟨va, vn, vc, rfl⟩ := HP.out.row.form
                    obtain ⟨c9, hc9, h9⟩ : ∃ c : Nat, c = i % 9 ∧ c < 9 := ⟨_, rfl, by omega⟩
                    obtain ⟨tk, hcl⟩ := tick_list c9 h9
                    have hm9 : (i : Int) % 9 = (c9 : Int) := by rw [hc9]; simp
                    have hm9' : (c9 : Int) < 9 := by omega
                    have hm9'' : (0 : Int) ≤ (c9 : Int) := by omega
                    clear hc9 h9 hli
                    go_upto_region 16 with fail
                    go_cut [8] (fun c wx => DeedC w1 p a m q i s r (.slice va vn vc) c wx)
                    case first =>
                      focus
                        go_wp2_with fail
                        go_meet
                        exact deedC_of (HP.out.below (Below.new (Below.refl _ _) _)) (by omega) (by omega) (by simp)
                    case rest =>
                      obtain ⟨d, C, tk', X0, Y0, rfl, uX0, uY0, hD, hqd, hdw, hP⟩ := hcut
                      obtain ⟨W6, hW6⟩ : ∃ W, W = wc := ⟨_, rfl⟩
                      rw [← hW6] at hD hP ⊢
                      have D6 := Lib.hid hD
                      have P6 := Lib.hid hP
                      have UN : Hid (U X0 ∧ U Y0) := ⟨uX0, uY0⟩
                      have HDQ : Hid (q ≠ d ∧ w1.heap.size ≤ d) := ⟨hqd, hdw⟩
                      clear hW6 hD hP uX0 uY0 hqd hdw hm9 hm9' hm9'' hcl HP
                      by_cases hk1 : k = 1
                      · as_aux_lemma =>
                          have q1 : ((k : Int) == 1) = true := by simp [hk1]
                          obtain ⟨a', ha, ha7⟩ : ∃ a' : Nat, a' = (i + n) % 7 ∧ a' < 7 := ⟨_, rfl, by omega⟩
                          obtain ⟨b', hb, hb7⟩ : ∃ b' : Nat, b' = (i * 3 + n) % 7 ∧ b' < 7 := ⟨_, rfl, by omega⟩
                          obtain ⟨X', uX, cX⟩ := great_at a' ha7
                          obtain ⟨Y', uY, cY⟩ := great_at b' hb7
                          have gF := HG1.out.below P6.out.low
                          have gX := gF.cell a'
                          have gY := gF.cell b'
                          rw [cX] at gX
                          rw [cY] at gY
                          have gY' : (W6.setCell ⟨d, 2, none⟩ (.int .u64 X')).cell? ⟨g, b', none⟩ = some (.int .u64 Y') := by
                            have := (gF.other (show g ≠ d by have := HDQ.out.2; have := HGL.out; omega) 2 (.int .u64 X')).cell b'
                            rw [cY] at this
                            exact this
                          have t1 : ((i : Int) + (n : Int)) % 7 = (a' : Int) := by rw [ha]; simp
                          have t2 : ((i : Int) * 3 + (n : Int)) % 7 = (b' : Int) := by rw [hb]; simp
                          have t5 : (a' : Int) < 7 := by omega
                          have t6 : (b' : Int) < 7 := by omega
                          have t7 : (0 : Int) ≤ (a' : Int) := by omega
                          have t8 : (0 : Int) ≤ (b' : Int) := by omega
                          have x2 := D6.out.cell 2
                          have x3 := (D6.out.set 2 (.int .u64 X')).cell 3
                          have x3' := D6.out.cell 3
                          simp only [List.setIfInBounds_toArray, List.set_cons_zero, List.set_cons_succ, List.getElem?_toArray, List.getElem?_cons_zero, List.getElem?_cons_succ] at x2 x3 x3'
                          have z := fun j => D6.out.thawed j
                          have z' := fun j => (D6.out.set 2 (.int .u64 X')).thawed j
                          have UX2 := Lib.hid (And.intro uX uY)
                          clear gF cX cY ha hb hk1 uX uY
                          go_upto_region 20 with fail
                          obtain ⟨W7, hW7⟩ : ∃ W, W = (W6.setCell ⟨d, 2, none⟩ (.int .u64 X')).setCell ⟨d, 3, none⟩ (.int .u64 Y') := ⟨_, rfl⟩
                          rw [← hW7]
                          obtain ⟨C', hC⟩ : ∃ C', C' = C := ⟨_, rfl⟩
                          obtain ⟨T, hT⟩ : ∃ T, T = tk' := ⟨_, rfl⟩
                          rw [← hC] at D6
                          rw [← hT] at D6
                          have HD7 : Hid (Fresh W7 d (dcells C' T X' Y') TD) := by show Fresh _ _ _ _; rw [hW7]; exact (D6.out.set 2 _).set 3 _
                          have HP7 : Hid (Pair w1 p a m q i s r (.slice va vn vc) W7) := by show Pair _ _ _ _ _ _ _ _ _ _; rw [hW7]; exact (P6.out.setD D6.out HDQ.out.1 HDQ.out.2 2 _).setD (D6.out.set 2 _) HDQ.out.1 HDQ.out.2 3 _
                          clear hW7 D6 P6 UN gX gY gY' x2 x3 x3' z z' t1 t2 t5 t6 t7 t8 hC hT q1
                          have HDo : Hid (∃ s', s'.Ok (i + 1) ∧ DoesOf p a m s s' r (.slice va vn vc) C' T X' Y') := does_of (q := q) (W := W7) ⟨HP7.out.ok, HP7.out.rel, HP7.out.len, HP7.out.at', HP7.out.box, HP7.out.row⟩ (by omega) C' T X' Y' UX2.out.1 UX2.out.2
                          obtain ⟨s', hok, hdo⟩ := HDo.out
                          have HOK := Lib.hid hok
                          have HDO := Lib.hid hdo
                          clear hok hdo HDo
                          obtain ⟨c0, c1, c2, c3, c4⟩ := rcells_at HP7.out.box
                          have e0 := HD7.out.cell 0
                          have e1 := HD7.out.cell 1
                          have e2 := HD7.out.cell 2
                          have e3 := HD7.out.cell 3
                          simp only [List.getElem?_toArray, List.getElem?_cons_zero, List.getElem?_cons_succ] at e0 e1 e2 e3
                          have HNE := Lib.hid (HP7.out.at'.ne HP7.out.box).2
                          go_wp2_with fail
                          refine (HDO.out _ HP7.out.at' HP7.out.row).mono ?_
                          rintro e w5 ⟨r', hr1, hr2, v', rfl, ht5, hA5, hR5⟩
                          obtain ⟨xa, xn, xc, rfl⟩ := hR5.form
                          have X5 := Lib.hid (ht5.other HP7.out.box (by simp; exact HNE.out))
                          have L5 := Lib.hid (ht5.below HP7.out.low HS.out HP7.out.low.size)
                          have HRL := Lib.hid hr1
                          have HLE := Lib.hid hr2
                          have A5 := Lib.hid hA5
                          have R5 := Lib.hid hR5
                          clear c0 c1 c2 c3 c4 e0 e1 e2 e3 hr1 hr2 hA5 hR5 ht5
                          go_upto_region 21 with fail
                          obtain ⟨z, hz⟩ : ∃ z, z = w5.heap.size := ⟨_, rfl⟩
                          obtain ⟨W8, hW8⟩ : ∃ W, W = w5.alloc (.cells (rcells r' (.slice xa xn xc)) TR) := ⟨_, rfl⟩
                          change Code.wp _ _ _ _ (w5.alloc (.cells (rcells r' (.slice xa xn xc)) TR))
                          rw [← hW8, ← hz]
                          have Z6 : Hid (Fresh W8 z (rcells r' (.slice xa xn xc)) TR) := by show Fresh _ _ _ _; rw [hW8]; exact Fresh.new _ _ _ _ hz.symm
                          have X6 : Hid (Fresh W8 q (rcells r (.slice va vn vc)) TR) := by show Fresh _ _ _ _; rw [hW8]; exact X5.out.alloc _
                          have A6 : Hid (At W8 p a m s') := by show At _ _ _ _ _; rw [hW8]; exact A5.out.below (Below.new (Below.refl _ _) _)
                          have R6 : Hid (Row W8 0 (.slice xa xn xc) r'.l) := by show Row _ _ _ _; rw [hW8]; exact R5.out.below (Below.new (Below.refl _ _) _)
                          have L6 : Hid (Below w1.heap.size w1 W8) := by show Below _ _ _; rw [hW8]; exact Below.new L5.out _
                          clear hz hW8 X5 A5 R5 L5
                          obtain ⟨c0, c1, c2, c3, c4⟩ := rcells_at Z6.out
                          obtain ⟨d0, d1, d2, d3, d4⟩ := rcells_at X6.out
                          have z1 := fun j => X6.out.thawed j
                          go_upto_region 22 with fail
                          clear c0 c1 c2 c3 c4 d0 d1 d2 d3 d4 z1
                          obtain ⟨W9, hW9⟩ : ∃ W, W = set5 W8 q r' (.slice xa xn xc) := ⟨_, rfl⟩
                          change Code.wp _ _ _ _ (set5 W8 q r' (.slice xa xn xc))
                          rw [← hW9]
                          have P9 : Hid (Pair w1 p a m q (i + 1) s' r' (.slice xa xn xc) W9) := by
                            show Pair _ _ _ _ _ _ _ _ _ _
                            rw [hW9]
                            exact ⟨set5_below L6.out HQ.out r' _, HOK.out, HRL.out, by have := HLE.out; have := HP7.out.len; omega, A6.out.set5 X6.out r' _, set5_fresh X6.out r' _, R6.out.set5' X6.out r' _⟩
                          clear hW9
                          obtain ⟨c0, c1, c2, c3, c4⟩ := rcells_at P9.out.box
                          go_wp2_with fail
                          refine (looks_any P9.out.at' P9.out.ok P9.out.rel P9.out.row (by have := P9.out.len; omega)).mono ?_
                          rintro e wA ⟨rfl, hbA⟩
                          have PA := Lib.hid (P9.out.below hbA)
                          clear hbA c0 c1 c2 c3 c4
                          go_wp2_with fail
                          go_roundw
                          case rel => exact ⟨i + 1, s', r', .slice xa xn xc, by have := HI.out; omega, by go_num, by rw [show ((i + 1 : Nat) : Int) = (i : Int) + 1 from by omega]; exact PA.out⟩
                          case measure => have := HI.out; simp [intOf]; omega
                      · as_aux_lemma =>
                          have q1 : ((k : Int) == 1) = false := by simp; omega
                          clear hk1
                          go_upto_region 20 with fail
                          obtain ⟨W7, hW7⟩ : ∃ W, W = W6 := ⟨_, rfl⟩
                          rw [← hW7]
                          obtain ⟨C', hC⟩ : ∃ C', C' = C := ⟨_, rfl⟩
                          obtain ⟨T, hT⟩ : ∃ T, T = tk' := ⟨_, rfl⟩
                          obtain ⟨X', hX'⟩ : ∃ X', X' = X0 := ⟨_, rfl⟩
                          obtain ⟨Y', hY'⟩ : ∃ Y', Y' = Y0 := ⟨_, rfl⟩
                          rw [← hC, ← hT, ← hX', ← hY'] at D6
                          have UX2 : Hid (U X' ∧ U Y') := by show _ ∧ _; rw [hX', hY']; exact UN.out
                          have HD7 : Hid (Fresh W7 d (dcells C' T X' Y') TD) := by show Fresh _ _ _ _; rw [hW7]; exact D6.out
                          have HP7 : Hid (Pair w1 p a m q i s r (.slice va vn vc) W7) := by show Pair _ _ _ _ _ _ _ _ _ _; rw [hW7]; exact P6.out
                          clear hW7 D6 P6 UN q1 hC hT hX' hY'
                          have HDo : Hid (∃ s', s'.Ok (i + 1) ∧ DoesOf p a m s s' r (.slice va vn vc) C' T X' Y') := does_of (q := q) (W := W7) ⟨HP7.out.ok, HP7.out.rel, HP7.out.len, HP7.out.at', HP7.out.box, HP7.out.row⟩ (by omega) C' T X' Y' UX2.out.1 UX2.out.2
                          obtain ⟨s', hok, hdo⟩ := HDo.out
                          have HOK := Lib.hid hok
                          have HDO := Lib.hid hdo
                          clear hok hdo HDo
                          obtain ⟨c0, c1, c2, c3, c4⟩ := rcells_at HP7.out.box
                          have e0 := HD7.out.cell 0
                          have e1 := HD7.out.cell 1
                          have e2 := HD7.out.cell 2
                          have e3 := HD7.out.cell 3
                          simp only [List.getElem?_toArray, List.getElem?_cons_zero, List.getElem?_cons_succ] at e0 e1 e2 e3
                          have HNE := Lib.hid (HP7.out.at'.ne HP7.out.box).2
                          go_wp2_with fail
                          refine (HDO.out _ HP7.out.at' HP7.out.row).mono ?_
                          rintro e w5 ⟨r', hr1, hr2, v', rfl, ht5, hA5, hR5⟩
                          obtain ⟨xa, xn, xc, rfl⟩ := hR5.form
                          have X5 := Lib.hid (ht5.other HP7.out.box (by simp; exact HNE.out))
                          have L5 := Lib.hid (ht5.below HP7.out.low HS.out HP7.out.low.size)
                          have HRL := Lib.hid hr1
                          have HLE := Lib.hid hr2
                          have A5 := Lib.hid hA5
                          have R5 := Lib.hid hR5
                          clear c0 c1 c2 c3 c4 e0 e1 e2 e3 hr1 hr2 hA5 hR5 ht5
                          go_upto_region 21 with fail
                          obtain ⟨z, hz⟩ : ∃ z, z = w5.heap.size := ⟨_, rfl⟩
                          obtain ⟨W8, hW8⟩ : ∃ W, W = w5.alloc (.cells (rcells r' (.slice xa xn xc)) TR) := ⟨_, rfl⟩
                          change Code.wp _ _ _ _ (w5.alloc (.cells (rcells r' (.slice xa xn xc)) TR))
                          rw [← hW8, ← hz]
                          have Z6 : Hid (Fresh W8 z (rcells r' (.slice xa xn xc)) TR) := by show Fresh _ _ _ _; rw [hW8]; exact Fresh.new _ _ _ _ hz.symm
                          have X6 : Hid (Fresh W8 q (rcells r (.slice va vn vc)) TR) := by show Fresh _ _ _ _; rw [hW8]; exact X5.out.alloc _
                          have A6 : Hid (At W8 p a m s') := by show At _ _ _ _ _; rw [hW8]; exact A5.out.below (Below.new (Below.refl _ _) _)
                          have R6 : Hid (Row W8 0 (.slice xa xn xc) r'.l) := by show Row _ _ _ _; rw [hW8]; exact R5.out.below (Below.new (Below.refl _ _) _)
                          have L6 : Hid (Below w1.heap.size w1 W8) := by show Below _ _ _; rw [hW8]; exact Below.new L5.out _
                          clear hz hW8 X5 A5 R5 L5
                          obtain ⟨c0, c1, c2, c3, c4⟩ := rcells_at Z6.out
                          obtain ⟨d0, d1, d2, d3, d4⟩ := rcells_at X6.out
                          have z1 := fun j => X6.out.thawed j
                          go_upto_region 22 with fail
                          clear c0 c1 c2 c3 c4 d0 d1 d2 d3 d4 z1
                          obtain ⟨W9, hW9⟩ : ∃ W, W = set5 W8 q r' (.slice xa xn xc) := ⟨_, rfl⟩
                          change Code.wp _ _ _ _ (set5 W8 q r' (.slice xa xn xc))
                          rw [← hW9]
                          have P9 : Hid (Pair w1 p a m q (i + 1) s' r' (.slice xa xn xc) W9) := by
                            show Pair _ _ _ _ _ _ _ _ _ _
                            rw [hW9]
                            exact ⟨set5_below L6.out HQ.out r' _, HOK.out, HRL.out, by have := HLE.out; have := HP7.out.len; omega, A6.out.set5 X6.out r' _, set5_fresh X6.out r' _, R6.out.set5' X6.out r' _⟩
                          clear hW9
                          obtain ⟨c0, c1, c2, c3, c4⟩ := rcells_at P9.out.box
                          go_wp2_with fail
                          refine (looks_any P9.out.at' P9.out.ok P9.out.rel P9.out.row (by have := P9.out.len; omega)).mono ?_
                          rintro e wA ⟨rfl, hbA⟩
                          have PA := Lib.hid (P9.out.below hbA)
                          clear hbA c0 c1 c2 c3 c4
                          go_wp2_with fail
                          go_roundw
                          case rel => exact ⟨i + 1, s', r', .slice xa xn xc, by have := HI.out; omega, by go_num, by rw [show ((i + 1 : Nat) : Int) = (i : Int) + 1 from by omega]; exact PA.out⟩
                          case measure => have := HI.out; simp [intOf]; omega
                  · obtain rfl : i = 60 := by omega
                    go_wp2_with fail
                    go_roundw
                    case rel => exact ⟨k + 1, by have := HK.out; omega, by go_num, HP.out.low⟩
                    case measure => have := HK.out; simp [intOf]; omega
          · obtain rfl : k = 2 := by omega
            go_wp2_with fail
            go_roundw
            case rel => exact ⟨n + 1, by have := HN.out; omega, by go_num, HLk.out⟩
            case measure => have := HN.out; simp [intOf]; omega
    · obtain rfl : n = 49 := by omega
      rw [show ((49 : Nat) : Int) = 49 from rfl]
      as_aux_lemma =>
        go_upto_region 25 with fail
        obtain ⟨z0, hz0⟩ : ∃ z0, z0 = wo.heap.size := ⟨_, rfl⟩
        obtain ⟨W4, hW4⟩ : ∃ W, W = (wo.alloc (.cells #[.pointer none] 44)).alloc (.cells #[.pointer none, .pointer (some ⟨wo.heap.size, 0, none⟩)] 27) := ⟨_, rfl⟩
        rw [← hW4]
        rw [← hz0] at hW4 ⊢
        have F4 : Hid (Fresh W4 z0 #[.pointer none] 44) := by show Fresh _ _ _ _; rw [hW4]; exact (Fresh.new _ _ _ _ hz0.symm).alloc _
        have G4 : Hid (Fresh W4 (z0 + 1) #[.pointer none, .pointer (some ⟨z0, 0, none⟩)] 27) := by show Fresh _ _ _ _; rw [hW4]; exact Fresh.new _ _ _ _ (by rw [hz0]; simp)
        have B4 : Hid (Below w1.heap.size w1 W4) := by show Below _ _ _; rw [hW4]; exact Below.new (Below.new HL.out _) _
        clear hW4 hz0 HL
        go_wp2_with fail
        go_loopw [12] (fun jv wr => ∃ j : Nat, j ≤ 2 ∧ jv = .int .i64 j ∧ Below W4.heap.size W4 wr) (fun jv _ => 2 - (intOf jv).toNat)
        case atStart => exact ⟨0, by omega, rfl, Below.refl _ _⟩
        case round =>
          obtain ⟨j, hj, rfl, hLj⟩ := hrel
          have HJ := Lib.hid hLj
          clear hLj
          by_cases hlj : j < 2
          · have j1 : (j : Int) < 2 := by omega
            have j0 : (0 : Int) ≤ (j : Int) := Int.natCast_nonneg _
            obtain ⟨x, hx, hnil⟩ : ∃ x, wr.cell? ⟨z0 + 1, j, none⟩ = some (.pointer x) ∧ NilP wr x := by
              have hg4 := G4.out.below HJ.out
              have hf4 := F4.out.below HJ.out
              rcases (show j = 0 ∨ j = 1 from by omega) with rfl | rfl
              · exact ⟨none, hg4.cell 0, .inl rfl⟩
              · exact ⟨some ⟨z0, 0, none⟩, hg4.cell 1, .inr ⟨z0, rfl, hf4⟩⟩
            have HX := Lib.hid hnil
            have HI := Lib.hid hlj
            clear hnil hlj hj
            go_wp2_with fail
            refine (nil_res 0 0 HX.out).mono ?_
            rintro e wA ⟨rfl, hbA⟩
            have HXA := Lib.hid (HX.out.below hbA)
            have HBA := Lib.hid (Below.step HJ.out hbA)
            clear hbA hx
            go_upto_region 31 with fail
            have Z8 := Lib.hid (Fresh.new wA wA.heap.size #[.int .u64 0, .int .u64 0] 24 rfl)
            have HX8 := Lib.hid (HXA.out.below (Below.new (Below.refl _ _) (.cells #[.int .u64 0, .int .u64 0] 24)))
            have HB8 := Lib.hid (Below.new HBA.out (.cells #[.int .u64 0, .int .u64 0] 24))
            obtain ⟨W8, hW8⟩ : ∃ W, W = wA.alloc (.cells #[.int .u64 0, .int .u64 0] 24) := ⟨_, rfl⟩
            rw [← hW8] at Z8 HX8 HB8 ⊢
            clear hW8
            have c0 := Z8.out.cell 0
            have c1 := Z8.out.cell 1
            simp only [List.getElem?_toArray, List.getElem?_cons_zero, List.getElem?_cons_succ] at c0 c1
            have g5 := fun d os => cell_regrown c0 d os
            have g6 := fun d os => cell_regrown c1 d os
            have N1 : Hid (∀ d os, NilP (grow (redrawn W8 d) os) x) := fun d os => HX8.out.below (below_regrown _ _ _)
            clear c0 c1
            refine wp_region_quiet_below (by kernel_rfl) (by kernel_rfl) ?_
            repeat (any_goals (first | go_big_quiet_step ((first
              | (go_at_call 19; exact Calls.regrown_of (nil_has (N1.out _ _)))
              | (go_at_call 20; exact Calls.regrown_of (nil_bound (N1.out _ _)))
              | (go_at_call 21; exact Calls.regrown_of (nil_left (N1.out _ _)))
              | (go_at_call 22; exact Calls.regrown_of (nil_open (N1.out _ _)))
              | (go_at_call 15; exact Calls.regrown_of (nil_commit _ (N1.out _ _)))
              | (go_at_call 16; exact Calls.regrown_of (nil_refund _ (N1.out _ _)))
              | (go_at_call 17; exact Calls.regrown_of (nil_take _ _ (N1.out _ _)))
              | (go_at_call 18; exact Calls.regrown_of (nil_pay _ _ (N1.out _ _)))
              | (go_at_call 13; exact Calls.regrown_of (nil_copy (N1.out _ _))))) | quiet_step (fail)))
            refine wpQuiet_nil ?_
            intro w3 hw3
            have hb3 : Below W8.heap.size W8 w3 := by obtain ⟨p, rfl⟩ := hw3; exact below_regrown _ _ _
            have HB9 := Lib.hid (Below.step HB8.out hb3)
            clear hw3 hb3 g5 g6
            go_wp2_with fail
            go_roundw
            case rel => exact ⟨j + 1, by have := HI.out; omega, by go_num, HB9.out⟩
            case measure => have := HI.out; simp [intOf]; omega
          · obtain rfl : j = 2 := by omega
            go_wp2_with fail
            refine (awake_any _).mono ?_
            rintro e w9 ⟨rfl, hb9⟩
            go_wp2_with fail
            go_ret
            exact ⟨rfl, Below.step (Below.step HB1.out B4.out) (Below.step HJ.out hb9 |> fun h => h)⟩

end Go.Proofs.Ytpnddccanelcnaa
