/- NodeGrows. -/
import Derived.Test.YtjaijomkdgoenaaDoorNdGrowA
import Derived.Deep.DeepCutAuto
import Derived.Deep.RegionHeld3
namespace Go.Proofs.YtjaijomkdgoenaaDoor.Nd
open Go.RowKit
open Mn
set_option maxRecDepth 1000000
set_option maxHeartbeats 40000000

/-- The first loop's rounds. -/
structure G1 (W : World) (lb : List UInt8) (n P5 P6 H : Nat) (cv8 cv9 : Value) (wr : World) : Prop where
  ex : ∃ (c : Nat) (T Lo : List En) (b5 : Option Addr) (f5 : Nat) (k5 : Option Addr) (c5 : Nat) (b6 : Option Addr) (f6 : Nat) (k6 : Option Addr) (c6 : Nat), cv8 = .int .i64 (T.length : Int) ∧ cv9 = .int .i64 c ∧ c ≤ n ∧ (∀ x, isIn x T = true → x ∈ lb) ∧ GT T Lo ∧ GS W wr P5 P6 H T Lo b5 f5 k5 c5 b6 f6 k6 c6
/-- The second loop's rounds. -/
structure G2 (W : World) (lb : List UInt8) (n P5 P6 H : Nat) (cv8 cv16 : Value) (wr : World) : Prop where
  ex : ∃ (c : Nat) (T Lo : List En) (b5 : Option Addr) (f5 : Nat) (k5 : Option Addr) (c5 : Nat) (b6 : Option Addr) (f6 : Nat) (k6 : Option Addr) (c6 : Nat), cv8 = .int .i64 (T.length : Int) ∧ cv16 = .int .i64 c ∧ c ≤ n ∧ (∀ x, isIn x T = true → x ∈ lb.drop c) ∧ GT T Lo ∧ GS W wr P5 P6 H T Lo b5 f5 k5 c5 b6 f6 k6 c6
theorem inner2 : innerNo 2 ⟨#[112]⟩ [0, 255] = nb 2 ⟨#[112]⟩ Lo0 := by rw [innerNo_nb]; rfl
theorem grows_any (W : World) (lb : List UInt8) (ao : Option Addr) (cap : Nat) (keep : Bool) (hrm : Rm W) (hb : BR W lb (.slice ao lb.length cap)) :
    Calls Tryd.prog 4 #[.slice ao lb.length cap, .bool keep] W fun e w' => e = .returned (.bool true) ∧ Below W.heap.size W w' := by
  have HRM := Lib.hid (fun w (hb : Below W.heap.size W w) => hrm.on hb)
  have HAw := Lib.hid (awake_any W hrm)
  have HBR := Lib.hid (fun w (hw : Below W.heap.size W w) => hb.below hw)
  obtain ⟨n, hn⟩ : ∃ n, lb.length = n := ⟨_, rfl⟩
  have HN := Lib.hid hn
  rw [hn] at HBR ⊢
  clear hn hb
  by_cases h256 : 256 < n
  · have d1 : decide (256 < (n : Int)) = true := decide_eq_true (by omega)
    have d2 : (256 : Int) < (n : Int) := by omega
    go_enter Tryd.func4, Tryd.ntmps4
    go_wp2_with (go_at_call 5; refine HAw.out.mono ?_; rintro e1 w1 ⟨rfl, hb⟩; have HB1 := Lib.hid hb; clear hb)
    go_ret
    exact ⟨by first | rfl | simp, HB1.out⟩
  have d1 : decide (256 < (n : Int)) = false := decide_eq_false (by omega)
  have d2 : ¬ (256 : Int) < (n : Int) := by omega
  have HI0 : Hid (∀ w, Below W.heap.size W w → Calls Tryd.prog 15 #[.int .i64 5, .string ⟨#[]⟩, .slice none 0 0] w fun e w' => ∃ ka kc, e = .returned (.agg #[.int .i64 5, .string ⟨#[]⟩, .string ⟨#[]⟩, .string ⟨#[]⟩, .slice none 0 0, .slice ka 0 kc]) ∧ Below w.heap.size w w' ∧ NdAt w' (nb 5 ⟨#[]⟩ []) none 0 ka kc) := by
    intro w hb
    have := linner_any 5 ⟨#[]⟩ [] none 0 w (HRM.out _ hb) (BR.nil w) (by decide)
    rw [inner0] at this
    refine this.mono ?_
    rintro e w' ⟨ka, kc, h1, h2, h3⟩
    rw [nb_val (m := 0) rfl] at h1
    exact ⟨ka, kc, h1, h2, h3⟩
  have HI2 : Hid (∀ w, Below W.heap.size W w → Calls Tryd.prog 15 #[.int .i64 2, .string ⟨#[112]⟩, .slice (some ⟨w.heap.size, 0, none⟩) 2 2] (w.alloc (.cells #[.int .u8 0, .int .u8 255] 5)) fun e w' => ∃ ba bc ka kc, e = .returned (.agg #[.int .i64 2, .string ⟨#[]⟩, .string ⟨#[]⟩, .string ⟨#[112]⟩, .slice ba 2 bc, .slice ka 2 kc]) ∧ Below w.heap.size w w' ∧ NdAt w' (nb 2 ⟨#[112]⟩ Lo0) ba bc ka kc) := by
    intro w hb
    have F1 : Fresh (w.alloc (.cells #[.int .u8 0, .int .u8 255] 5)) w.heap.size #[.int .u8 0, .int .u8 255] 5 := Fresh.new _ _ _ _ rfl
    have b1 : BR (w.alloc (.cells #[.int .u8 0, .int .u8 255] 5)) [0, 255] (.slice (some ⟨w.heap.size, 0, none⟩) 2 2) := by
      refine ⟨_, 2, rfl, ?_⟩
      intro j k hj
      refine ⟨_, 0, rfl, F1.lt, ?_⟩
      rw [Nat.zero_add, F1.cell j]
      rcases j with _ | _ | j <;> simp at hj
      all_goals subst hj; rfl
    have := linner_any 2 ⟨#[112]⟩ [0, 255] (some ⟨w.heap.size, 0, none⟩) 2 _ (HRM.out _ (Below.new hb _)) b1 (by decide)
    rw [inner2] at this
    refine this.mono ?_
    rintro e w' ⟨ka, kc, h1, h2, h3⟩
    rw [nb_val (m := 2) rfl] at h1
    exact ⟨_, _, ka, kc, h1, Below.step (Below.new (Below.refl _ _) _) h2, h3⟩
  go_enter Tryd.func4, Tryd.ntmps4
  go_upto_region 5 with ((go_at_call 5; refine HAw.out.mono ?_; rintro e1 w1 ⟨rfl, hb⟩; have HB1 := Lib.hid hb; clear hb))
  go_upto_region 6 with ((go_at_call 15; refine (HI0.out _ HB1.out).mono ?_; rintro e2 w2 ⟨k0, c0, rfl, hb, hn2⟩; have HN2 := Lib.hid hn2; have HB2r := Lib.hid hb; clear hb hn2))
  obtain ⟨P5, hP5⟩ : ∃ P, w2.heap.size = P := ⟨_, rfl⟩
  obtain ⟨W5, hW5⟩ : ∃ W5, W5 = w2.alloc (.cells #[.int .i64 5, .string ⟨#[]⟩, .string ⟨#[]⟩, .string ⟨#[]⟩, .slice none 0 0, .slice k0 0 c0] 26) := ⟨_, rfl⟩
  have N5 : NBx W5 P5 5 ⟨#[]⟩ [] none 0 0 k0 c0 := by rw [hW5, ← hP5]; exact NBx.new rfl HN2.out
  have B5 : Below W.heap.size W W5 := by rw [hW5]; exact Below.new (Below.step HB1.out HB2r.out) _
  have hP5a : W.heap.size ≤ P5 := by rw [← hP5]; exact (Below.step HB1.out HB2r.out).size
  rw [hP5, ← hW5]
  have HN5 := Lib.hid N5
  have HB5 := Lib.hid B5
  have HP5 := Lib.hid hP5a
  clear hP5 hW5 N5 B5 hP5a HB2r HN2 HI0
  go_upto_region 7 with ((go_at_call 15; refine (HI2.out _ HB5.out).mono ?_; rintro e3 w3 ⟨b1, f1, k1, c1, rfl, hb, hn3⟩; have HN3 := Lib.hid hn3; have HB3r := Lib.hid hb; clear hb hn3))
  obtain ⟨P6, hP6⟩ : ∃ P, w3.heap.size = P := ⟨_, rfl⟩
  obtain ⟨W6, hW6⟩ : ∃ W6, W6 = w3.alloc (.cells #[.int .i64 2, .string ⟨#[]⟩, .string ⟨#[]⟩, .string ⟨#[112]⟩, .slice b1 2 f1, .slice k1 2 c1] 26) := ⟨_, rfl⟩
  have N6 : NBx W6 P6 2 ⟨#[112]⟩ Lo0 b1 2 f1 k1 c1 := by rw [hW6, ← hP6]; exact NBx.new rfl HN3.out
  have B6 : Below W5.heap.size W5 W6 := by rw [hW6]; exact Below.new HB3r.out _
  have hP6a : P5 < P6 := by rw [← hP6]; have h1 := HB3r.out.size; have h2 := HN5.out.box.lt; omega
  rw [hP6, ← hW6]
  have HN6 := Lib.hid N6
  have HB6 := Lib.hid B6
  have HP6 := Lib.hid hP6a
  clear hP6 hW6 N6 B6 hP6a HB3r HN3
  go_upto_region 8 with fail
  obtain ⟨H, hH⟩ : ∃ H, W6.heap.size = H := ⟨_, rfl⟩
  obtain ⟨W7, hW7⟩ : ∃ W7, W7 = W6.alloc (.cells Tryd.zeroCells43 43) := ⟨_, rfl⟩
  have G0 : GS W W7 P5 P6 H [] Lo0 none 0 k0 c0 b1 f1 k1 c1 := by
    have B7 : Below W6.heap.size W6 W7 := by rw [hW7]; exact Below.new (Below.refl _ _) _
    refine ⟨Below.step HB5.out (Below.step HB6.out B7), (HN5.out.below HB6.out).below B7, HN6.out.below B7, by rw [hW7, ← hH]; exact HB.zero W6, HP5.out, HP6.out, by rw [← hH]; exact HN6.out.box.lt⟩
  have HG0 := Lib.hid G0
  rw [hH, ← hW7]
  clear hH hW7 G0 HN5 HB5 HP5 HN6 HB6 HP6
  have HRMf : Hid (∀ w, Below W.heap.size W w → Rm w) := HRM.out
  have hn256 : (n : Int) ≤ 256 := by omega
  go_wp2_with fail
  go_loopw [8, 9, 10, 11, 12, 13, 14, 15] (fun cv8 cv9 v10 v11 v12 v13 v14 v15 wr => G1 W lb n P5 P6 H cv8 cv9 wr) (fun _ cv _ _ _ _ _ _ _ => n - (intOf cv).toNat)
  case atStart => exact ⟨⟨0, [], Lo0, none, 0, k0, c0, b1, f1, k1, c1, rfl, rfl, Nat.zero_le _, (by intro x hx; cases hx), GT.start, HG0.out⟩⟩
  case round =>
    clear HG0
    obtain ⟨⟨c, T, Lo, b5, f5, k5, c5, b6, f6, k6, c6, rfl, rfl, hcn, hsub, hgt, hG⟩⟩ := hrel
    have HSub := Lib.hid hsub
    have HG := Lib.hid hG
    have HGT := Lib.hid hgt
    clear hsub
    by_cases hab : c < n
    · have cI0 : (0 : Int) ≤ (c : Int) := by omega
      have cI1 : (c : Int) < (n : Int) := by omega
      have jd : decide (c < n) = true := decide_eq_true hab
      obtain ⟨x, hx⟩ : ∃ x, lb[c]? = some x := ⟨_, List.getElem?_eq_getElem (by rw [HN.out]; exact hab)⟩
      obtain ⟨a1, q1, e1, hcb⟩ := HBR.out W (Below.refl _ _)
      obtain ⟨blk, off, hao, hlt, hbc⟩ := hcb c x hx
      cases e1
      subst hao
      have HBy : Hid (∀ w, Below W.heap.size W w → w.cell? ⟨blk, off + c, none⟩ = some (.int .u8 (x.toNat : Int))) := fun w hb => (hb.cell (p := ⟨blk, off + c, none⟩) hlt).trans hbc
      have HX := Lib.hid hx
      have x0 : (0 : Int) ≤ (x.toNat : Int) := by omega
      have x1 : (x.toNat : Int) < 256 := by have := x.toNat_lt; omega
      have hT256 : T.length ≤ 256 := srt_len hgt.ts
      have hL256 : Lo.length ≤ 256 := srt_len hgt.ls
      have tI : (T.length : Int) ≤ 256 := by omega
      have lI : (Lo.length : Int) ≤ 256 := by omega
      have hiR : impR (c : Int) 1 = false := ref_ok (by omega) (by omega)
      have hut := usable_of_anchor hgt.topA
      have hul := usable_of_right hgt.lowR
      clear hx hcb hlt hbc hT256 hL256 HI2
      by_cases hT0 : isIn x T = true
      · have hT := hT0
        have hL : isIn x Lo = true := (hgt.key x).2 (.inr (.inr hT))
        clear hT0
        as_aux_lemma =>
          have hE1 : addE (nb 5 ⟨#[]⟩ T) x (c : Int) 1 true = 8 := nb_add_twice hut hiR hT true
          have hN1 : addN (nb 5 ⟨#[]⟩ T) x (c : Int) 1 true = nb 0 ⟨#[]⟩ [] := by unfold addN; rw [hE1]; exact if_neg (by decide)
          have HA1 : Hid (∀ w, Below wr.heap.size wr w → Calls Tryd.prog 9 #[.agg #[.int .i64 5, .string ⟨#[]⟩, .string ⟨#[]⟩, .string ⟨#[]⟩, .slice b5 T.length f5, .slice k5 T.length c5], .int .u8 (x.toNat : Int), .agg #[.int .i64 (c : Int), .int .u32 1], .bool true] w fun e w' => ∃ ba bc ka kc, e = .returned (.tuple #[.agg #[.int .i64 0, .string ⟨#[]⟩, .string ⟨#[]⟩, .string ⟨#[]⟩, .slice ba 0 bc, .slice ka 0 kc], .int .i64 8]) ∧ Below w.heap.size w w' ∧ NdAt w' (nb 0 ⟨#[]⟩ ([] : List En)) ba bc ka kc) := by
            intro w hb
            have h1 := nbAdd_any rfl (hG.n5.nd.below hb) x (c : Int) 1 true
            rw [hE1, hN1] at h1
            exact h1.mono fun e w' h => mk_nb rfl h
          have HLow := Lib.hid hG.low
          have HRMr : Hid (Rm wr) := HRMf.out _ hG.low
          have KS : Hid (∀ w, Below wr.heap.size wr w → ((w.cell? ⟨P5, 0, none⟩ = some (.int .i64 5) ∧ w.cell? ⟨P5, 1, none⟩ = some (.string ⟨#[]⟩) ∧ w.cell? ⟨P5, 2, none⟩ = some (.string ⟨#[]⟩) ∧ w.cell? ⟨P5, 3, none⟩ = some (.string ⟨#[]⟩) ∧ w.cell? ⟨P5, 4, none⟩ = some (.slice b5 T.length f5) ∧ w.cell? ⟨P5, 5, none⟩ = some (.slice k5 T.length c5)) ∧ w.cell? ⟨blk, off + c, none⟩ = some (.int .u8 (x.toNat : Int)))) := fun w hb => ⟨(hG.n5.below hb).cells.1, HBy.out _ (Below.step HLow.out hb)⟩
          have HHb : Hid (isIn x T = true) := hT
          have HHl : Hid (isIn x Lo = true) := hL
          have HUl := Lib.hid hul
          have HiR := Lib.hid hiR
          clear hG hgt hE1 hN1 hut hul hiR hT hL
          go_upto_region 12 with fail
          go_cut [10, 11] (fun s10 s11 wx => ∃ P ba bc ka kc, s10 = .pointer (some ⟨P, 0, none⟩) ∧ s11 = .int .i64 8 ∧ Below wr.heap.size wr wx ∧ NBx wx P 0 ⟨#[]⟩ ([] : List En) ba 0 bc ka kc)
          case first =>
            refine wp_region_held_drew (S := fun W' => (W'.cell? ⟨P5, 0, none⟩ = some (.int .i64 5) ∧ W'.cell? ⟨P5, 1, none⟩ = some (.string ⟨#[]⟩) ∧ W'.cell? ⟨P5, 2, none⟩ = some (.string ⟨#[]⟩) ∧ W'.cell? ⟨P5, 3, none⟩ = some (.string ⟨#[]⟩) ∧ W'.cell? ⟨P5, 4, none⟩ = some (.slice b5 T.length f5) ∧ W'.cell? ⟨P5, 5, none⟩ = some (.slice k5 T.length c5)) ∧ W'.cell? ⟨blk, off + c, none⟩ = some (.int .u8 (x.toNat : Int))) (by kernel_rfl) ?_ (fun hh => ?_)
            · (try dsimp only)
              exact KS.out _ (Below.refl wr.heap.size wr).drew
            refine wpAnyH_take (i := 0) (oi := ?_) (v := ?_) ?_ (by kernel_rfl) (by kernel_rfl) (by kernel_rfl) ?_ (Or.inl ⟨?_, ?_⟩) (by assumption) ?_
            rotate_left 2
            · simp only [ga, gc] <;> rfl
            · exact fun _ _ _ h => h
            · rfl
            · (intro w hs; (try dsimp only at hs); go_simp; try (with_reducible rfl))
            try simp only [Act.put, na, nc, ns]
            refine wpAnyH_take (i := 1) (oi := ?_) (v := ?_) ?_ (by kernel_rfl) (by kernel_rfl) (by kernel_rfl) ?_ (Or.inl ⟨?_, ?_⟩) (by assumption) ?_
            rotate_left 2
            · simp only [ga, gb, gc] <;> rfl
            · exact fun _ _ _ h => h
            · rfl
            · (intro w hs; (try dsimp only at hs); go_simp; try (with_reducible rfl))
            try simp only [Act.put, na, nc, ns]
            refine wpAnyH_take (i := 2) (oi := ?_) (v := ?_) ?_ (by kernel_rfl) (by kernel_rfl) (by kernel_rfl) ?_ (Or.inl ⟨?_, ?_⟩) (by assumption) ?_
            rotate_left 2
            · simp only [ga, gb, gc] <;> rfl
            · exact fun _ _ _ h => h
            · rfl
            · (intro w hs; (try dsimp only at hs); go_simp; try (with_reducible rfl))
            try simp only [Act.put, na, nc, ns]
            refine wpAnyH_take (i := 3) (oi := ?_) (v := ?_) ?_ (by kernel_rfl) (by kernel_rfl) (by kernel_rfl) ?_ (Or.inl ⟨?_, ?_⟩) (by assumption) ?_
            rotate_left 2
            · simp only [ga, gb, gc] <;> rfl
            · exact fun _ _ _ h => h
            · rfl
            · (intro w hs; (try dsimp only at hs); go_simp; try (with_reducible rfl))
            try simp only [Act.put, na, nc, ns]
            refine wpAnyH_take (i := 4) (oi := ?_) (v := ?_) ?_ (by kernel_rfl) (by kernel_rfl) (by kernel_rfl) ?_ (Or.inl ⟨?_, ?_⟩) (by assumption) ?_
            rotate_left 2
            · simp only [ga, gb, gc] <;> rfl
            · exact fun _ _ _ h => h
            · rfl
            · (intro w hs; (try dsimp only at hs); go_simp; try (with_reducible rfl))
            try simp only [Act.put, na, nc, ns]
            refine wpAnyH_take (i := 5) (oi := ?_) (v := ?_) ?_ (by kernel_rfl) (by kernel_rfl) (by kernel_rfl) ?_ (Or.inl ⟨?_, ?_⟩) (by assumption) ?_
            rotate_left 2
            · simp only [ga, gb, gc] <;> rfl
            · exact fun _ _ _ h => h
            · rfl
            · (intro w hs; (try dsimp only at hs); go_simp; try (with_reducible rfl))
            try simp only [Act.put, na, nc, ns]
            refine wpAnyH_ready (rs := [6, 11]) (by kernel_rfl) (by simp) ?_
            refine AllReadyH.cons (o := _) (by simp only [ga, gb, gc] <;> rfl) (fun K hK => ?_) ?_
            · go_simp
              refine (ref_any (c : Int) _).mono ?_
              rintro e4 w4 ⟨rfl, hb4⟩
              have HB4 := Lib.hid (Below.step (w := wr) ((Below.refl wr.heap.size wr).drew) hb4)
              clear hb4
              go_wp2_with fail
              refine hK.out _ _ ?_ (fun hh => ?_)
              · (try dsimp only)
                exact KS.out _ HB4.out
              clear hK K
              try simp only [Act.put, na, nc, ns]
              refine wpAnyH_ready (rs := [7, 11]) (by kernel_rfl) (by simp) ?_
              refine AllReadyH.cons (o := _) (by simp only [ga, gb, gc] <;> rfl) (fun K hK => ?_) ?_
              · go_simp
                refine (HA1.out _ HB4.out).mono ?_
                rintro e5 w5 ⟨ba5, bc5, ka5, kc5, rfl, hb5, hn5⟩
                have HB5 := Lib.hid (Below.step (w := wr) (HB4.out) hb5)
                have HN5 := Lib.hid hn5
                clear hb5 hn5
                go_wp2_with fail
                refine hK.out _ _ ?_ (fun hh => ?_)
                · (try dsimp only)
                  exact KS.out _ HB5.out
                clear hK K
                try simp only [Act.put, na, nc, ns]
                refine wpAnyH_take (i := 8) (oi := ?_) (v := ?_) ?_ (by kernel_rfl) (by kernel_rfl) (by kernel_rfl) ?_ (Or.inl ⟨?_, ?_⟩) (by assumption) ?_
                rotate_left 2
                · simp only [ga, gb, gc] <;> rfl
                · exact fun _ _ _ h => h
                · rfl
                · (intro w hs; (try dsimp only at hs); go_simp; try (with_reducible rfl))
                try simp only [Act.put, na, nc, ns]
                refine wpAnyH_take (i := 9) (oi := ?_) (v := ?_) ?_ (by kernel_rfl) (by kernel_rfl) (by kernel_rfl) ?_ (Or.inl ⟨?_, ?_⟩) (by assumption) ?_
                rotate_left 2
                · simp only [ga, gb, gc] <;> rfl
                · exact fun _ _ _ h => h
                · rfl
                · (intro w hs; (try dsimp only at hs); go_simp; try (with_reducible rfl))
                try simp only [Act.put, na, nc, ns]
                refine wpAnyH_take (i := 10) (oi := ?_) (v := ?_) ?_ (by kernel_rfl) (by kernel_rfl) (by kernel_rfl) ?_ (Or.inl ⟨?_, ?_⟩) (by assumption) ?_
                rotate_left 2
                · simp only [ga, gb, gc] <;> rfl
                · exact fun _ _ _ h => h
                · rfl
                · (intro w hs; (try dsimp only at hs); go_simp; try (with_reducible rfl))
                try simp only [Act.put, na, nc, ns]
                refine wpAnyH_ready (rs := [11]) (by kernel_rfl) (by simp) ?_
                refine AllReadyH.cons (o := _) (by simp only [ga, gb, gc] <;> rfl) (fun K hK => ?_) ?_
                · go_simp
                  refine hK.out _ _ ?_ (fun hh => ?_)
                  · (try dsimp only)
                    exact KS.out _ (Below.new (HB5.out) _)
                  clear hK K
                  try simp only [Act.put, na, nc, ns]
                  refine wpAnyH_ready (rs := [12]) (by kernel_rfl) (by simp) ?_
                  refine AllReadyH.cons (o := _) (by simp only [ga, gb, gc] <;> rfl) (fun K hK => ?_) ?_
                  · go_simp
                    refine hK.out _ _ ?_ (fun hh => ?_)
                    · (try dsimp only)
                      exact KS.out _ (leaf_new HB5.out (l := ([] : List En)) (m := 0) rfl HN5.out rfl).1
                    clear hK K
                    try simp only [Act.put, na, nc, ns]
                    refine wpAnyH_take (i := 13) (oi := ?_) (v := ?_) ?_ (by kernel_rfl) (by kernel_rfl) (by kernel_rfl) ?_ (Or.inl ⟨?_, ?_⟩) (by assumption) ?_
                    rotate_left 2
                    · simp only [ga, gb, gc] <;> rfl
                    · exact fun _ _ _ h => h
                    · rfl
                    · (intro w hs; (try dsimp only at hs); go_simp; try (with_reducible rfl))
                    try simp only [Act.put, na, nc, ns]
                    refine wpAnyH_done (by kernel_rfl) ?_ _
                    go_wp2_with fail
                    go_meet
                    have h := leaf_new HB5.out (l := ([] : List En)) (m := 0) rfl HN5.out rfl
                    exact ⟨_, _, _, _, _, rfl, rfl, h.1, h.2⟩
                  exact AllReadyH.nil
                exact AllReadyH.nil
              refine AllReadyH.cons (o := _) (by simp only [ga, gb, gc] <;> rfl) (fun K hK => ?_) ?_
              · go_simp
                refine hK.out _ _ ?_ (fun hh => ?_)
                · (try dsimp only)
                  exact KS.out _ (Below.new (HB4.out) _)
                clear hK K
                try simp only [Act.put, na, nc, ns]
                refine wpAnyH_ready (rs := [7]) (by kernel_rfl) (by simp) ?_
                refine AllReadyH.cons (o := _) (by simp only [ga, gb, gc] <;> rfl) (fun K hK => ?_) ?_
                · go_simp
                  refine (HA1.out _ (Below.new (HB4.out) _)).mono ?_
                  rintro e5 w5 ⟨ba5, bc5, ka5, kc5, rfl, hb5, hn5⟩
                  have F5 := (Fresh.new w4 w4.heap.size zeroC 26 rfl).below hb5
                  obtain ⟨⟨z0, z1, z2, z3, z4, z5⟩, q0, q1, q2, q3, q4, q5⟩ := zcells F5
                  have HF5 := Lib.hid (And.intro F5 (HB4.out.size))
                  clear F5
                  have HB5 := Lib.hid (Below.step (w := wr) ((Below.new (HB4.out) _)) hb5)
                  have HN5 := Lib.hid hn5
                  clear hb5 hn5
                  go_wp2_with fail
                  refine hK.out _ _ ?_ (fun hh => ?_)
                  · (try dsimp only)
                    exact KS.out _ HB5.out
                  clear hK K
                  try simp only [Act.put, na, nc, ns]
                  refine wpAnyH_take (i := 8) (oi := ?_) (v := ?_) ?_ (by kernel_rfl) (by kernel_rfl) (by kernel_rfl) ?_ (Or.inl ⟨?_, ?_⟩) (by assumption) ?_
                  rotate_left 2
                  · simp only [ga, gb, gc] <;> rfl
                  · exact fun _ _ _ h => h
                  · rfl
                  · (intro w hs; (try dsimp only at hs); go_simp; try (with_reducible rfl))
                  try simp only [Act.put, na, nc, ns]
                  refine wpAnyH_take (i := 9) (oi := ?_) (v := ?_) ?_ (by kernel_rfl) (by kernel_rfl) (by kernel_rfl) ?_ (Or.inl ⟨?_, ?_⟩) (by assumption) ?_
                  rotate_left 2
                  · simp only [ga, gb, gc] <;> rfl
                  · exact fun _ _ _ h => h
                  · rfl
                  · (intro w hs; (try dsimp only at hs); go_simp; try (with_reducible rfl))
                  try simp only [Act.put, na, nc, ns]
                  refine wpAnyH_take (i := 10) (oi := ?_) (v := ?_) ?_ (by kernel_rfl) (by kernel_rfl) (by kernel_rfl) ?_ (Or.inl ⟨?_, ?_⟩) (by assumption) ?_
                  rotate_left 2
                  · simp only [ga, gb, gc] <;> rfl
                  · exact fun _ _ _ h => h
                  · rfl
                  · (intro w hs; (try dsimp only at hs); go_simp; try (with_reducible rfl))
                  try simp only [Act.put, na, nc, ns]
                  refine wpAnyH_ready (rs := [12]) (by kernel_rfl) (by simp) ?_
                  refine AllReadyH.cons (o := _) (by simp only [ga, gb, gc] <;> rfl) (fun K hK => ?_) ?_
                  · go_simp
                    refine hK.out _ _ ?_ (fun hh => ?_)
                    · (try dsimp only)
                      exact KS.out _ (leaf_fill HB5.out HRMr.out HF5.out.1 HF5.out.2 (l := ([] : List En)) (m := 0) rfl HN5.out rfl).1
                    clear hK K
                    try simp only [Act.put, na, nc, ns]
                    refine wpAnyH_take (i := 13) (oi := ?_) (v := ?_) ?_ (by kernel_rfl) (by kernel_rfl) (by kernel_rfl) ?_ (Or.inl ⟨?_, ?_⟩) (by assumption) ?_
                    rotate_left 2
                    · simp only [ga, gb, gc] <;> rfl
                    · exact fun _ _ _ h => h
                    · rfl
                    · (intro w hs; (try dsimp only at hs); go_simp; try (with_reducible rfl))
                    try simp only [Act.put, na, nc, ns]
                    refine wpAnyH_done (by kernel_rfl) ?_ _
                    go_wp2_with fail
                    go_meet
                    have h := leaf_fill HB5.out HRMr.out HF5.out.1 HF5.out.2 (l := ([] : List En)) (m := 0) rfl HN5.out rfl
                    exact ⟨_, _, _, _, _, rfl, rfl, h.1, h.2⟩
                  exact AllReadyH.nil
                exact AllReadyH.nil
              exact AllReadyH.nil
            refine AllReadyH.cons (o := _) (by simp only [ga, gb, gc] <;> rfl) (fun K hK => ?_) ?_
            · go_simp
              refine hK.out _ _ ?_ (fun hh => ?_)
              · (try dsimp only)
                exact KS.out _ (Below.new ((Below.refl wr.heap.size wr).drew) _)
              clear hK K
              try simp only [Act.put, na, nc, ns]
              refine wpAnyH_ready (rs := [6]) (by kernel_rfl) (by simp) ?_
              refine AllReadyH.cons (o := _) (by simp only [ga, gb, gc] <;> rfl) (fun K hK => ?_) ?_
              · go_simp
                refine (ref_any (c : Int) _).mono ?_
                rintro e4 w4 ⟨rfl, hb4⟩
                have HF4 := Lib.hid ((Fresh.new wr.drew wr.heap.size zeroC 26 rfl).below hb4)
                have HB4 := Lib.hid (Below.step (w := wr) ((Below.new ((Below.refl wr.heap.size wr).drew) _)) hb4)
                clear hb4
                go_wp2_with fail
                refine hK.out _ _ ?_ (fun hh => ?_)
                · (try dsimp only)
                  exact KS.out _ HB4.out
                clear hK K
                try simp only [Act.put, na, nc, ns]
                refine wpAnyH_ready (rs := [7]) (by kernel_rfl) (by simp) ?_
                refine AllReadyH.cons (o := _) (by simp only [ga, gb, gc] <;> rfl) (fun K hK => ?_) ?_
                · go_simp
                  refine (HA1.out _ HB4.out).mono ?_
                  rintro e5 w5 ⟨ba5, bc5, ka5, kc5, rfl, hb5, hn5⟩
                  have F5 := HF4.out.below hb5
                  obtain ⟨⟨z0, z1, z2, z3, z4, z5⟩, q0, q1, q2, q3, q4, q5⟩ := zcells F5
                  have HF5 := Lib.hid (And.intro F5 (Nat.le_refl wr.heap.size))
                  clear F5
                  have HB5 := Lib.hid (Below.step (w := wr) (HB4.out) hb5)
                  have HN5 := Lib.hid hn5
                  clear hb5 hn5
                  go_wp2_with fail
                  refine hK.out _ _ ?_ (fun hh => ?_)
                  · (try dsimp only)
                    exact KS.out _ HB5.out
                  clear hK K
                  try simp only [Act.put, na, nc, ns]
                  refine wpAnyH_take (i := 8) (oi := ?_) (v := ?_) ?_ (by kernel_rfl) (by kernel_rfl) (by kernel_rfl) ?_ (Or.inl ⟨?_, ?_⟩) (by assumption) ?_
                  rotate_left 2
                  · simp only [ga, gb, gc] <;> rfl
                  · exact fun _ _ _ h => h
                  · rfl
                  · (intro w hs; (try dsimp only at hs); go_simp; try (with_reducible rfl))
                  try simp only [Act.put, na, nc, ns]
                  refine wpAnyH_take (i := 9) (oi := ?_) (v := ?_) ?_ (by kernel_rfl) (by kernel_rfl) (by kernel_rfl) ?_ (Or.inl ⟨?_, ?_⟩) (by assumption) ?_
                  rotate_left 2
                  · simp only [ga, gb, gc] <;> rfl
                  · exact fun _ _ _ h => h
                  · rfl
                  · (intro w hs; (try dsimp only at hs); go_simp; try (with_reducible rfl))
                  try simp only [Act.put, na, nc, ns]
                  refine wpAnyH_take (i := 10) (oi := ?_) (v := ?_) ?_ (by kernel_rfl) (by kernel_rfl) (by kernel_rfl) ?_ (Or.inl ⟨?_, ?_⟩) (by assumption) ?_
                  rotate_left 2
                  · simp only [ga, gb, gc] <;> rfl
                  · exact fun _ _ _ h => h
                  · rfl
                  · (intro w hs; (try dsimp only at hs); go_simp; try (with_reducible rfl))
                  try simp only [Act.put, na, nc, ns]
                  refine wpAnyH_ready (rs := [12]) (by kernel_rfl) (by simp) ?_
                  refine AllReadyH.cons (o := _) (by simp only [ga, gb, gc] <;> rfl) (fun K hK => ?_) ?_
                  · go_simp
                    refine hK.out _ _ ?_ (fun hh => ?_)
                    · (try dsimp only)
                      exact KS.out _ (leaf_fill HB5.out HRMr.out HF5.out.1 HF5.out.2 (l := ([] : List En)) (m := 0) rfl HN5.out rfl).1
                    clear hK K
                    try simp only [Act.put, na, nc, ns]
                    refine wpAnyH_take (i := 13) (oi := ?_) (v := ?_) ?_ (by kernel_rfl) (by kernel_rfl) (by kernel_rfl) ?_ (Or.inl ⟨?_, ?_⟩) (by assumption) ?_
                    rotate_left 2
                    · simp only [ga, gb, gc] <;> rfl
                    · exact fun _ _ _ h => h
                    · rfl
                    · (intro w hs; (try dsimp only at hs); go_simp; try (with_reducible rfl))
                    try simp only [Act.put, na, nc, ns]
                    refine wpAnyH_done (by kernel_rfl) ?_ _
                    go_wp2_with fail
                    go_meet
                    have h := leaf_fill HB5.out HRMr.out HF5.out.1 HF5.out.2 (l := ([] : List En)) (m := 0) rfl HN5.out rfl
                    exact ⟨_, _, _, _, _, rfl, rfl, h.1, h.2⟩
                  exact AllReadyH.nil
                exact AllReadyH.nil
              exact AllReadyH.nil
            exact AllReadyH.nil
          case rest =>
            obtain ⟨P10, ba, bc, ka, kc, rfl, rfl, hbx, hn10⟩ := hcut
            have hGx := HG.out.below hbx
            obtain ⟨⟨y0, y1, y2, y3, y4, y5⟩, -⟩ := hn10.cells
            obtain ⟨⟨z0, z1, z2, z3, z4, z5⟩, t0, t1, t2, t3, t4, t5⟩ := hGx.n5.cells
            have bx := HBy.out _ hGx.low
            obtain ⟨hx0, hx1⟩ := hGx.hb.cell x
            rw [HHb.out] at hx0
            have HGx := Lib.hid hGx
            have HN10 := Lib.hid hn10
            clear hbx hGx hn10 HA1 KS HG
            go_upto_region 19 with fail
            have HGy := HGx
            clear y0 y1 y2 y3 y4 y5 z0 z1 z2 z3 z4 z5 t0 t1 t2 t3 t4 t5 bx hx0 hx1
            obtain ⟨V0, hV0⟩ : ∃ V, wc = V := ⟨_, rfl⟩
            rw [hV0] at HGy HN10 ⊢
            clear hV0
            have hGy := HGy.out
            have hE2 : addE (nb (ofK Lo.length).1 ⟨#[112]⟩ Lo) x (c : Int) 1 false = 8 := nb_add_twice HUl.out HiR.out HHl.out false
            have hN2 : addN (nb (ofK Lo.length).1 ⟨#[112]⟩ Lo) x (c : Int) 1 false = nb 0 ⟨#[]⟩ [] := by unfold addN; rw [hE2]; exact if_neg (by decide)
            have HA2 : Hid (∀ w, Below V0.heap.size V0 w → Calls Tryd.prog 9 #[.agg #[.int .i64 (ofK Lo.length).1, .string ⟨#[]⟩, .string ⟨#[]⟩, .string ⟨#[112]⟩, .slice b6 Lo.length f6, .slice k6 Lo.length c6], .int .u8 (x.toNat : Int), .agg #[.int .i64 (c : Int), .int .u32 1], .bool false] w fun e w' => ∃ ba bc ka kc, e = .returned (.tuple #[.agg #[.int .i64 0, .string ⟨#[]⟩, .string ⟨#[]⟩, .string ⟨#[]⟩, .slice ba 0 bc, .slice ka 0 kc], .int .i64 8]) ∧ Below w.heap.size w w' ∧ NdAt w' (nb 0 ⟨#[]⟩ ([] : List En)) ba bc ka kc) := by
              intro w hb
              have h1 := nbAdd_any rfl (hGy.n6.nd.below hb) x (c : Int) 1 false
              rw [hE2, hN2] at h1
              exact h1.mono fun e w' h => mk_nb rfl h
            have HGTz : Hid (GT T Lo) := HGT.out
            have HLy := Lib.hid hGy.low
            have HRMy : Hid (Rm V0) := HRMf.out _ hGy.low
            have KS2 : Hid (∀ w, Below V0.heap.size V0 w → ((w.cell? ⟨P6, 0, none⟩ = some (.int .i64 (ofK Lo.length).1) ∧ w.cell? ⟨P6, 1, none⟩ = some (.string ⟨#[]⟩) ∧ w.cell? ⟨P6, 2, none⟩ = some (.string ⟨#[]⟩) ∧ w.cell? ⟨P6, 3, none⟩ = some (.string ⟨#[112]⟩) ∧ w.cell? ⟨P6, 4, none⟩ = some (.slice b6 Lo.length f6) ∧ w.cell? ⟨P6, 5, none⟩ = some (.slice k6 Lo.length c6)) ∧ w.cell? ⟨blk, off + c, none⟩ = some (.int .u8 (x.toNat : Int)))) := fun w hb => ⟨(hGy.n6.below hb).cells.1, HBy.out _ (Below.step HLy.out hb)⟩
            clear hGy hE2 hN2
            go_cut [12, 13] (fun s12 s13 wx => ∃ P ba bc ka kc, s12 = .pointer (some ⟨P, 0, none⟩) ∧ s13 = .int .i64 8 ∧ Below V0.heap.size V0 wx ∧ NBx wx P 0 ⟨#[]⟩ ([] : List En) ba 0 bc ka kc)
            case first =>
              refine wp_region_held_drew (S := fun W' => (W'.cell? ⟨P6, 0, none⟩ = some (.int .i64 (ofK Lo.length).1) ∧ W'.cell? ⟨P6, 1, none⟩ = some (.string ⟨#[]⟩) ∧ W'.cell? ⟨P6, 2, none⟩ = some (.string ⟨#[]⟩) ∧ W'.cell? ⟨P6, 3, none⟩ = some (.string ⟨#[112]⟩) ∧ W'.cell? ⟨P6, 4, none⟩ = some (.slice b6 Lo.length f6) ∧ W'.cell? ⟨P6, 5, none⟩ = some (.slice k6 Lo.length c6)) ∧ W'.cell? ⟨blk, off + c, none⟩ = some (.int .u8 (x.toNat : Int))) (by kernel_rfl) ?_ (fun hh => ?_)
              · (try dsimp only)
                exact KS2.out _ (Below.refl V0.heap.size V0).drew
              refine wpAnyH_take (i := 0) (oi := ?_) (v := ?_) ?_ (by kernel_rfl) (by kernel_rfl) (by kernel_rfl) ?_ (Or.inl ⟨?_, ?_⟩) (by assumption) ?_
              rotate_left 2
              · simp only [ga, gc] <;> rfl
              · exact fun _ _ _ h => h
              · rfl
              · (intro w hs; (try dsimp only at hs); go_simp; try (with_reducible rfl))
              try simp only [Act.put, na, nc, ns]
              refine wpAnyH_take (i := 1) (oi := ?_) (v := ?_) ?_ (by kernel_rfl) (by kernel_rfl) (by kernel_rfl) ?_ (Or.inl ⟨?_, ?_⟩) (by assumption) ?_
              rotate_left 2
              · simp only [ga, gb, gc] <;> rfl
              · exact fun _ _ _ h => h
              · rfl
              · (intro w hs; (try dsimp only at hs); go_simp; try (with_reducible rfl))
              try simp only [Act.put, na, nc, ns]
              refine wpAnyH_take (i := 2) (oi := ?_) (v := ?_) ?_ (by kernel_rfl) (by kernel_rfl) (by kernel_rfl) ?_ (Or.inl ⟨?_, ?_⟩) (by assumption) ?_
              rotate_left 2
              · simp only [ga, gb, gc] <;> rfl
              · exact fun _ _ _ h => h
              · rfl
              · (intro w hs; (try dsimp only at hs); go_simp; try (with_reducible rfl))
              try simp only [Act.put, na, nc, ns]
              refine wpAnyH_take (i := 3) (oi := ?_) (v := ?_) ?_ (by kernel_rfl) (by kernel_rfl) (by kernel_rfl) ?_ (Or.inl ⟨?_, ?_⟩) (by assumption) ?_
              rotate_left 2
              · simp only [ga, gb, gc] <;> rfl
              · exact fun _ _ _ h => h
              · rfl
              · (intro w hs; (try dsimp only at hs); go_simp; try (with_reducible rfl))
              try simp only [Act.put, na, nc, ns]
              refine wpAnyH_take (i := 4) (oi := ?_) (v := ?_) ?_ (by kernel_rfl) (by kernel_rfl) (by kernel_rfl) ?_ (Or.inl ⟨?_, ?_⟩) (by assumption) ?_
              rotate_left 2
              · simp only [ga, gb, gc] <;> rfl
              · exact fun _ _ _ h => h
              · rfl
              · (intro w hs; (try dsimp only at hs); go_simp; try (with_reducible rfl))
              try simp only [Act.put, na, nc, ns]
              refine wpAnyH_take (i := 5) (oi := ?_) (v := ?_) ?_ (by kernel_rfl) (by kernel_rfl) (by kernel_rfl) ?_ (Or.inl ⟨?_, ?_⟩) (by assumption) ?_
              rotate_left 2
              · simp only [ga, gb, gc] <;> rfl
              · exact fun _ _ _ h => h
              · rfl
              · (intro w hs; (try dsimp only at hs); go_simp; try (with_reducible rfl))
              try simp only [Act.put, na, nc, ns]
              refine wpAnyH_ready (rs := [6, 11]) (by kernel_rfl) (by simp) ?_
              refine AllReadyH.cons (o := _) (by simp only [ga, gb, gc] <;> rfl) (fun K hK => ?_) ?_
              · go_simp
                refine (ref_any (c : Int) _).mono ?_
                rintro e4 w4 ⟨rfl, hb4⟩
                have HB4 := Lib.hid (Below.step (w := V0) ((Below.refl V0.heap.size V0).drew) hb4)
                clear hb4
                go_wp2_with fail
                refine hK.out _ _ ?_ (fun hh => ?_)
                · (try dsimp only)
                  exact KS2.out _ HB4.out
                clear hK K
                try simp only [Act.put, na, nc, ns]
                refine wpAnyH_ready (rs := [7, 11]) (by kernel_rfl) (by simp) ?_
                refine AllReadyH.cons (o := _) (by simp only [ga, gb, gc] <;> rfl) (fun K hK => ?_) ?_
                · go_simp
                  refine (HA2.out _ HB4.out).mono ?_
                  rintro e5 w5 ⟨ba5, bc5, ka5, kc5, rfl, hb5, hn5⟩
                  have HB5 := Lib.hid (Below.step (w := V0) (HB4.out) hb5)
                  have HN5 := Lib.hid hn5
                  clear hb5 hn5
                  go_wp2_with fail
                  refine hK.out _ _ ?_ (fun hh => ?_)
                  · (try dsimp only)
                    exact KS2.out _ HB5.out
                  clear hK K
                  try simp only [Act.put, na, nc, ns]
                  refine wpAnyH_take (i := 8) (oi := ?_) (v := ?_) ?_ (by kernel_rfl) (by kernel_rfl) (by kernel_rfl) ?_ (Or.inl ⟨?_, ?_⟩) (by assumption) ?_
                  rotate_left 2
                  · simp only [ga, gb, gc] <;> rfl
                  · exact fun _ _ _ h => h
                  · rfl
                  · (intro w hs; (try dsimp only at hs); go_simp; try (with_reducible rfl))
                  try simp only [Act.put, na, nc, ns]
                  refine wpAnyH_take (i := 9) (oi := ?_) (v := ?_) ?_ (by kernel_rfl) (by kernel_rfl) (by kernel_rfl) ?_ (Or.inl ⟨?_, ?_⟩) (by assumption) ?_
                  rotate_left 2
                  · simp only [ga, gb, gc] <;> rfl
                  · exact fun _ _ _ h => h
                  · rfl
                  · (intro w hs; (try dsimp only at hs); go_simp; try (with_reducible rfl))
                  try simp only [Act.put, na, nc, ns]
                  refine wpAnyH_take (i := 10) (oi := ?_) (v := ?_) ?_ (by kernel_rfl) (by kernel_rfl) (by kernel_rfl) ?_ (Or.inl ⟨?_, ?_⟩) (by assumption) ?_
                  rotate_left 2
                  · simp only [ga, gb, gc] <;> rfl
                  · exact fun _ _ _ h => h
                  · rfl
                  · (intro w hs; (try dsimp only at hs); go_simp; try (with_reducible rfl))
                  try simp only [Act.put, na, nc, ns]
                  refine wpAnyH_ready (rs := [11]) (by kernel_rfl) (by simp) ?_
                  refine AllReadyH.cons (o := _) (by simp only [ga, gb, gc] <;> rfl) (fun K hK => ?_) ?_
                  · go_simp
                    refine hK.out _ _ ?_ (fun hh => ?_)
                    · (try dsimp only)
                      exact KS2.out _ (Below.new (HB5.out) _)
                    clear hK K
                    try simp only [Act.put, na, nc, ns]
                    refine wpAnyH_ready (rs := [12]) (by kernel_rfl) (by simp) ?_
                    refine AllReadyH.cons (o := _) (by simp only [ga, gb, gc] <;> rfl) (fun K hK => ?_) ?_
                    · go_simp
                      refine hK.out _ _ ?_ (fun hh => ?_)
                      · (try dsimp only)
                        exact KS2.out _ (leaf_new HB5.out (l := ([] : List En)) (m := 0) rfl HN5.out rfl).1
                      clear hK K
                      try simp only [Act.put, na, nc, ns]
                      refine wpAnyH_take (i := 13) (oi := ?_) (v := ?_) ?_ (by kernel_rfl) (by kernel_rfl) (by kernel_rfl) ?_ (Or.inl ⟨?_, ?_⟩) (by assumption) ?_
                      rotate_left 2
                      · simp only [ga, gb, gc] <;> rfl
                      · exact fun _ _ _ h => h
                      · rfl
                      · (intro w hs; (try dsimp only at hs); go_simp; try (with_reducible rfl))
                      try simp only [Act.put, na, nc, ns]
                      refine wpAnyH_done (by kernel_rfl) ?_ _
                      go_wp2_with fail
                      go_meet
                      have h := leaf_new HB5.out (l := ([] : List En)) (m := 0) rfl HN5.out rfl
                      exact ⟨_, _, _, _, _, rfl, rfl, h.1, h.2⟩
                    exact AllReadyH.nil
                  exact AllReadyH.nil
                refine AllReadyH.cons (o := _) (by simp only [ga, gb, gc] <;> rfl) (fun K hK => ?_) ?_
                · go_simp
                  refine hK.out _ _ ?_ (fun hh => ?_)
                  · (try dsimp only)
                    exact KS2.out _ (Below.new (HB4.out) _)
                  clear hK K
                  try simp only [Act.put, na, nc, ns]
                  refine wpAnyH_ready (rs := [7]) (by kernel_rfl) (by simp) ?_
                  refine AllReadyH.cons (o := _) (by simp only [ga, gb, gc] <;> rfl) (fun K hK => ?_) ?_
                  · go_simp
                    refine (HA2.out _ (Below.new (HB4.out) _)).mono ?_
                    rintro e5 w5 ⟨ba5, bc5, ka5, kc5, rfl, hb5, hn5⟩
                    have F5 := (Fresh.new w4 w4.heap.size zeroC 26 rfl).below hb5
                    obtain ⟨⟨z0, z1, z2, z3, z4, z5⟩, q0, q1, q2, q3, q4, q5⟩ := zcells F5
                    have HF5 := Lib.hid (And.intro F5 (HB4.out.size))
                    clear F5
                    have HB5 := Lib.hid (Below.step (w := V0) ((Below.new (HB4.out) _)) hb5)
                    have HN5 := Lib.hid hn5
                    clear hb5 hn5
                    go_wp2_with fail
                    refine hK.out _ _ ?_ (fun hh => ?_)
                    · (try dsimp only)
                      exact KS2.out _ HB5.out
                    clear hK K
                    try simp only [Act.put, na, nc, ns]
                    refine wpAnyH_take (i := 8) (oi := ?_) (v := ?_) ?_ (by kernel_rfl) (by kernel_rfl) (by kernel_rfl) ?_ (Or.inl ⟨?_, ?_⟩) (by assumption) ?_
                    rotate_left 2
                    · simp only [ga, gb, gc] <;> rfl
                    · exact fun _ _ _ h => h
                    · rfl
                    · (intro w hs; (try dsimp only at hs); go_simp; try (with_reducible rfl))
                    try simp only [Act.put, na, nc, ns]
                    refine wpAnyH_take (i := 9) (oi := ?_) (v := ?_) ?_ (by kernel_rfl) (by kernel_rfl) (by kernel_rfl) ?_ (Or.inl ⟨?_, ?_⟩) (by assumption) ?_
                    rotate_left 2
                    · simp only [ga, gb, gc] <;> rfl
                    · exact fun _ _ _ h => h
                    · rfl
                    · (intro w hs; (try dsimp only at hs); go_simp; try (with_reducible rfl))
                    try simp only [Act.put, na, nc, ns]
                    refine wpAnyH_take (i := 10) (oi := ?_) (v := ?_) ?_ (by kernel_rfl) (by kernel_rfl) (by kernel_rfl) ?_ (Or.inl ⟨?_, ?_⟩) (by assumption) ?_
                    rotate_left 2
                    · simp only [ga, gb, gc] <;> rfl
                    · exact fun _ _ _ h => h
                    · rfl
                    · (intro w hs; (try dsimp only at hs); go_simp; try (with_reducible rfl))
                    try simp only [Act.put, na, nc, ns]
                    refine wpAnyH_ready (rs := [12]) (by kernel_rfl) (by simp) ?_
                    refine AllReadyH.cons (o := _) (by simp only [ga, gb, gc] <;> rfl) (fun K hK => ?_) ?_
                    · go_simp
                      refine hK.out _ _ ?_ (fun hh => ?_)
                      · (try dsimp only)
                        exact KS2.out _ (leaf_fill HB5.out HRMy.out HF5.out.1 HF5.out.2 (l := ([] : List En)) (m := 0) rfl HN5.out rfl).1
                      clear hK K
                      try simp only [Act.put, na, nc, ns]
                      refine wpAnyH_take (i := 13) (oi := ?_) (v := ?_) ?_ (by kernel_rfl) (by kernel_rfl) (by kernel_rfl) ?_ (Or.inl ⟨?_, ?_⟩) (by assumption) ?_
                      rotate_left 2
                      · simp only [ga, gb, gc] <;> rfl
                      · exact fun _ _ _ h => h
                      · rfl
                      · (intro w hs; (try dsimp only at hs); go_simp; try (with_reducible rfl))
                      try simp only [Act.put, na, nc, ns]
                      refine wpAnyH_done (by kernel_rfl) ?_ _
                      go_wp2_with fail
                      go_meet
                      have h := leaf_fill HB5.out HRMy.out HF5.out.1 HF5.out.2 (l := ([] : List En)) (m := 0) rfl HN5.out rfl
                      exact ⟨_, _, _, _, _, rfl, rfl, h.1, h.2⟩
                    exact AllReadyH.nil
                  exact AllReadyH.nil
                exact AllReadyH.nil
              refine AllReadyH.cons (o := _) (by simp only [ga, gb, gc] <;> rfl) (fun K hK => ?_) ?_
              · go_simp
                refine hK.out _ _ ?_ (fun hh => ?_)
                · (try dsimp only)
                  exact KS2.out _ (Below.new ((Below.refl V0.heap.size V0).drew) _)
                clear hK K
                try simp only [Act.put, na, nc, ns]
                refine wpAnyH_ready (rs := [6]) (by kernel_rfl) (by simp) ?_
                refine AllReadyH.cons (o := _) (by simp only [ga, gb, gc] <;> rfl) (fun K hK => ?_) ?_
                · go_simp
                  refine (ref_any (c : Int) _).mono ?_
                  rintro e4 w4 ⟨rfl, hb4⟩
                  have HF4 := Lib.hid ((Fresh.new V0.drew V0.heap.size zeroC 26 rfl).below hb4)
                  have HB4 := Lib.hid (Below.step (w := V0) ((Below.new ((Below.refl V0.heap.size V0).drew) _)) hb4)
                  clear hb4
                  go_wp2_with fail
                  refine hK.out _ _ ?_ (fun hh => ?_)
                  · (try dsimp only)
                    exact KS2.out _ HB4.out
                  clear hK K
                  try simp only [Act.put, na, nc, ns]
                  refine wpAnyH_ready (rs := [7]) (by kernel_rfl) (by simp) ?_
                  refine AllReadyH.cons (o := _) (by simp only [ga, gb, gc] <;> rfl) (fun K hK => ?_) ?_
                  · go_simp
                    refine (HA2.out _ HB4.out).mono ?_
                    rintro e5 w5 ⟨ba5, bc5, ka5, kc5, rfl, hb5, hn5⟩
                    have F5 := HF4.out.below hb5
                    obtain ⟨⟨z0, z1, z2, z3, z4, z5⟩, q0, q1, q2, q3, q4, q5⟩ := zcells F5
                    have HF5 := Lib.hid (And.intro F5 (Nat.le_refl V0.heap.size))
                    clear F5
                    have HB5 := Lib.hid (Below.step (w := V0) (HB4.out) hb5)
                    have HN5 := Lib.hid hn5
                    clear hb5 hn5
                    go_wp2_with fail
                    refine hK.out _ _ ?_ (fun hh => ?_)
                    · (try dsimp only)
                      exact KS2.out _ HB5.out
                    clear hK K
                    try simp only [Act.put, na, nc, ns]
                    refine wpAnyH_take (i := 8) (oi := ?_) (v := ?_) ?_ (by kernel_rfl) (by kernel_rfl) (by kernel_rfl) ?_ (Or.inl ⟨?_, ?_⟩) (by assumption) ?_
                    rotate_left 2
                    · simp only [ga, gb, gc] <;> rfl
                    · exact fun _ _ _ h => h
                    · rfl
                    · (intro w hs; (try dsimp only at hs); go_simp; try (with_reducible rfl))
                    try simp only [Act.put, na, nc, ns]
                    refine wpAnyH_take (i := 9) (oi := ?_) (v := ?_) ?_ (by kernel_rfl) (by kernel_rfl) (by kernel_rfl) ?_ (Or.inl ⟨?_, ?_⟩) (by assumption) ?_
                    rotate_left 2
                    · simp only [ga, gb, gc] <;> rfl
                    · exact fun _ _ _ h => h
                    · rfl
                    · (intro w hs; (try dsimp only at hs); go_simp; try (with_reducible rfl))
                    try simp only [Act.put, na, nc, ns]
                    refine wpAnyH_take (i := 10) (oi := ?_) (v := ?_) ?_ (by kernel_rfl) (by kernel_rfl) (by kernel_rfl) ?_ (Or.inl ⟨?_, ?_⟩) (by assumption) ?_
                    rotate_left 2
                    · simp only [ga, gb, gc] <;> rfl
                    · exact fun _ _ _ h => h
                    · rfl
                    · (intro w hs; (try dsimp only at hs); go_simp; try (with_reducible rfl))
                    try simp only [Act.put, na, nc, ns]
                    refine wpAnyH_ready (rs := [12]) (by kernel_rfl) (by simp) ?_
                    refine AllReadyH.cons (o := _) (by simp only [ga, gb, gc] <;> rfl) (fun K hK => ?_) ?_
                    · go_simp
                      refine hK.out _ _ ?_ (fun hh => ?_)
                      · (try dsimp only)
                        exact KS2.out _ (leaf_fill HB5.out HRMy.out HF5.out.1 HF5.out.2 (l := ([] : List En)) (m := 0) rfl HN5.out rfl).1
                      clear hK K
                      try simp only [Act.put, na, nc, ns]
                      refine wpAnyH_take (i := 13) (oi := ?_) (v := ?_) ?_ (by kernel_rfl) (by kernel_rfl) (by kernel_rfl) ?_ (Or.inl ⟨?_, ?_⟩) (by assumption) ?_
                      rotate_left 2
                      · simp only [ga, gb, gc] <;> rfl
                      · exact fun _ _ _ h => h
                      · rfl
                      · (intro w hs; (try dsimp only at hs); go_simp; try (with_reducible rfl))
                      try simp only [Act.put, na, nc, ns]
                      refine wpAnyH_done (by kernel_rfl) ?_ _
                      go_wp2_with fail
                      go_meet
                      have h := leaf_fill HB5.out HRMy.out HF5.out.1 HF5.out.2 (l := ([] : List En)) (m := 0) rfl HN5.out rfl
                      exact ⟨_, _, _, _, _, rfl, rfl, h.1, h.2⟩
                    exact AllReadyH.nil
                  exact AllReadyH.nil
                exact AllReadyH.nil
              exact AllReadyH.nil
            case rest =>
              obtain ⟨P12, ba2, bc2, ka2, kc2, rfl, rfl, hbx, hn12⟩ := hcut
              have hGz := HGy.out.below hbx
              have HGz := Lib.hid hGz
              clear hGz hbx hn12 HA2 KS2
              go_upto_region 22 with fail
              have hGz := HGz.out
              have hz5 := hGz.n5.cells.1
              have hz6 := hGz.n6.cells.1
              skip
              obtain ⟨y0, y1, y2, y3, y4, y5⟩ := hz5
              obtain ⟨z0, z1, z2, z3, z4, z5⟩ := hz6
              have HOf := Lib.hid (fun w (hb : Below wc.heap.size wc w) => of_any (Lo.length : Int) w (HRMf.out _ (Below.step hGz.low hb)))
              have HAn : Hid (∀ w, Below wc.heap.size wc w → Calls Tryd.prog 18 #[.agg #[.int .i64 5, .string ⟨#[]⟩, .string ⟨#[]⟩, .string ⟨#[]⟩, .slice b5 T.length f5, .slice k5 T.length c5]] w fun e w' => e = .returned (.bool true) ∧ Below w.heap.size w w') := by
                intro w hb
                have h1 := nbAnchor_any rfl (hGz.n5.nd.below hb)
                rw [HGTz.out.topA] at h1
                skip
                exact h1
              have HRi : Hid (∀ w, Below wc.heap.size wc w → Calls Tryd.prog 7 #[.agg #[.int .i64 (ofK Lo.length).1, .string ⟨#[]⟩, .string ⟨#[]⟩, .string ⟨#[112]⟩, .slice b6 Lo.length f6, .slice k6 Lo.length c6]] w fun e w' => e = .returned (.bool true) ∧ Below w.heap.size w w') := by
                intro w hb
                have h1 := nbRight_any rfl (hGz.n6.nd.below hb)
                rw [right_of_right HGTz.out.lowR] at h1
                exact h1
              have HC5 : Hid (∀ w, Below wc.heap.size wc w → (w.cell? ⟨P5, 5, none⟩ = some (.slice k5 T.length c5)) ∧ (w.cell? ⟨P6, 0, none⟩ = some (.int .i64 (ofK Lo.length).1) ∧ w.cell? ⟨P6, 1, none⟩ = some (.string ⟨#[]⟩) ∧ w.cell? ⟨P6, 2, none⟩ = some (.string ⟨#[]⟩) ∧ w.cell? ⟨P6, 3, none⟩ = some (.string ⟨#[112]⟩) ∧ w.cell? ⟨P6, 4, none⟩ = some (.slice b6 Lo.length f6) ∧ w.cell? ⟨P6, 5, none⟩ = some (.slice k6 Lo.length c6))) := by
                intro w hb
                have h1 := (hGz.n5.below hb).cells.1.2.2.2.2.2
                skip
                exact ⟨h1, (hGz.n6.below hb).cells.1⟩
              clear hGz
              go_wp2_with (first
                | (go_at_call 17; refine (HOf.out _ (Below.refl _ _)).mono ?_; rintro e6 w6 ⟨rfl, h1⟩; replace h1 := h1.symm; subst h1)
                | (go_at_call 18; refine (HAn.out _ (Below.refl _ _)).mono ?_; rintro e7 w7 ⟨rfl, hb⟩; have HB7 := Lib.hid hb; obtain ⟨q5, z0, z1, z2, z3, z4, z5⟩ := HC5.out _ hb; clear hb)
                | (go_at_call 7; refine (HRi.out _ HB7.out).mono ?_; rintro e8 w8 ⟨rfl, hb⟩; have HB8 := Lib.hid (Below.step HB7.out hb); obtain ⟨q5, z0, z1, z2, z3, z4, z5⟩ := HC5.out _ HB8.out; clear hb))
              go_roundw
              case rel =>
                refine ⟨⟨c + 1, T, Lo, _, _, _, _, _, _, _, _, rfl, by simp, by omega, ?_, HGTz.out, HGz.out.below HB8.out⟩⟩
                intro y hy
                exact HSub.out y hy
              case measure => simp [intOf]; omega
      have hT : isIn x T = false := by simpa using hT0
      clear hT0
      by_cases hL0 : isIn x Lo = true
      · have hL := hL0
        clear hL0
        as_aux_lemma =>
          obtain ⟨T2, hT2⟩ : ∃ T2, T.insertIdx (placeIx x T) (x, (c : Int), 1) = T2 := ⟨_, rfl⟩
          have hT2l : T2.length = T.length + 1 := by rw [← hT2, List.length_insertIdx, if_pos (place_le _ _)]
          have hTlt := srt_room hgt.ts hT
          obtain ⟨hE1, hN1⟩ := nb_add hut hiR hT true (fun _ => by show (T.length : Int) ≠ 256; omega)
          rw [hT2] at hN1
          have hN1 : addN (nb 5 ⟨#[]⟩ T) x (c : Int) 1 true = nb 5 ⟨#[]⟩ T2 := hN1
          have hTk : ∀ y, isIn y T2 = if y = x then true else isIn y T := by
            intro y
            rw [Bool.eq_iff_iff, ← hT2, put_key hgt.ts hT]
            by_cases e : y = x <;> simp [e]
          have tI2 : (T.length : Int) < 256 := by omega
          have HA1 : Hid (∀ w, Below wr.heap.size wr w → Calls Tryd.prog 9 #[.agg #[.int .i64 5, .string ⟨#[]⟩, .string ⟨#[]⟩, .string ⟨#[]⟩, .slice b5 T.length f5, .slice k5 T.length c5], .int .u8 (x.toNat : Int), .agg #[.int .i64 (c : Int), .int .u32 1], .bool true] w fun e w' => ∃ ba bc ka kc, e = .returned (.tuple #[.agg #[.int .i64 5, .string ⟨#[]⟩, .string ⟨#[]⟩, .string ⟨#[]⟩, .slice ba (T.length + 1) bc, .slice ka (T.length + 1) kc], .int .i64 0]) ∧ Below w.heap.size w w' ∧ NdAt w' (nb 5 ⟨#[]⟩ T2) ba bc ka kc) := by
            intro w hb
            have h1 := nbAdd_any rfl (hG.n5.nd.below hb) x (c : Int) 1 true
            rw [hE1, hN1] at h1
            exact h1.mono fun e w' h => mk_nb hT2l h
          have HLow := Lib.hid hG.low
          have HRMr : Hid (Rm wr) := HRMf.out _ hG.low
          have KS : Hid (∀ w, Below wr.heap.size wr w → ((w.cell? ⟨P5, 0, none⟩ = some (.int .i64 5) ∧ w.cell? ⟨P5, 1, none⟩ = some (.string ⟨#[]⟩) ∧ w.cell? ⟨P5, 2, none⟩ = some (.string ⟨#[]⟩) ∧ w.cell? ⟨P5, 3, none⟩ = some (.string ⟨#[]⟩) ∧ w.cell? ⟨P5, 4, none⟩ = some (.slice b5 T.length f5) ∧ w.cell? ⟨P5, 5, none⟩ = some (.slice k5 T.length c5)) ∧ w.cell? ⟨blk, off + c, none⟩ = some (.int .u8 (x.toNat : Int)))) := fun w hb => ⟨(hG.n5.below hb).cells.1, HBy.out _ (Below.step HLow.out hb)⟩
          have HT2 := Lib.hid (And.intro hT2l hTk)
          have HT2e := Lib.hid hT2
          have HHb : Hid (isIn x T = false) := hT
          have HHl : Hid (isIn x Lo = true) := hL
          have HUl := Lib.hid hul
          have HiR := Lib.hid hiR
          clear hG hgt hE1 hN1 hut hul hiR hT hL hT2l hTk hT2
          go_upto_region 12 with fail
          go_cut [10, 11] (fun s10 s11 wx => ∃ P ba bc ka kc, s10 = .pointer (some ⟨P, 0, none⟩) ∧ s11 = .int .i64 0 ∧ Below wr.heap.size wr wx ∧ NBx wx P 5 ⟨#[]⟩ T2 ba (T.length + 1) bc ka kc)
          case first =>
            refine wp_region_held_drew (S := fun W' => (W'.cell? ⟨P5, 0, none⟩ = some (.int .i64 5) ∧ W'.cell? ⟨P5, 1, none⟩ = some (.string ⟨#[]⟩) ∧ W'.cell? ⟨P5, 2, none⟩ = some (.string ⟨#[]⟩) ∧ W'.cell? ⟨P5, 3, none⟩ = some (.string ⟨#[]⟩) ∧ W'.cell? ⟨P5, 4, none⟩ = some (.slice b5 T.length f5) ∧ W'.cell? ⟨P5, 5, none⟩ = some (.slice k5 T.length c5)) ∧ W'.cell? ⟨blk, off + c, none⟩ = some (.int .u8 (x.toNat : Int))) (by kernel_rfl) ?_ (fun hh => ?_)
            · (try dsimp only)
              exact KS.out _ (Below.refl wr.heap.size wr).drew
            refine wpAnyH_take (i := 0) (oi := ?_) (v := ?_) ?_ (by kernel_rfl) (by kernel_rfl) (by kernel_rfl) ?_ (Or.inl ⟨?_, ?_⟩) (by assumption) ?_
            rotate_left 2
            · simp only [ga, gc] <;> rfl
            · exact fun _ _ _ h => h
            · rfl
            · (intro w hs; (try dsimp only at hs); go_simp; try (with_reducible rfl))
            try simp only [Act.put, na, nc, ns]
            refine wpAnyH_take (i := 1) (oi := ?_) (v := ?_) ?_ (by kernel_rfl) (by kernel_rfl) (by kernel_rfl) ?_ (Or.inl ⟨?_, ?_⟩) (by assumption) ?_
            rotate_left 2
            · simp only [ga, gb, gc] <;> rfl
            · exact fun _ _ _ h => h
            · rfl
            · (intro w hs; (try dsimp only at hs); go_simp; try (with_reducible rfl))
            try simp only [Act.put, na, nc, ns]
            refine wpAnyH_take (i := 2) (oi := ?_) (v := ?_) ?_ (by kernel_rfl) (by kernel_rfl) (by kernel_rfl) ?_ (Or.inl ⟨?_, ?_⟩) (by assumption) ?_
            rotate_left 2
            · simp only [ga, gb, gc] <;> rfl
            · exact fun _ _ _ h => h
            · rfl
            · (intro w hs; (try dsimp only at hs); go_simp; try (with_reducible rfl))
            try simp only [Act.put, na, nc, ns]
            refine wpAnyH_take (i := 3) (oi := ?_) (v := ?_) ?_ (by kernel_rfl) (by kernel_rfl) (by kernel_rfl) ?_ (Or.inl ⟨?_, ?_⟩) (by assumption) ?_
            rotate_left 2
            · simp only [ga, gb, gc] <;> rfl
            · exact fun _ _ _ h => h
            · rfl
            · (intro w hs; (try dsimp only at hs); go_simp; try (with_reducible rfl))
            try simp only [Act.put, na, nc, ns]
            refine wpAnyH_take (i := 4) (oi := ?_) (v := ?_) ?_ (by kernel_rfl) (by kernel_rfl) (by kernel_rfl) ?_ (Or.inl ⟨?_, ?_⟩) (by assumption) ?_
            rotate_left 2
            · simp only [ga, gb, gc] <;> rfl
            · exact fun _ _ _ h => h
            · rfl
            · (intro w hs; (try dsimp only at hs); go_simp; try (with_reducible rfl))
            try simp only [Act.put, na, nc, ns]
            refine wpAnyH_take (i := 5) (oi := ?_) (v := ?_) ?_ (by kernel_rfl) (by kernel_rfl) (by kernel_rfl) ?_ (Or.inl ⟨?_, ?_⟩) (by assumption) ?_
            rotate_left 2
            · simp only [ga, gb, gc] <;> rfl
            · exact fun _ _ _ h => h
            · rfl
            · (intro w hs; (try dsimp only at hs); go_simp; try (with_reducible rfl))
            try simp only [Act.put, na, nc, ns]
            refine wpAnyH_ready (rs := [6, 11]) (by kernel_rfl) (by simp) ?_
            refine AllReadyH.cons (o := _) (by simp only [ga, gb, gc] <;> rfl) (fun K hK => ?_) ?_
            · go_simp
              refine (ref_any (c : Int) _).mono ?_
              rintro e4 w4 ⟨rfl, hb4⟩
              have HB4 := Lib.hid (Below.step (w := wr) ((Below.refl wr.heap.size wr).drew) hb4)
              clear hb4
              go_wp2_with fail
              refine hK.out _ _ ?_ (fun hh => ?_)
              · (try dsimp only)
                exact KS.out _ HB4.out
              clear hK K
              try simp only [Act.put, na, nc, ns]
              refine wpAnyH_ready (rs := [7, 11]) (by kernel_rfl) (by simp) ?_
              refine AllReadyH.cons (o := _) (by simp only [ga, gb, gc] <;> rfl) (fun K hK => ?_) ?_
              · go_simp
                refine (HA1.out _ HB4.out).mono ?_
                rintro e5 w5 ⟨ba5, bc5, ka5, kc5, rfl, hb5, hn5⟩
                have HB5 := Lib.hid (Below.step (w := wr) (HB4.out) hb5)
                have HN5 := Lib.hid hn5
                clear hb5 hn5
                go_wp2_with fail
                refine hK.out _ _ ?_ (fun hh => ?_)
                · (try dsimp only)
                  exact KS.out _ HB5.out
                clear hK K
                try simp only [Act.put, na, nc, ns]
                refine wpAnyH_take (i := 8) (oi := ?_) (v := ?_) ?_ (by kernel_rfl) (by kernel_rfl) (by kernel_rfl) ?_ (Or.inl ⟨?_, ?_⟩) (by assumption) ?_
                rotate_left 2
                · simp only [ga, gb, gc] <;> rfl
                · exact fun _ _ _ h => h
                · rfl
                · (intro w hs; (try dsimp only at hs); go_simp; try (with_reducible rfl))
                try simp only [Act.put, na, nc, ns]
                refine wpAnyH_take (i := 9) (oi := ?_) (v := ?_) ?_ (by kernel_rfl) (by kernel_rfl) (by kernel_rfl) ?_ (Or.inl ⟨?_, ?_⟩) (by assumption) ?_
                rotate_left 2
                · simp only [ga, gb, gc] <;> rfl
                · exact fun _ _ _ h => h
                · rfl
                · (intro w hs; (try dsimp only at hs); go_simp; try (with_reducible rfl))
                try simp only [Act.put, na, nc, ns]
                refine wpAnyH_take (i := 10) (oi := ?_) (v := ?_) ?_ (by kernel_rfl) (by kernel_rfl) (by kernel_rfl) ?_ (Or.inl ⟨?_, ?_⟩) (by assumption) ?_
                rotate_left 2
                · simp only [ga, gb, gc] <;> rfl
                · exact fun _ _ _ h => h
                · rfl
                · (intro w hs; (try dsimp only at hs); go_simp; try (with_reducible rfl))
                try simp only [Act.put, na, nc, ns]
                refine wpAnyH_ready (rs := [11]) (by kernel_rfl) (by simp) ?_
                refine AllReadyH.cons (o := _) (by simp only [ga, gb, gc] <;> rfl) (fun K hK => ?_) ?_
                · go_simp
                  refine hK.out _ _ ?_ (fun hh => ?_)
                  · (try dsimp only)
                    exact KS.out _ (Below.new (HB5.out) _)
                  clear hK K
                  try simp only [Act.put, na, nc, ns]
                  refine wpAnyH_ready (rs := [12]) (by kernel_rfl) (by simp) ?_
                  refine AllReadyH.cons (o := _) (by simp only [ga, gb, gc] <;> rfl) (fun K hK => ?_) ?_
                  · go_simp
                    refine hK.out _ _ ?_ (fun hh => ?_)
                    · (try dsimp only)
                      exact KS.out _ (leaf_new HB5.out (l := T2) (m := (T.length + 1)) HT2.out.1 HN5.out rfl).1
                    clear hK K
                    try simp only [Act.put, na, nc, ns]
                    refine wpAnyH_take (i := 13) (oi := ?_) (v := ?_) ?_ (by kernel_rfl) (by kernel_rfl) (by kernel_rfl) ?_ (Or.inl ⟨?_, ?_⟩) (by assumption) ?_
                    rotate_left 2
                    · simp only [ga, gb, gc] <;> rfl
                    · exact fun _ _ _ h => h
                    · rfl
                    · (intro w hs; (try dsimp only at hs); go_simp; try (with_reducible rfl))
                    try simp only [Act.put, na, nc, ns]
                    refine wpAnyH_done (by kernel_rfl) ?_ _
                    go_wp2_with fail
                    go_meet
                    have h := leaf_new HB5.out (l := T2) (m := (T.length + 1)) HT2.out.1 HN5.out rfl
                    exact ⟨_, _, _, _, _, rfl, rfl, h.1, h.2⟩
                  exact AllReadyH.nil
                exact AllReadyH.nil
              refine AllReadyH.cons (o := _) (by simp only [ga, gb, gc] <;> rfl) (fun K hK => ?_) ?_
              · go_simp
                refine hK.out _ _ ?_ (fun hh => ?_)
                · (try dsimp only)
                  exact KS.out _ (Below.new (HB4.out) _)
                clear hK K
                try simp only [Act.put, na, nc, ns]
                refine wpAnyH_ready (rs := [7]) (by kernel_rfl) (by simp) ?_
                refine AllReadyH.cons (o := _) (by simp only [ga, gb, gc] <;> rfl) (fun K hK => ?_) ?_
                · go_simp
                  refine (HA1.out _ (Below.new (HB4.out) _)).mono ?_
                  rintro e5 w5 ⟨ba5, bc5, ka5, kc5, rfl, hb5, hn5⟩
                  have F5 := (Fresh.new w4 w4.heap.size zeroC 26 rfl).below hb5
                  obtain ⟨⟨z0, z1, z2, z3, z4, z5⟩, q0, q1, q2, q3, q4, q5⟩ := zcells F5
                  have HF5 := Lib.hid (And.intro F5 (HB4.out.size))
                  clear F5
                  have HB5 := Lib.hid (Below.step (w := wr) ((Below.new (HB4.out) _)) hb5)
                  have HN5 := Lib.hid hn5
                  clear hb5 hn5
                  go_wp2_with fail
                  refine hK.out _ _ ?_ (fun hh => ?_)
                  · (try dsimp only)
                    exact KS.out _ HB5.out
                  clear hK K
                  try simp only [Act.put, na, nc, ns]
                  refine wpAnyH_take (i := 8) (oi := ?_) (v := ?_) ?_ (by kernel_rfl) (by kernel_rfl) (by kernel_rfl) ?_ (Or.inl ⟨?_, ?_⟩) (by assumption) ?_
                  rotate_left 2
                  · simp only [ga, gb, gc] <;> rfl
                  · exact fun _ _ _ h => h
                  · rfl
                  · (intro w hs; (try dsimp only at hs); go_simp; try (with_reducible rfl))
                  try simp only [Act.put, na, nc, ns]
                  refine wpAnyH_take (i := 9) (oi := ?_) (v := ?_) ?_ (by kernel_rfl) (by kernel_rfl) (by kernel_rfl) ?_ (Or.inl ⟨?_, ?_⟩) (by assumption) ?_
                  rotate_left 2
                  · simp only [ga, gb, gc] <;> rfl
                  · exact fun _ _ _ h => h
                  · rfl
                  · (intro w hs; (try dsimp only at hs); go_simp; try (with_reducible rfl))
                  try simp only [Act.put, na, nc, ns]
                  refine wpAnyH_take (i := 10) (oi := ?_) (v := ?_) ?_ (by kernel_rfl) (by kernel_rfl) (by kernel_rfl) ?_ (Or.inl ⟨?_, ?_⟩) (by assumption) ?_
                  rotate_left 2
                  · simp only [ga, gb, gc] <;> rfl
                  · exact fun _ _ _ h => h
                  · rfl
                  · (intro w hs; (try dsimp only at hs); go_simp; try (with_reducible rfl))
                  try simp only [Act.put, na, nc, ns]
                  refine wpAnyH_ready (rs := [12]) (by kernel_rfl) (by simp) ?_
                  refine AllReadyH.cons (o := _) (by simp only [ga, gb, gc] <;> rfl) (fun K hK => ?_) ?_
                  · go_simp
                    refine hK.out _ _ ?_ (fun hh => ?_)
                    · (try dsimp only)
                      exact KS.out _ (leaf_fill HB5.out HRMr.out HF5.out.1 HF5.out.2 (l := T2) (m := (T.length + 1)) HT2.out.1 HN5.out rfl).1
                    clear hK K
                    try simp only [Act.put, na, nc, ns]
                    refine wpAnyH_take (i := 13) (oi := ?_) (v := ?_) ?_ (by kernel_rfl) (by kernel_rfl) (by kernel_rfl) ?_ (Or.inl ⟨?_, ?_⟩) (by assumption) ?_
                    rotate_left 2
                    · simp only [ga, gb, gc] <;> rfl
                    · exact fun _ _ _ h => h
                    · rfl
                    · (intro w hs; (try dsimp only at hs); go_simp; try (with_reducible rfl))
                    try simp only [Act.put, na, nc, ns]
                    refine wpAnyH_done (by kernel_rfl) ?_ _
                    go_wp2_with fail
                    go_meet
                    have h := leaf_fill HB5.out HRMr.out HF5.out.1 HF5.out.2 (l := T2) (m := (T.length + 1)) HT2.out.1 HN5.out rfl
                    exact ⟨_, _, _, _, _, rfl, rfl, h.1, h.2⟩
                  exact AllReadyH.nil
                exact AllReadyH.nil
              exact AllReadyH.nil
            refine AllReadyH.cons (o := _) (by simp only [ga, gb, gc] <;> rfl) (fun K hK => ?_) ?_
            · go_simp
              refine hK.out _ _ ?_ (fun hh => ?_)
              · (try dsimp only)
                exact KS.out _ (Below.new ((Below.refl wr.heap.size wr).drew) _)
              clear hK K
              try simp only [Act.put, na, nc, ns]
              refine wpAnyH_ready (rs := [6]) (by kernel_rfl) (by simp) ?_
              refine AllReadyH.cons (o := _) (by simp only [ga, gb, gc] <;> rfl) (fun K hK => ?_) ?_
              · go_simp
                refine (ref_any (c : Int) _).mono ?_
                rintro e4 w4 ⟨rfl, hb4⟩
                have HF4 := Lib.hid ((Fresh.new wr.drew wr.heap.size zeroC 26 rfl).below hb4)
                have HB4 := Lib.hid (Below.step (w := wr) ((Below.new ((Below.refl wr.heap.size wr).drew) _)) hb4)
                clear hb4
                go_wp2_with fail
                refine hK.out _ _ ?_ (fun hh => ?_)
                · (try dsimp only)
                  exact KS.out _ HB4.out
                clear hK K
                try simp only [Act.put, na, nc, ns]
                refine wpAnyH_ready (rs := [7]) (by kernel_rfl) (by simp) ?_
                refine AllReadyH.cons (o := _) (by simp only [ga, gb, gc] <;> rfl) (fun K hK => ?_) ?_
                · go_simp
                  refine (HA1.out _ HB4.out).mono ?_
                  rintro e5 w5 ⟨ba5, bc5, ka5, kc5, rfl, hb5, hn5⟩
                  have F5 := HF4.out.below hb5
                  obtain ⟨⟨z0, z1, z2, z3, z4, z5⟩, q0, q1, q2, q3, q4, q5⟩ := zcells F5
                  have HF5 := Lib.hid (And.intro F5 (Nat.le_refl wr.heap.size))
                  clear F5
                  have HB5 := Lib.hid (Below.step (w := wr) (HB4.out) hb5)
                  have HN5 := Lib.hid hn5
                  clear hb5 hn5
                  go_wp2_with fail
                  refine hK.out _ _ ?_ (fun hh => ?_)
                  · (try dsimp only)
                    exact KS.out _ HB5.out
                  clear hK K
                  try simp only [Act.put, na, nc, ns]
                  refine wpAnyH_take (i := 8) (oi := ?_) (v := ?_) ?_ (by kernel_rfl) (by kernel_rfl) (by kernel_rfl) ?_ (Or.inl ⟨?_, ?_⟩) (by assumption) ?_
                  rotate_left 2
                  · simp only [ga, gb, gc] <;> rfl
                  · exact fun _ _ _ h => h
                  · rfl
                  · (intro w hs; (try dsimp only at hs); go_simp; try (with_reducible rfl))
                  try simp only [Act.put, na, nc, ns]
                  refine wpAnyH_take (i := 9) (oi := ?_) (v := ?_) ?_ (by kernel_rfl) (by kernel_rfl) (by kernel_rfl) ?_ (Or.inl ⟨?_, ?_⟩) (by assumption) ?_
                  rotate_left 2
                  · simp only [ga, gb, gc] <;> rfl
                  · exact fun _ _ _ h => h
                  · rfl
                  · (intro w hs; (try dsimp only at hs); go_simp; try (with_reducible rfl))
                  try simp only [Act.put, na, nc, ns]
                  refine wpAnyH_take (i := 10) (oi := ?_) (v := ?_) ?_ (by kernel_rfl) (by kernel_rfl) (by kernel_rfl) ?_ (Or.inl ⟨?_, ?_⟩) (by assumption) ?_
                  rotate_left 2
                  · simp only [ga, gb, gc] <;> rfl
                  · exact fun _ _ _ h => h
                  · rfl
                  · (intro w hs; (try dsimp only at hs); go_simp; try (with_reducible rfl))
                  try simp only [Act.put, na, nc, ns]
                  refine wpAnyH_ready (rs := [12]) (by kernel_rfl) (by simp) ?_
                  refine AllReadyH.cons (o := _) (by simp only [ga, gb, gc] <;> rfl) (fun K hK => ?_) ?_
                  · go_simp
                    refine hK.out _ _ ?_ (fun hh => ?_)
                    · (try dsimp only)
                      exact KS.out _ (leaf_fill HB5.out HRMr.out HF5.out.1 HF5.out.2 (l := T2) (m := (T.length + 1)) HT2.out.1 HN5.out rfl).1
                    clear hK K
                    try simp only [Act.put, na, nc, ns]
                    refine wpAnyH_take (i := 13) (oi := ?_) (v := ?_) ?_ (by kernel_rfl) (by kernel_rfl) (by kernel_rfl) ?_ (Or.inl ⟨?_, ?_⟩) (by assumption) ?_
                    rotate_left 2
                    · simp only [ga, gb, gc] <;> rfl
                    · exact fun _ _ _ h => h
                    · rfl
                    · (intro w hs; (try dsimp only at hs); go_simp; try (with_reducible rfl))
                    try simp only [Act.put, na, nc, ns]
                    refine wpAnyH_done (by kernel_rfl) ?_ _
                    go_wp2_with fail
                    go_meet
                    have h := leaf_fill HB5.out HRMr.out HF5.out.1 HF5.out.2 (l := T2) (m := (T.length + 1)) HT2.out.1 HN5.out rfl
                    exact ⟨_, _, _, _, _, rfl, rfl, h.1, h.2⟩
                  exact AllReadyH.nil
                exact AllReadyH.nil
              exact AllReadyH.nil
            exact AllReadyH.nil
          case rest =>
            obtain ⟨P10, ba, bc, ka, kc, rfl, rfl, hbx, hn10⟩ := hcut
            have hGx := HG.out.below hbx
            obtain ⟨⟨y0, y1, y2, y3, y4, y5⟩, -⟩ := hn10.cells
            obtain ⟨⟨z0, z1, z2, z3, z4, z5⟩, t0, t1, t2, t3, t4, t5⟩ := hGx.n5.cells
            have bx := HBy.out _ hGx.low
            obtain ⟨hx0, hx1⟩ := hGx.hb.cell x
            rw [HHb.out] at hx0
            have HGx := Lib.hid hGx
            have HN10 := Lib.hid hn10
            clear hbx hGx hn10 HA1 KS HG
            go_upto_region 17 with fail
            obtain ⟨W16, hW16⟩ : ∃ W16, W16 = (((((wc.setCell ⟨P5, 0, none⟩ (.int .i64 5)).setCell ⟨P5, 1, none⟩ (.string ⟨#[]⟩)).setCell ⟨P5, 2, none⟩ (.string ⟨#[]⟩)).setCell ⟨P5, 3, none⟩ (.string ⟨#[]⟩)).setCell ⟨P5, 4, none⟩ (.slice ba (T.length + 1) bc)).setCell ⟨P5, 5, none⟩ (.slice ka (T.length + 1) kc) := ⟨_, rfl⟩
            obtain ⟨W17, hW17⟩ : ∃ W17, W17 = W16.setCell ⟨H, x.toNat, none⟩ (.bool true) := ⟨_, rfl⟩
            obtain ⟨hTu, ⟨hT16, hB16⟩, hGy⟩ := HGx.out.top HRMf.out HT2.out.1 HN10.out.nd hW16 x true HT2.out.2 hW17
            have hp := HGx.out.hp
            have hlow16 : Below W.heap.size W W16 := hT16.below HGx.out.low (by intro y hy; simp at hy; omega) HGx.out.low.size
            have b16 := HBy.out _ hlow16
            obtain ⟨g0, g1⟩ := hB16.cell x
            have HGy := Lib.hid hGy
            clear hTu hT16 hB16 hGy hp hlow16 y0 y1 y2 y3 y4 y5 z0 z1 z2 z3 z4 z5 t0 t1 t2 t3 t4 t5 bx hx0 hx1
            rw [← hW16]
            have HW17 := Lib.hid hW17
            clear hW16 hW17
            go_upto_region 19 with fail
            rw [← HW17.out]
            clear HW17 b16 g0 g1
            have hGy := HGy.out
            have hE2 : addE (nb (ofK Lo.length).1 ⟨#[112]⟩ Lo) x (c : Int) 1 false = 8 := nb_add_twice HUl.out HiR.out HHl.out false
            have hN2 : addN (nb (ofK Lo.length).1 ⟨#[112]⟩ Lo) x (c : Int) 1 false = nb 0 ⟨#[]⟩ [] := by unfold addN; rw [hE2]; exact if_neg (by decide)
            have HA2 : Hid (∀ w, Below W17.heap.size W17 w → Calls Tryd.prog 9 #[.agg #[.int .i64 (ofK Lo.length).1, .string ⟨#[]⟩, .string ⟨#[]⟩, .string ⟨#[112]⟩, .slice b6 Lo.length f6, .slice k6 Lo.length c6], .int .u8 (x.toNat : Int), .agg #[.int .i64 (c : Int), .int .u32 1], .bool false] w fun e w' => ∃ ba bc ka kc, e = .returned (.tuple #[.agg #[.int .i64 0, .string ⟨#[]⟩, .string ⟨#[]⟩, .string ⟨#[]⟩, .slice ba 0 bc, .slice ka 0 kc], .int .i64 8]) ∧ Below w.heap.size w w' ∧ NdAt w' (nb 0 ⟨#[]⟩ ([] : List En)) ba bc ka kc) := by
              intro w hb
              have h1 := nbAdd_any rfl (hGy.n6.nd.below hb) x (c : Int) 1 false
              rw [hE2, hN2] at h1
              exact h1.mono fun e w' h => mk_nb rfl h
            have HGTz : Hid (GT T2 Lo) := (by have h := HGT.out.putT HiR.out HHb.out HHl.out; rw [HT2e.out] at h; exact h)
            have HLy := Lib.hid hGy.low
            have HRMy : Hid (Rm W17) := HRMf.out _ hGy.low
            have KS2 : Hid (∀ w, Below W17.heap.size W17 w → ((w.cell? ⟨P6, 0, none⟩ = some (.int .i64 (ofK Lo.length).1) ∧ w.cell? ⟨P6, 1, none⟩ = some (.string ⟨#[]⟩) ∧ w.cell? ⟨P6, 2, none⟩ = some (.string ⟨#[]⟩) ∧ w.cell? ⟨P6, 3, none⟩ = some (.string ⟨#[112]⟩) ∧ w.cell? ⟨P6, 4, none⟩ = some (.slice b6 Lo.length f6) ∧ w.cell? ⟨P6, 5, none⟩ = some (.slice k6 Lo.length c6)) ∧ w.cell? ⟨blk, off + c, none⟩ = some (.int .u8 (x.toNat : Int)))) := fun w hb => ⟨(hGy.n6.below hb).cells.1, HBy.out _ (Below.step HLy.out hb)⟩
            clear hGy hE2 hN2
            go_cut [12, 13] (fun s12 s13 wx => ∃ P ba bc ka kc, s12 = .pointer (some ⟨P, 0, none⟩) ∧ s13 = .int .i64 8 ∧ Below W17.heap.size W17 wx ∧ NBx wx P 0 ⟨#[]⟩ ([] : List En) ba 0 bc ka kc)
            case first =>
              refine wp_region_held_drew (S := fun W' => (W'.cell? ⟨P6, 0, none⟩ = some (.int .i64 (ofK Lo.length).1) ∧ W'.cell? ⟨P6, 1, none⟩ = some (.string ⟨#[]⟩) ∧ W'.cell? ⟨P6, 2, none⟩ = some (.string ⟨#[]⟩) ∧ W'.cell? ⟨P6, 3, none⟩ = some (.string ⟨#[112]⟩) ∧ W'.cell? ⟨P6, 4, none⟩ = some (.slice b6 Lo.length f6) ∧ W'.cell? ⟨P6, 5, none⟩ = some (.slice k6 Lo.length c6)) ∧ W'.cell? ⟨blk, off + c, none⟩ = some (.int .u8 (x.toNat : Int))) (by kernel_rfl) ?_ (fun hh => ?_)
              · (try dsimp only)
                exact KS2.out _ (Below.refl W17.heap.size W17).drew
              refine wpAnyH_take (i := 0) (oi := ?_) (v := ?_) ?_ (by kernel_rfl) (by kernel_rfl) (by kernel_rfl) ?_ (Or.inl ⟨?_, ?_⟩) (by assumption) ?_
              rotate_left 2
              · simp only [ga, gc] <;> rfl
              · exact fun _ _ _ h => h
              · rfl
              · (intro w hs; (try dsimp only at hs); go_simp; try (with_reducible rfl))
              try simp only [Act.put, na, nc, ns]
              refine wpAnyH_take (i := 1) (oi := ?_) (v := ?_) ?_ (by kernel_rfl) (by kernel_rfl) (by kernel_rfl) ?_ (Or.inl ⟨?_, ?_⟩) (by assumption) ?_
              rotate_left 2
              · simp only [ga, gb, gc] <;> rfl
              · exact fun _ _ _ h => h
              · rfl
              · (intro w hs; (try dsimp only at hs); go_simp; try (with_reducible rfl))
              try simp only [Act.put, na, nc, ns]
              refine wpAnyH_take (i := 2) (oi := ?_) (v := ?_) ?_ (by kernel_rfl) (by kernel_rfl) (by kernel_rfl) ?_ (Or.inl ⟨?_, ?_⟩) (by assumption) ?_
              rotate_left 2
              · simp only [ga, gb, gc] <;> rfl
              · exact fun _ _ _ h => h
              · rfl
              · (intro w hs; (try dsimp only at hs); go_simp; try (with_reducible rfl))
              try simp only [Act.put, na, nc, ns]
              refine wpAnyH_take (i := 3) (oi := ?_) (v := ?_) ?_ (by kernel_rfl) (by kernel_rfl) (by kernel_rfl) ?_ (Or.inl ⟨?_, ?_⟩) (by assumption) ?_
              rotate_left 2
              · simp only [ga, gb, gc] <;> rfl
              · exact fun _ _ _ h => h
              · rfl
              · (intro w hs; (try dsimp only at hs); go_simp; try (with_reducible rfl))
              try simp only [Act.put, na, nc, ns]
              refine wpAnyH_take (i := 4) (oi := ?_) (v := ?_) ?_ (by kernel_rfl) (by kernel_rfl) (by kernel_rfl) ?_ (Or.inl ⟨?_, ?_⟩) (by assumption) ?_
              rotate_left 2
              · simp only [ga, gb, gc] <;> rfl
              · exact fun _ _ _ h => h
              · rfl
              · (intro w hs; (try dsimp only at hs); go_simp; try (with_reducible rfl))
              try simp only [Act.put, na, nc, ns]
              refine wpAnyH_take (i := 5) (oi := ?_) (v := ?_) ?_ (by kernel_rfl) (by kernel_rfl) (by kernel_rfl) ?_ (Or.inl ⟨?_, ?_⟩) (by assumption) ?_
              rotate_left 2
              · simp only [ga, gb, gc] <;> rfl
              · exact fun _ _ _ h => h
              · rfl
              · (intro w hs; (try dsimp only at hs); go_simp; try (with_reducible rfl))
              try simp only [Act.put, na, nc, ns]
              refine wpAnyH_ready (rs := [6, 11]) (by kernel_rfl) (by simp) ?_
              refine AllReadyH.cons (o := _) (by simp only [ga, gb, gc] <;> rfl) (fun K hK => ?_) ?_
              · go_simp
                refine (ref_any (c : Int) _).mono ?_
                rintro e4 w4 ⟨rfl, hb4⟩
                have HB4 := Lib.hid (Below.step (w := W17) ((Below.refl W17.heap.size W17).drew) hb4)
                clear hb4
                go_wp2_with fail
                refine hK.out _ _ ?_ (fun hh => ?_)
                · (try dsimp only)
                  exact KS2.out _ HB4.out
                clear hK K
                try simp only [Act.put, na, nc, ns]
                refine wpAnyH_ready (rs := [7, 11]) (by kernel_rfl) (by simp) ?_
                refine AllReadyH.cons (o := _) (by simp only [ga, gb, gc] <;> rfl) (fun K hK => ?_) ?_
                · go_simp
                  refine (HA2.out _ HB4.out).mono ?_
                  rintro e5 w5 ⟨ba5, bc5, ka5, kc5, rfl, hb5, hn5⟩
                  have HB5 := Lib.hid (Below.step (w := W17) (HB4.out) hb5)
                  have HN5 := Lib.hid hn5
                  clear hb5 hn5
                  go_wp2_with fail
                  refine hK.out _ _ ?_ (fun hh => ?_)
                  · (try dsimp only)
                    exact KS2.out _ HB5.out
                  clear hK K
                  try simp only [Act.put, na, nc, ns]
                  refine wpAnyH_take (i := 8) (oi := ?_) (v := ?_) ?_ (by kernel_rfl) (by kernel_rfl) (by kernel_rfl) ?_ (Or.inl ⟨?_, ?_⟩) (by assumption) ?_
                  rotate_left 2
                  · simp only [ga, gb, gc] <;> rfl
                  · exact fun _ _ _ h => h
                  · rfl
                  · (intro w hs; (try dsimp only at hs); go_simp; try (with_reducible rfl))
                  try simp only [Act.put, na, nc, ns]
                  refine wpAnyH_take (i := 9) (oi := ?_) (v := ?_) ?_ (by kernel_rfl) (by kernel_rfl) (by kernel_rfl) ?_ (Or.inl ⟨?_, ?_⟩) (by assumption) ?_
                  rotate_left 2
                  · simp only [ga, gb, gc] <;> rfl
                  · exact fun _ _ _ h => h
                  · rfl
                  · (intro w hs; (try dsimp only at hs); go_simp; try (with_reducible rfl))
                  try simp only [Act.put, na, nc, ns]
                  refine wpAnyH_take (i := 10) (oi := ?_) (v := ?_) ?_ (by kernel_rfl) (by kernel_rfl) (by kernel_rfl) ?_ (Or.inl ⟨?_, ?_⟩) (by assumption) ?_
                  rotate_left 2
                  · simp only [ga, gb, gc] <;> rfl
                  · exact fun _ _ _ h => h
                  · rfl
                  · (intro w hs; (try dsimp only at hs); go_simp; try (with_reducible rfl))
                  try simp only [Act.put, na, nc, ns]
                  refine wpAnyH_ready (rs := [11]) (by kernel_rfl) (by simp) ?_
                  refine AllReadyH.cons (o := _) (by simp only [ga, gb, gc] <;> rfl) (fun K hK => ?_) ?_
                  · go_simp
                    refine hK.out _ _ ?_ (fun hh => ?_)
                    · (try dsimp only)
                      exact KS2.out _ (Below.new (HB5.out) _)
                    clear hK K
                    try simp only [Act.put, na, nc, ns]
                    refine wpAnyH_ready (rs := [12]) (by kernel_rfl) (by simp) ?_
                    refine AllReadyH.cons (o := _) (by simp only [ga, gb, gc] <;> rfl) (fun K hK => ?_) ?_
                    · go_simp
                      refine hK.out _ _ ?_ (fun hh => ?_)
                      · (try dsimp only)
                        exact KS2.out _ (leaf_new HB5.out (l := ([] : List En)) (m := 0) rfl HN5.out rfl).1
                      clear hK K
                      try simp only [Act.put, na, nc, ns]
                      refine wpAnyH_take (i := 13) (oi := ?_) (v := ?_) ?_ (by kernel_rfl) (by kernel_rfl) (by kernel_rfl) ?_ (Or.inl ⟨?_, ?_⟩) (by assumption) ?_
                      rotate_left 2
                      · simp only [ga, gb, gc] <;> rfl
                      · exact fun _ _ _ h => h
                      · rfl
                      · (intro w hs; (try dsimp only at hs); go_simp; try (with_reducible rfl))
                      try simp only [Act.put, na, nc, ns]
                      refine wpAnyH_done (by kernel_rfl) ?_ _
                      go_wp2_with fail
                      go_meet
                      have h := leaf_new HB5.out (l := ([] : List En)) (m := 0) rfl HN5.out rfl
                      exact ⟨_, _, _, _, _, rfl, rfl, h.1, h.2⟩
                    exact AllReadyH.nil
                  exact AllReadyH.nil
                refine AllReadyH.cons (o := _) (by simp only [ga, gb, gc] <;> rfl) (fun K hK => ?_) ?_
                · go_simp
                  refine hK.out _ _ ?_ (fun hh => ?_)
                  · (try dsimp only)
                    exact KS2.out _ (Below.new (HB4.out) _)
                  clear hK K
                  try simp only [Act.put, na, nc, ns]
                  refine wpAnyH_ready (rs := [7]) (by kernel_rfl) (by simp) ?_
                  refine AllReadyH.cons (o := _) (by simp only [ga, gb, gc] <;> rfl) (fun K hK => ?_) ?_
                  · go_simp
                    refine (HA2.out _ (Below.new (HB4.out) _)).mono ?_
                    rintro e5 w5 ⟨ba5, bc5, ka5, kc5, rfl, hb5, hn5⟩
                    have F5 := (Fresh.new w4 w4.heap.size zeroC 26 rfl).below hb5
                    obtain ⟨⟨z0, z1, z2, z3, z4, z5⟩, q0, q1, q2, q3, q4, q5⟩ := zcells F5
                    have HF5 := Lib.hid (And.intro F5 (HB4.out.size))
                    clear F5
                    have HB5 := Lib.hid (Below.step (w := W17) ((Below.new (HB4.out) _)) hb5)
                    have HN5 := Lib.hid hn5
                    clear hb5 hn5
                    go_wp2_with fail
                    refine hK.out _ _ ?_ (fun hh => ?_)
                    · (try dsimp only)
                      exact KS2.out _ HB5.out
                    clear hK K
                    try simp only [Act.put, na, nc, ns]
                    refine wpAnyH_take (i := 8) (oi := ?_) (v := ?_) ?_ (by kernel_rfl) (by kernel_rfl) (by kernel_rfl) ?_ (Or.inl ⟨?_, ?_⟩) (by assumption) ?_
                    rotate_left 2
                    · simp only [ga, gb, gc] <;> rfl
                    · exact fun _ _ _ h => h
                    · rfl
                    · (intro w hs; (try dsimp only at hs); go_simp; try (with_reducible rfl))
                    try simp only [Act.put, na, nc, ns]
                    refine wpAnyH_take (i := 9) (oi := ?_) (v := ?_) ?_ (by kernel_rfl) (by kernel_rfl) (by kernel_rfl) ?_ (Or.inl ⟨?_, ?_⟩) (by assumption) ?_
                    rotate_left 2
                    · simp only [ga, gb, gc] <;> rfl
                    · exact fun _ _ _ h => h
                    · rfl
                    · (intro w hs; (try dsimp only at hs); go_simp; try (with_reducible rfl))
                    try simp only [Act.put, na, nc, ns]
                    refine wpAnyH_take (i := 10) (oi := ?_) (v := ?_) ?_ (by kernel_rfl) (by kernel_rfl) (by kernel_rfl) ?_ (Or.inl ⟨?_, ?_⟩) (by assumption) ?_
                    rotate_left 2
                    · simp only [ga, gb, gc] <;> rfl
                    · exact fun _ _ _ h => h
                    · rfl
                    · (intro w hs; (try dsimp only at hs); go_simp; try (with_reducible rfl))
                    try simp only [Act.put, na, nc, ns]
                    refine wpAnyH_ready (rs := [12]) (by kernel_rfl) (by simp) ?_
                    refine AllReadyH.cons (o := _) (by simp only [ga, gb, gc] <;> rfl) (fun K hK => ?_) ?_
                    · go_simp
                      refine hK.out _ _ ?_ (fun hh => ?_)
                      · (try dsimp only)
                        exact KS2.out _ (leaf_fill HB5.out HRMy.out HF5.out.1 HF5.out.2 (l := ([] : List En)) (m := 0) rfl HN5.out rfl).1
                      clear hK K
                      try simp only [Act.put, na, nc, ns]
                      refine wpAnyH_take (i := 13) (oi := ?_) (v := ?_) ?_ (by kernel_rfl) (by kernel_rfl) (by kernel_rfl) ?_ (Or.inl ⟨?_, ?_⟩) (by assumption) ?_
                      rotate_left 2
                      · simp only [ga, gb, gc] <;> rfl
                      · exact fun _ _ _ h => h
                      · rfl
                      · (intro w hs; (try dsimp only at hs); go_simp; try (with_reducible rfl))
                      try simp only [Act.put, na, nc, ns]
                      refine wpAnyH_done (by kernel_rfl) ?_ _
                      go_wp2_with fail
                      go_meet
                      have h := leaf_fill HB5.out HRMy.out HF5.out.1 HF5.out.2 (l := ([] : List En)) (m := 0) rfl HN5.out rfl
                      exact ⟨_, _, _, _, _, rfl, rfl, h.1, h.2⟩
                    exact AllReadyH.nil
                  exact AllReadyH.nil
                exact AllReadyH.nil
              refine AllReadyH.cons (o := _) (by simp only [ga, gb, gc] <;> rfl) (fun K hK => ?_) ?_
              · go_simp
                refine hK.out _ _ ?_ (fun hh => ?_)
                · (try dsimp only)
                  exact KS2.out _ (Below.new ((Below.refl W17.heap.size W17).drew) _)
                clear hK K
                try simp only [Act.put, na, nc, ns]
                refine wpAnyH_ready (rs := [6]) (by kernel_rfl) (by simp) ?_
                refine AllReadyH.cons (o := _) (by simp only [ga, gb, gc] <;> rfl) (fun K hK => ?_) ?_
                · go_simp
                  refine (ref_any (c : Int) _).mono ?_
                  rintro e4 w4 ⟨rfl, hb4⟩
                  have HF4 := Lib.hid ((Fresh.new W17.drew W17.heap.size zeroC 26 rfl).below hb4)
                  have HB4 := Lib.hid (Below.step (w := W17) ((Below.new ((Below.refl W17.heap.size W17).drew) _)) hb4)
                  clear hb4
                  go_wp2_with fail
                  refine hK.out _ _ ?_ (fun hh => ?_)
                  · (try dsimp only)
                    exact KS2.out _ HB4.out
                  clear hK K
                  try simp only [Act.put, na, nc, ns]
                  refine wpAnyH_ready (rs := [7]) (by kernel_rfl) (by simp) ?_
                  refine AllReadyH.cons (o := _) (by simp only [ga, gb, gc] <;> rfl) (fun K hK => ?_) ?_
                  · go_simp
                    refine (HA2.out _ HB4.out).mono ?_
                    rintro e5 w5 ⟨ba5, bc5, ka5, kc5, rfl, hb5, hn5⟩
                    have F5 := HF4.out.below hb5
                    obtain ⟨⟨z0, z1, z2, z3, z4, z5⟩, q0, q1, q2, q3, q4, q5⟩ := zcells F5
                    have HF5 := Lib.hid (And.intro F5 (Nat.le_refl W17.heap.size))
                    clear F5
                    have HB5 := Lib.hid (Below.step (w := W17) (HB4.out) hb5)
                    have HN5 := Lib.hid hn5
                    clear hb5 hn5
                    go_wp2_with fail
                    refine hK.out _ _ ?_ (fun hh => ?_)
                    · (try dsimp only)
                      exact KS2.out _ HB5.out
                    clear hK K
                    try simp only [Act.put, na, nc, ns]
                    refine wpAnyH_take (i := 8) (oi := ?_) (v := ?_) ?_ (by kernel_rfl) (by kernel_rfl) (by kernel_rfl) ?_ (Or.inl ⟨?_, ?_⟩) (by assumption) ?_
                    rotate_left 2
                    · simp only [ga, gb, gc] <;> rfl
                    · exact fun _ _ _ h => h
                    · rfl
                    · (intro w hs; (try dsimp only at hs); go_simp; try (with_reducible rfl))
                    try simp only [Act.put, na, nc, ns]
                    refine wpAnyH_take (i := 9) (oi := ?_) (v := ?_) ?_ (by kernel_rfl) (by kernel_rfl) (by kernel_rfl) ?_ (Or.inl ⟨?_, ?_⟩) (by assumption) ?_
                    rotate_left 2
                    · simp only [ga, gb, gc] <;> rfl
                    · exact fun _ _ _ h => h
                    · rfl
                    · (intro w hs; (try dsimp only at hs); go_simp; try (with_reducible rfl))
                    try simp only [Act.put, na, nc, ns]
                    refine wpAnyH_take (i := 10) (oi := ?_) (v := ?_) ?_ (by kernel_rfl) (by kernel_rfl) (by kernel_rfl) ?_ (Or.inl ⟨?_, ?_⟩) (by assumption) ?_
                    rotate_left 2
                    · simp only [ga, gb, gc] <;> rfl
                    · exact fun _ _ _ h => h
                    · rfl
                    · (intro w hs; (try dsimp only at hs); go_simp; try (with_reducible rfl))
                    try simp only [Act.put, na, nc, ns]
                    refine wpAnyH_ready (rs := [12]) (by kernel_rfl) (by simp) ?_
                    refine AllReadyH.cons (o := _) (by simp only [ga, gb, gc] <;> rfl) (fun K hK => ?_) ?_
                    · go_simp
                      refine hK.out _ _ ?_ (fun hh => ?_)
                      · (try dsimp only)
                        exact KS2.out _ (leaf_fill HB5.out HRMy.out HF5.out.1 HF5.out.2 (l := ([] : List En)) (m := 0) rfl HN5.out rfl).1
                      clear hK K
                      try simp only [Act.put, na, nc, ns]
                      refine wpAnyH_take (i := 13) (oi := ?_) (v := ?_) ?_ (by kernel_rfl) (by kernel_rfl) (by kernel_rfl) ?_ (Or.inl ⟨?_, ?_⟩) (by assumption) ?_
                      rotate_left 2
                      · simp only [ga, gb, gc] <;> rfl
                      · exact fun _ _ _ h => h
                      · rfl
                      · (intro w hs; (try dsimp only at hs); go_simp; try (with_reducible rfl))
                      try simp only [Act.put, na, nc, ns]
                      refine wpAnyH_done (by kernel_rfl) ?_ _
                      go_wp2_with fail
                      go_meet
                      have h := leaf_fill HB5.out HRMy.out HF5.out.1 HF5.out.2 (l := ([] : List En)) (m := 0) rfl HN5.out rfl
                      exact ⟨_, _, _, _, _, rfl, rfl, h.1, h.2⟩
                    exact AllReadyH.nil
                  exact AllReadyH.nil
                exact AllReadyH.nil
              exact AllReadyH.nil
            case rest =>
              obtain ⟨P12, ba2, bc2, ka2, kc2, rfl, rfl, hbx, hn12⟩ := hcut
              have hGz := HGy.out.below hbx
              have HGz := Lib.hid hGz
              clear hGz hbx hn12 HA2 KS2
              go_upto_region 22 with fail
              have hGz := HGz.out
              have hz5 := hGz.n5.cells.1
              have hz6 := hGz.n6.cells.1
              rw [HT2.out.1] at hz5
              obtain ⟨y0, y1, y2, y3, y4, y5⟩ := hz5
              obtain ⟨z0, z1, z2, z3, z4, z5⟩ := hz6
              have HOf := Lib.hid (fun w (hb : Below wc.heap.size wc w) => of_any (Lo.length : Int) w (HRMf.out _ (Below.step hGz.low hb)))
              have HAn : Hid (∀ w, Below wc.heap.size wc w → Calls Tryd.prog 18 #[.agg #[.int .i64 5, .string ⟨#[]⟩, .string ⟨#[]⟩, .string ⟨#[]⟩, .slice ba (T.length + 1) bc, .slice ka (T.length + 1) kc]] w fun e w' => e = .returned (.bool true) ∧ Below w.heap.size w w') := by
                intro w hb
                have h1 := nbAnchor_any rfl (hGz.n5.nd.below hb)
                rw [HGTz.out.topA] at h1
                rw [HT2.out.1] at h1
                exact h1
              have HRi : Hid (∀ w, Below wc.heap.size wc w → Calls Tryd.prog 7 #[.agg #[.int .i64 (ofK Lo.length).1, .string ⟨#[]⟩, .string ⟨#[]⟩, .string ⟨#[112]⟩, .slice b6 Lo.length f6, .slice k6 Lo.length c6]] w fun e w' => e = .returned (.bool true) ∧ Below w.heap.size w w') := by
                intro w hb
                have h1 := nbRight_any rfl (hGz.n6.nd.below hb)
                rw [right_of_right HGTz.out.lowR] at h1
                exact h1
              have HC5 : Hid (∀ w, Below wc.heap.size wc w → (w.cell? ⟨P5, 5, none⟩ = some (.slice ka (T.length + 1) kc)) ∧ (w.cell? ⟨P6, 0, none⟩ = some (.int .i64 (ofK Lo.length).1) ∧ w.cell? ⟨P6, 1, none⟩ = some (.string ⟨#[]⟩) ∧ w.cell? ⟨P6, 2, none⟩ = some (.string ⟨#[]⟩) ∧ w.cell? ⟨P6, 3, none⟩ = some (.string ⟨#[112]⟩) ∧ w.cell? ⟨P6, 4, none⟩ = some (.slice b6 Lo.length f6) ∧ w.cell? ⟨P6, 5, none⟩ = some (.slice k6 Lo.length c6))) := by
                intro w hb
                have h1 := (hGz.n5.below hb).cells.1.2.2.2.2.2
                rw [HT2.out.1] at h1
                exact ⟨h1, (hGz.n6.below hb).cells.1⟩
              clear hGz
              go_wp2_with (first
                | (go_at_call 17; refine (HOf.out _ (Below.refl _ _)).mono ?_; rintro e6 w6 ⟨rfl, h1⟩; replace h1 := h1.symm; subst h1)
                | (go_at_call 18; refine (HAn.out _ (Below.refl _ _)).mono ?_; rintro e7 w7 ⟨rfl, hb⟩; have HB7 := Lib.hid hb; obtain ⟨q5, z0, z1, z2, z3, z4, z5⟩ := HC5.out _ hb; clear hb)
                | (go_at_call 7; refine (HRi.out _ HB7.out).mono ?_; rintro e8 w8 ⟨rfl, hb⟩; have HB8 := Lib.hid (Below.step HB7.out hb); obtain ⟨q5, z0, z1, z2, z3, z4, z5⟩ := HC5.out _ HB8.out; clear hb))
              go_roundw
              case rel =>
                refine ⟨⟨c + 1, T2, Lo, _, _, _, _, _, _, _, _, by rw [HT2.out.1]; simp, by simp, by omega, ?_, HGTz.out, HGz.out.below HB8.out⟩⟩
                intro y hy
                rw [HT2.out.2] at hy
                by_cases e : y = x
                · rw [e]; exact List.mem_of_getElem? HX.out
                · rw [if_neg e] at hy; exact HSub.out y hy
              case measure => simp [intOf]; omega
      · have hL : isIn x Lo = false := by simpa using hL0
        clear hL0
        as_aux_lemma =>
          obtain ⟨T2, hT2⟩ : ∃ T2, T.insertIdx (placeIx x T) (x, (c : Int), 1) = T2 := ⟨_, rfl⟩
          have hT2l : T2.length = T.length + 1 := by rw [← hT2, List.length_insertIdx, if_pos (place_le _ _)]
          have hTlt := srt_room hgt.ts hT
          obtain ⟨hE1, hN1⟩ := nb_add hut hiR hT true (fun _ => by show (T.length : Int) ≠ 256; omega)
          rw [hT2] at hN1
          have hN1 : addN (nb 5 ⟨#[]⟩ T) x (c : Int) 1 true = nb 5 ⟨#[]⟩ T2 := hN1
          have hTk : ∀ y, isIn y T2 = if y = x then true else isIn y T := by
            intro y
            rw [Bool.eq_iff_iff, ← hT2, put_key hgt.ts hT]
            by_cases e : y = x <;> simp [e]
          have tI2 : (T.length : Int) < 256 := by omega
          have HA1 : Hid (∀ w, Below wr.heap.size wr w → Calls Tryd.prog 9 #[.agg #[.int .i64 5, .string ⟨#[]⟩, .string ⟨#[]⟩, .string ⟨#[]⟩, .slice b5 T.length f5, .slice k5 T.length c5], .int .u8 (x.toNat : Int), .agg #[.int .i64 (c : Int), .int .u32 1], .bool true] w fun e w' => ∃ ba bc ka kc, e = .returned (.tuple #[.agg #[.int .i64 5, .string ⟨#[]⟩, .string ⟨#[]⟩, .string ⟨#[]⟩, .slice ba (T.length + 1) bc, .slice ka (T.length + 1) kc], .int .i64 0]) ∧ Below w.heap.size w w' ∧ NdAt w' (nb 5 ⟨#[]⟩ T2) ba bc ka kc) := by
            intro w hb
            have h1 := nbAdd_any rfl (hG.n5.nd.below hb) x (c : Int) 1 true
            rw [hE1, hN1] at h1
            exact h1.mono fun e w' h => mk_nb hT2l h
          have HLow := Lib.hid hG.low
          have HRMr : Hid (Rm wr) := HRMf.out _ hG.low
          have KS : Hid (∀ w, Below wr.heap.size wr w → ((w.cell? ⟨P5, 0, none⟩ = some (.int .i64 5) ∧ w.cell? ⟨P5, 1, none⟩ = some (.string ⟨#[]⟩) ∧ w.cell? ⟨P5, 2, none⟩ = some (.string ⟨#[]⟩) ∧ w.cell? ⟨P5, 3, none⟩ = some (.string ⟨#[]⟩) ∧ w.cell? ⟨P5, 4, none⟩ = some (.slice b5 T.length f5) ∧ w.cell? ⟨P5, 5, none⟩ = some (.slice k5 T.length c5)) ∧ w.cell? ⟨blk, off + c, none⟩ = some (.int .u8 (x.toNat : Int)))) := fun w hb => ⟨(hG.n5.below hb).cells.1, HBy.out _ (Below.step HLow.out hb)⟩
          have HT2 := Lib.hid (And.intro hT2l hTk)
          have HT2e := Lib.hid hT2
          have HHb : Hid (isIn x T = false) := hT
          have HHl : Hid (isIn x Lo = false) := hL
          have HUl := Lib.hid hul
          have HiR := Lib.hid hiR
          clear hG hgt hE1 hN1 hut hul hiR hT hL hT2l hTk hT2
          go_upto_region 12 with fail
          go_cut [10, 11] (fun s10 s11 wx => ∃ P ba bc ka kc, s10 = .pointer (some ⟨P, 0, none⟩) ∧ s11 = .int .i64 0 ∧ Below wr.heap.size wr wx ∧ NBx wx P 5 ⟨#[]⟩ T2 ba (T.length + 1) bc ka kc)
          case first =>
            refine wp_region_held_drew (S := fun W' => (W'.cell? ⟨P5, 0, none⟩ = some (.int .i64 5) ∧ W'.cell? ⟨P5, 1, none⟩ = some (.string ⟨#[]⟩) ∧ W'.cell? ⟨P5, 2, none⟩ = some (.string ⟨#[]⟩) ∧ W'.cell? ⟨P5, 3, none⟩ = some (.string ⟨#[]⟩) ∧ W'.cell? ⟨P5, 4, none⟩ = some (.slice b5 T.length f5) ∧ W'.cell? ⟨P5, 5, none⟩ = some (.slice k5 T.length c5)) ∧ W'.cell? ⟨blk, off + c, none⟩ = some (.int .u8 (x.toNat : Int))) (by kernel_rfl) ?_ (fun hh => ?_)
            · (try dsimp only)
              exact KS.out _ (Below.refl wr.heap.size wr).drew
            refine wpAnyH_take (i := 0) (oi := ?_) (v := ?_) ?_ (by kernel_rfl) (by kernel_rfl) (by kernel_rfl) ?_ (Or.inl ⟨?_, ?_⟩) (by assumption) ?_
            rotate_left 2
            · simp only [ga, gc] <;> rfl
            · exact fun _ _ _ h => h
            · rfl
            · (intro w hs; (try dsimp only at hs); go_simp; try (with_reducible rfl))
            try simp only [Act.put, na, nc, ns]
            refine wpAnyH_take (i := 1) (oi := ?_) (v := ?_) ?_ (by kernel_rfl) (by kernel_rfl) (by kernel_rfl) ?_ (Or.inl ⟨?_, ?_⟩) (by assumption) ?_
            rotate_left 2
            · simp only [ga, gb, gc] <;> rfl
            · exact fun _ _ _ h => h
            · rfl
            · (intro w hs; (try dsimp only at hs); go_simp; try (with_reducible rfl))
            try simp only [Act.put, na, nc, ns]
            refine wpAnyH_take (i := 2) (oi := ?_) (v := ?_) ?_ (by kernel_rfl) (by kernel_rfl) (by kernel_rfl) ?_ (Or.inl ⟨?_, ?_⟩) (by assumption) ?_
            rotate_left 2
            · simp only [ga, gb, gc] <;> rfl
            · exact fun _ _ _ h => h
            · rfl
            · (intro w hs; (try dsimp only at hs); go_simp; try (with_reducible rfl))
            try simp only [Act.put, na, nc, ns]
            refine wpAnyH_take (i := 3) (oi := ?_) (v := ?_) ?_ (by kernel_rfl) (by kernel_rfl) (by kernel_rfl) ?_ (Or.inl ⟨?_, ?_⟩) (by assumption) ?_
            rotate_left 2
            · simp only [ga, gb, gc] <;> rfl
            · exact fun _ _ _ h => h
            · rfl
            · (intro w hs; (try dsimp only at hs); go_simp; try (with_reducible rfl))
            try simp only [Act.put, na, nc, ns]
            refine wpAnyH_take (i := 4) (oi := ?_) (v := ?_) ?_ (by kernel_rfl) (by kernel_rfl) (by kernel_rfl) ?_ (Or.inl ⟨?_, ?_⟩) (by assumption) ?_
            rotate_left 2
            · simp only [ga, gb, gc] <;> rfl
            · exact fun _ _ _ h => h
            · rfl
            · (intro w hs; (try dsimp only at hs); go_simp; try (with_reducible rfl))
            try simp only [Act.put, na, nc, ns]
            refine wpAnyH_take (i := 5) (oi := ?_) (v := ?_) ?_ (by kernel_rfl) (by kernel_rfl) (by kernel_rfl) ?_ (Or.inl ⟨?_, ?_⟩) (by assumption) ?_
            rotate_left 2
            · simp only [ga, gb, gc] <;> rfl
            · exact fun _ _ _ h => h
            · rfl
            · (intro w hs; (try dsimp only at hs); go_simp; try (with_reducible rfl))
            try simp only [Act.put, na, nc, ns]
            refine wpAnyH_ready (rs := [6, 11]) (by kernel_rfl) (by simp) ?_
            refine AllReadyH.cons (o := _) (by simp only [ga, gb, gc] <;> rfl) (fun K hK => ?_) ?_
            · go_simp
              refine (ref_any (c : Int) _).mono ?_
              rintro e4 w4 ⟨rfl, hb4⟩
              have HB4 := Lib.hid (Below.step (w := wr) ((Below.refl wr.heap.size wr).drew) hb4)
              clear hb4
              go_wp2_with fail
              refine hK.out _ _ ?_ (fun hh => ?_)
              · (try dsimp only)
                exact KS.out _ HB4.out
              clear hK K
              try simp only [Act.put, na, nc, ns]
              refine wpAnyH_ready (rs := [7, 11]) (by kernel_rfl) (by simp) ?_
              refine AllReadyH.cons (o := _) (by simp only [ga, gb, gc] <;> rfl) (fun K hK => ?_) ?_
              · go_simp
                refine (HA1.out _ HB4.out).mono ?_
                rintro e5 w5 ⟨ba5, bc5, ka5, kc5, rfl, hb5, hn5⟩
                have HB5 := Lib.hid (Below.step (w := wr) (HB4.out) hb5)
                have HN5 := Lib.hid hn5
                clear hb5 hn5
                go_wp2_with fail
                refine hK.out _ _ ?_ (fun hh => ?_)
                · (try dsimp only)
                  exact KS.out _ HB5.out
                clear hK K
                try simp only [Act.put, na, nc, ns]
                refine wpAnyH_take (i := 8) (oi := ?_) (v := ?_) ?_ (by kernel_rfl) (by kernel_rfl) (by kernel_rfl) ?_ (Or.inl ⟨?_, ?_⟩) (by assumption) ?_
                rotate_left 2
                · simp only [ga, gb, gc] <;> rfl
                · exact fun _ _ _ h => h
                · rfl
                · (intro w hs; (try dsimp only at hs); go_simp; try (with_reducible rfl))
                try simp only [Act.put, na, nc, ns]
                refine wpAnyH_take (i := 9) (oi := ?_) (v := ?_) ?_ (by kernel_rfl) (by kernel_rfl) (by kernel_rfl) ?_ (Or.inl ⟨?_, ?_⟩) (by assumption) ?_
                rotate_left 2
                · simp only [ga, gb, gc] <;> rfl
                · exact fun _ _ _ h => h
                · rfl
                · (intro w hs; (try dsimp only at hs); go_simp; try (with_reducible rfl))
                try simp only [Act.put, na, nc, ns]
                refine wpAnyH_take (i := 10) (oi := ?_) (v := ?_) ?_ (by kernel_rfl) (by kernel_rfl) (by kernel_rfl) ?_ (Or.inl ⟨?_, ?_⟩) (by assumption) ?_
                rotate_left 2
                · simp only [ga, gb, gc] <;> rfl
                · exact fun _ _ _ h => h
                · rfl
                · (intro w hs; (try dsimp only at hs); go_simp; try (with_reducible rfl))
                try simp only [Act.put, na, nc, ns]
                refine wpAnyH_ready (rs := [11]) (by kernel_rfl) (by simp) ?_
                refine AllReadyH.cons (o := _) (by simp only [ga, gb, gc] <;> rfl) (fun K hK => ?_) ?_
                · go_simp
                  refine hK.out _ _ ?_ (fun hh => ?_)
                  · (try dsimp only)
                    exact KS.out _ (Below.new (HB5.out) _)
                  clear hK K
                  try simp only [Act.put, na, nc, ns]
                  refine wpAnyH_ready (rs := [12]) (by kernel_rfl) (by simp) ?_
                  refine AllReadyH.cons (o := _) (by simp only [ga, gb, gc] <;> rfl) (fun K hK => ?_) ?_
                  · go_simp
                    refine hK.out _ _ ?_ (fun hh => ?_)
                    · (try dsimp only)
                      exact KS.out _ (leaf_new HB5.out (l := T2) (m := (T.length + 1)) HT2.out.1 HN5.out rfl).1
                    clear hK K
                    try simp only [Act.put, na, nc, ns]
                    refine wpAnyH_take (i := 13) (oi := ?_) (v := ?_) ?_ (by kernel_rfl) (by kernel_rfl) (by kernel_rfl) ?_ (Or.inl ⟨?_, ?_⟩) (by assumption) ?_
                    rotate_left 2
                    · simp only [ga, gb, gc] <;> rfl
                    · exact fun _ _ _ h => h
                    · rfl
                    · (intro w hs; (try dsimp only at hs); go_simp; try (with_reducible rfl))
                    try simp only [Act.put, na, nc, ns]
                    refine wpAnyH_done (by kernel_rfl) ?_ _
                    go_wp2_with fail
                    go_meet
                    have h := leaf_new HB5.out (l := T2) (m := (T.length + 1)) HT2.out.1 HN5.out rfl
                    exact ⟨_, _, _, _, _, rfl, rfl, h.1, h.2⟩
                  exact AllReadyH.nil
                exact AllReadyH.nil
              refine AllReadyH.cons (o := _) (by simp only [ga, gb, gc] <;> rfl) (fun K hK => ?_) ?_
              · go_simp
                refine hK.out _ _ ?_ (fun hh => ?_)
                · (try dsimp only)
                  exact KS.out _ (Below.new (HB4.out) _)
                clear hK K
                try simp only [Act.put, na, nc, ns]
                refine wpAnyH_ready (rs := [7]) (by kernel_rfl) (by simp) ?_
                refine AllReadyH.cons (o := _) (by simp only [ga, gb, gc] <;> rfl) (fun K hK => ?_) ?_
                · go_simp
                  refine (HA1.out _ (Below.new (HB4.out) _)).mono ?_
                  rintro e5 w5 ⟨ba5, bc5, ka5, kc5, rfl, hb5, hn5⟩
                  have F5 := (Fresh.new w4 w4.heap.size zeroC 26 rfl).below hb5
                  obtain ⟨⟨z0, z1, z2, z3, z4, z5⟩, q0, q1, q2, q3, q4, q5⟩ := zcells F5
                  have HF5 := Lib.hid (And.intro F5 (HB4.out.size))
                  clear F5
                  have HB5 := Lib.hid (Below.step (w := wr) ((Below.new (HB4.out) _)) hb5)
                  have HN5 := Lib.hid hn5
                  clear hb5 hn5
                  go_wp2_with fail
                  refine hK.out _ _ ?_ (fun hh => ?_)
                  · (try dsimp only)
                    exact KS.out _ HB5.out
                  clear hK K
                  try simp only [Act.put, na, nc, ns]
                  refine wpAnyH_take (i := 8) (oi := ?_) (v := ?_) ?_ (by kernel_rfl) (by kernel_rfl) (by kernel_rfl) ?_ (Or.inl ⟨?_, ?_⟩) (by assumption) ?_
                  rotate_left 2
                  · simp only [ga, gb, gc] <;> rfl
                  · exact fun _ _ _ h => h
                  · rfl
                  · (intro w hs; (try dsimp only at hs); go_simp; try (with_reducible rfl))
                  try simp only [Act.put, na, nc, ns]
                  refine wpAnyH_take (i := 9) (oi := ?_) (v := ?_) ?_ (by kernel_rfl) (by kernel_rfl) (by kernel_rfl) ?_ (Or.inl ⟨?_, ?_⟩) (by assumption) ?_
                  rotate_left 2
                  · simp only [ga, gb, gc] <;> rfl
                  · exact fun _ _ _ h => h
                  · rfl
                  · (intro w hs; (try dsimp only at hs); go_simp; try (with_reducible rfl))
                  try simp only [Act.put, na, nc, ns]
                  refine wpAnyH_take (i := 10) (oi := ?_) (v := ?_) ?_ (by kernel_rfl) (by kernel_rfl) (by kernel_rfl) ?_ (Or.inl ⟨?_, ?_⟩) (by assumption) ?_
                  rotate_left 2
                  · simp only [ga, gb, gc] <;> rfl
                  · exact fun _ _ _ h => h
                  · rfl
                  · (intro w hs; (try dsimp only at hs); go_simp; try (with_reducible rfl))
                  try simp only [Act.put, na, nc, ns]
                  refine wpAnyH_ready (rs := [12]) (by kernel_rfl) (by simp) ?_
                  refine AllReadyH.cons (o := _) (by simp only [ga, gb, gc] <;> rfl) (fun K hK => ?_) ?_
                  · go_simp
                    refine hK.out _ _ ?_ (fun hh => ?_)
                    · (try dsimp only)
                      exact KS.out _ (leaf_fill HB5.out HRMr.out HF5.out.1 HF5.out.2 (l := T2) (m := (T.length + 1)) HT2.out.1 HN5.out rfl).1
                    clear hK K
                    try simp only [Act.put, na, nc, ns]
                    refine wpAnyH_take (i := 13) (oi := ?_) (v := ?_) ?_ (by kernel_rfl) (by kernel_rfl) (by kernel_rfl) ?_ (Or.inl ⟨?_, ?_⟩) (by assumption) ?_
                    rotate_left 2
                    · simp only [ga, gb, gc] <;> rfl
                    · exact fun _ _ _ h => h
                    · rfl
                    · (intro w hs; (try dsimp only at hs); go_simp; try (with_reducible rfl))
                    try simp only [Act.put, na, nc, ns]
                    refine wpAnyH_done (by kernel_rfl) ?_ _
                    go_wp2_with fail
                    go_meet
                    have h := leaf_fill HB5.out HRMr.out HF5.out.1 HF5.out.2 (l := T2) (m := (T.length + 1)) HT2.out.1 HN5.out rfl
                    exact ⟨_, _, _, _, _, rfl, rfl, h.1, h.2⟩
                  exact AllReadyH.nil
                exact AllReadyH.nil
              exact AllReadyH.nil
            refine AllReadyH.cons (o := _) (by simp only [ga, gb, gc] <;> rfl) (fun K hK => ?_) ?_
            · go_simp
              refine hK.out _ _ ?_ (fun hh => ?_)
              · (try dsimp only)
                exact KS.out _ (Below.new ((Below.refl wr.heap.size wr).drew) _)
              clear hK K
              try simp only [Act.put, na, nc, ns]
              refine wpAnyH_ready (rs := [6]) (by kernel_rfl) (by simp) ?_
              refine AllReadyH.cons (o := _) (by simp only [ga, gb, gc] <;> rfl) (fun K hK => ?_) ?_
              · go_simp
                refine (ref_any (c : Int) _).mono ?_
                rintro e4 w4 ⟨rfl, hb4⟩
                have HF4 := Lib.hid ((Fresh.new wr.drew wr.heap.size zeroC 26 rfl).below hb4)
                have HB4 := Lib.hid (Below.step (w := wr) ((Below.new ((Below.refl wr.heap.size wr).drew) _)) hb4)
                clear hb4
                go_wp2_with fail
                refine hK.out _ _ ?_ (fun hh => ?_)
                · (try dsimp only)
                  exact KS.out _ HB4.out
                clear hK K
                try simp only [Act.put, na, nc, ns]
                refine wpAnyH_ready (rs := [7]) (by kernel_rfl) (by simp) ?_
                refine AllReadyH.cons (o := _) (by simp only [ga, gb, gc] <;> rfl) (fun K hK => ?_) ?_
                · go_simp
                  refine (HA1.out _ HB4.out).mono ?_
                  rintro e5 w5 ⟨ba5, bc5, ka5, kc5, rfl, hb5, hn5⟩
                  have F5 := HF4.out.below hb5
                  obtain ⟨⟨z0, z1, z2, z3, z4, z5⟩, q0, q1, q2, q3, q4, q5⟩ := zcells F5
                  have HF5 := Lib.hid (And.intro F5 (Nat.le_refl wr.heap.size))
                  clear F5
                  have HB5 := Lib.hid (Below.step (w := wr) (HB4.out) hb5)
                  have HN5 := Lib.hid hn5
                  clear hb5 hn5
                  go_wp2_with fail
                  refine hK.out _ _ ?_ (fun hh => ?_)
                  · (try dsimp only)
                    exact KS.out _ HB5.out
                  clear hK K
                  try simp only [Act.put, na, nc, ns]
                  refine wpAnyH_take (i := 8) (oi := ?_) (v := ?_) ?_ (by kernel_rfl) (by kernel_rfl) (by kernel_rfl) ?_ (Or.inl ⟨?_, ?_⟩) (by assumption) ?_
                  rotate_left 2
                  · simp only [ga, gb, gc] <;> rfl
                  · exact fun _ _ _ h => h
                  · rfl
                  · (intro w hs; (try dsimp only at hs); go_simp; try (with_reducible rfl))
                  try simp only [Act.put, na, nc, ns]
                  refine wpAnyH_take (i := 9) (oi := ?_) (v := ?_) ?_ (by kernel_rfl) (by kernel_rfl) (by kernel_rfl) ?_ (Or.inl ⟨?_, ?_⟩) (by assumption) ?_
                  rotate_left 2
                  · simp only [ga, gb, gc] <;> rfl
                  · exact fun _ _ _ h => h
                  · rfl
                  · (intro w hs; (try dsimp only at hs); go_simp; try (with_reducible rfl))
                  try simp only [Act.put, na, nc, ns]
                  refine wpAnyH_take (i := 10) (oi := ?_) (v := ?_) ?_ (by kernel_rfl) (by kernel_rfl) (by kernel_rfl) ?_ (Or.inl ⟨?_, ?_⟩) (by assumption) ?_
                  rotate_left 2
                  · simp only [ga, gb, gc] <;> rfl
                  · exact fun _ _ _ h => h
                  · rfl
                  · (intro w hs; (try dsimp only at hs); go_simp; try (with_reducible rfl))
                  try simp only [Act.put, na, nc, ns]
                  refine wpAnyH_ready (rs := [12]) (by kernel_rfl) (by simp) ?_
                  refine AllReadyH.cons (o := _) (by simp only [ga, gb, gc] <;> rfl) (fun K hK => ?_) ?_
                  · go_simp
                    refine hK.out _ _ ?_ (fun hh => ?_)
                    · (try dsimp only)
                      exact KS.out _ (leaf_fill HB5.out HRMr.out HF5.out.1 HF5.out.2 (l := T2) (m := (T.length + 1)) HT2.out.1 HN5.out rfl).1
                    clear hK K
                    try simp only [Act.put, na, nc, ns]
                    refine wpAnyH_take (i := 13) (oi := ?_) (v := ?_) ?_ (by kernel_rfl) (by kernel_rfl) (by kernel_rfl) ?_ (Or.inl ⟨?_, ?_⟩) (by assumption) ?_
                    rotate_left 2
                    · simp only [ga, gb, gc] <;> rfl
                    · exact fun _ _ _ h => h
                    · rfl
                    · (intro w hs; (try dsimp only at hs); go_simp; try (with_reducible rfl))
                    try simp only [Act.put, na, nc, ns]
                    refine wpAnyH_done (by kernel_rfl) ?_ _
                    go_wp2_with fail
                    go_meet
                    have h := leaf_fill HB5.out HRMr.out HF5.out.1 HF5.out.2 (l := T2) (m := (T.length + 1)) HT2.out.1 HN5.out rfl
                    exact ⟨_, _, _, _, _, rfl, rfl, h.1, h.2⟩
                  exact AllReadyH.nil
                exact AllReadyH.nil
              exact AllReadyH.nil
            exact AllReadyH.nil
          case rest =>
            obtain ⟨P10, ba, bc, ka, kc, rfl, rfl, hbx, hn10⟩ := hcut
            have hGx := HG.out.below hbx
            obtain ⟨⟨y0, y1, y2, y3, y4, y5⟩, -⟩ := hn10.cells
            obtain ⟨⟨z0, z1, z2, z3, z4, z5⟩, t0, t1, t2, t3, t4, t5⟩ := hGx.n5.cells
            have bx := HBy.out _ hGx.low
            obtain ⟨hx0, hx1⟩ := hGx.hb.cell x
            rw [HHb.out] at hx0
            have HGx := Lib.hid hGx
            have HN10 := Lib.hid hn10
            clear hbx hGx hn10 HA1 KS HG
            go_upto_region 17 with fail
            obtain ⟨W16, hW16⟩ : ∃ W16, W16 = (((((wc.setCell ⟨P5, 0, none⟩ (.int .i64 5)).setCell ⟨P5, 1, none⟩ (.string ⟨#[]⟩)).setCell ⟨P5, 2, none⟩ (.string ⟨#[]⟩)).setCell ⟨P5, 3, none⟩ (.string ⟨#[]⟩)).setCell ⟨P5, 4, none⟩ (.slice ba (T.length + 1) bc)).setCell ⟨P5, 5, none⟩ (.slice ka (T.length + 1) kc) := ⟨_, rfl⟩
            obtain ⟨W17, hW17⟩ : ∃ W17, W17 = W16.setCell ⟨H, x.toNat, none⟩ (.bool true) := ⟨_, rfl⟩
            obtain ⟨hTu, ⟨hT16, hB16⟩, hGy⟩ := HGx.out.top HRMf.out HT2.out.1 HN10.out.nd hW16 x true HT2.out.2 hW17
            have hp := HGx.out.hp
            have hlow16 : Below W.heap.size W W16 := hT16.below HGx.out.low (by intro y hy; simp at hy; omega) HGx.out.low.size
            have b16 := HBy.out _ hlow16
            obtain ⟨g0, g1⟩ := hB16.cell x
            have HGy := Lib.hid hGy
            clear hTu hT16 hB16 hGy hp hlow16 y0 y1 y2 y3 y4 y5 z0 z1 z2 z3 z4 z5 t0 t1 t2 t3 t4 t5 bx hx0 hx1
            rw [← hW16]
            have HW17 := Lib.hid hW17
            clear hW16 hW17
            go_upto_region 19 with fail
            rw [← HW17.out]
            clear HW17 b16 g0 g1
            have hGy := HGy.out
            obtain ⟨L2, hL2⟩ : ∃ L2, Lo.insertIdx (placeIx x Lo) (x, (c : Int), 1) = L2 := ⟨_, rfl⟩
            have hL2l : L2.length = Lo.length + 1 := by rw [← hL2, List.length_insertIdx, if_pos (place_le _ _)]
            obtain ⟨hE2, hN2⟩ := nb_add HUl.out HiR.out HHl.out false (by simp)
            obtain ⟨kk, hkk⟩ : ∃ kk, (ofK ((Lo.length + 1 : Nat) : Int)).1 = kk := ⟨_, rfl⟩
            rw [hL2] at hN2
            have HKK : Hid ((ofK L2.length).1 = kk) := by show _ = _; rw [hL2l]; exact hkk
            have hN2 : addN (nb (ofK Lo.length).1 ⟨#[112]⟩ Lo) x (c : Int) 1 false = nb kk ⟨#[112]⟩ L2 := by rw [hN2]; show nb (ofK ((Lo.length + 1 : Nat) : Int)).1 ⟨#[112]⟩ L2 = _; rw [hkk]
            have HL2 := Lib.hid hL2l
            have HA2 : Hid (∀ w, Below W17.heap.size W17 w → Calls Tryd.prog 9 #[.agg #[.int .i64 (ofK Lo.length).1, .string ⟨#[]⟩, .string ⟨#[]⟩, .string ⟨#[112]⟩, .slice b6 Lo.length f6, .slice k6 Lo.length c6], .int .u8 (x.toNat : Int), .agg #[.int .i64 (c : Int), .int .u32 1], .bool false] w fun e w' => ∃ ba bc ka kc, e = .returned (.tuple #[.agg #[.int .i64 kk, .string ⟨#[]⟩, .string ⟨#[]⟩, .string ⟨#[112]⟩, .slice ba (Lo.length + 1) bc, .slice ka (Lo.length + 1) kc], .int .i64 0]) ∧ Below w.heap.size w w' ∧ NdAt w' (nb kk ⟨#[112]⟩ L2) ba bc ka kc) := by
              intro w hb
              have h1 := nbAdd_any rfl (hGy.n6.nd.below hb) x (c : Int) 1 false
              rw [hE2, hN2] at h1
              exact h1.mono fun e w' h => mk_nb HL2.out h
            have HGTz : Hid (GT T2 L2) := (by have h := HGT.out.putB HiR.out HHb.out HHl.out; rw [HT2e.out, hL2] at h; exact h)
            have HLy := Lib.hid hGy.low
            have HRMy : Hid (Rm W17) := HRMf.out _ hGy.low
            have KS2 : Hid (∀ w, Below W17.heap.size W17 w → ((w.cell? ⟨P6, 0, none⟩ = some (.int .i64 (ofK Lo.length).1) ∧ w.cell? ⟨P6, 1, none⟩ = some (.string ⟨#[]⟩) ∧ w.cell? ⟨P6, 2, none⟩ = some (.string ⟨#[]⟩) ∧ w.cell? ⟨P6, 3, none⟩ = some (.string ⟨#[112]⟩) ∧ w.cell? ⟨P6, 4, none⟩ = some (.slice b6 Lo.length f6) ∧ w.cell? ⟨P6, 5, none⟩ = some (.slice k6 Lo.length c6)) ∧ w.cell? ⟨blk, off + c, none⟩ = some (.int .u8 (x.toNat : Int)))) := fun w hb => ⟨(hGy.n6.below hb).cells.1, HBy.out _ (Below.step HLy.out hb)⟩
            clear hGy hE2 hN2 hL2 hL2l hkk
            go_cut [12, 13] (fun s12 s13 wx => ∃ P ba bc ka kc, s12 = .pointer (some ⟨P, 0, none⟩) ∧ s13 = .int .i64 0 ∧ Below W17.heap.size W17 wx ∧ NBx wx P kk ⟨#[112]⟩ L2 ba (Lo.length + 1) bc ka kc)
            case first =>
              refine wp_region_held_drew (S := fun W' => (W'.cell? ⟨P6, 0, none⟩ = some (.int .i64 (ofK Lo.length).1) ∧ W'.cell? ⟨P6, 1, none⟩ = some (.string ⟨#[]⟩) ∧ W'.cell? ⟨P6, 2, none⟩ = some (.string ⟨#[]⟩) ∧ W'.cell? ⟨P6, 3, none⟩ = some (.string ⟨#[112]⟩) ∧ W'.cell? ⟨P6, 4, none⟩ = some (.slice b6 Lo.length f6) ∧ W'.cell? ⟨P6, 5, none⟩ = some (.slice k6 Lo.length c6)) ∧ W'.cell? ⟨blk, off + c, none⟩ = some (.int .u8 (x.toNat : Int))) (by kernel_rfl) ?_ (fun hh => ?_)
              · (try dsimp only)
                exact KS2.out _ (Below.refl W17.heap.size W17).drew
              refine wpAnyH_take (i := 0) (oi := ?_) (v := ?_) ?_ (by kernel_rfl) (by kernel_rfl) (by kernel_rfl) ?_ (Or.inl ⟨?_, ?_⟩) (by assumption) ?_
              rotate_left 2
              · simp only [ga, gc] <;> rfl
              · exact fun _ _ _ h => h
              · rfl
              · (intro w hs; (try dsimp only at hs); go_simp; try (with_reducible rfl))
              try simp only [Act.put, na, nc, ns]
              refine wpAnyH_take (i := 1) (oi := ?_) (v := ?_) ?_ (by kernel_rfl) (by kernel_rfl) (by kernel_rfl) ?_ (Or.inl ⟨?_, ?_⟩) (by assumption) ?_
              rotate_left 2
              · simp only [ga, gb, gc] <;> rfl
              · exact fun _ _ _ h => h
              · rfl
              · (intro w hs; (try dsimp only at hs); go_simp; try (with_reducible rfl))
              try simp only [Act.put, na, nc, ns]
              refine wpAnyH_take (i := 2) (oi := ?_) (v := ?_) ?_ (by kernel_rfl) (by kernel_rfl) (by kernel_rfl) ?_ (Or.inl ⟨?_, ?_⟩) (by assumption) ?_
              rotate_left 2
              · simp only [ga, gb, gc] <;> rfl
              · exact fun _ _ _ h => h
              · rfl
              · (intro w hs; (try dsimp only at hs); go_simp; try (with_reducible rfl))
              try simp only [Act.put, na, nc, ns]
              refine wpAnyH_take (i := 3) (oi := ?_) (v := ?_) ?_ (by kernel_rfl) (by kernel_rfl) (by kernel_rfl) ?_ (Or.inl ⟨?_, ?_⟩) (by assumption) ?_
              rotate_left 2
              · simp only [ga, gb, gc] <;> rfl
              · exact fun _ _ _ h => h
              · rfl
              · (intro w hs; (try dsimp only at hs); go_simp; try (with_reducible rfl))
              try simp only [Act.put, na, nc, ns]
              refine wpAnyH_take (i := 4) (oi := ?_) (v := ?_) ?_ (by kernel_rfl) (by kernel_rfl) (by kernel_rfl) ?_ (Or.inl ⟨?_, ?_⟩) (by assumption) ?_
              rotate_left 2
              · simp only [ga, gb, gc] <;> rfl
              · exact fun _ _ _ h => h
              · rfl
              · (intro w hs; (try dsimp only at hs); go_simp; try (with_reducible rfl))
              try simp only [Act.put, na, nc, ns]
              refine wpAnyH_take (i := 5) (oi := ?_) (v := ?_) ?_ (by kernel_rfl) (by kernel_rfl) (by kernel_rfl) ?_ (Or.inl ⟨?_, ?_⟩) (by assumption) ?_
              rotate_left 2
              · simp only [ga, gb, gc] <;> rfl
              · exact fun _ _ _ h => h
              · rfl
              · (intro w hs; (try dsimp only at hs); go_simp; try (with_reducible rfl))
              try simp only [Act.put, na, nc, ns]
              refine wpAnyH_ready (rs := [6, 11]) (by kernel_rfl) (by simp) ?_
              refine AllReadyH.cons (o := _) (by simp only [ga, gb, gc] <;> rfl) (fun K hK => ?_) ?_
              · go_simp
                refine (ref_any (c : Int) _).mono ?_
                rintro e4 w4 ⟨rfl, hb4⟩
                have HB4 := Lib.hid (Below.step (w := W17) ((Below.refl W17.heap.size W17).drew) hb4)
                clear hb4
                go_wp2_with fail
                refine hK.out _ _ ?_ (fun hh => ?_)
                · (try dsimp only)
                  exact KS2.out _ HB4.out
                clear hK K
                try simp only [Act.put, na, nc, ns]
                refine wpAnyH_ready (rs := [7, 11]) (by kernel_rfl) (by simp) ?_
                refine AllReadyH.cons (o := _) (by simp only [ga, gb, gc] <;> rfl) (fun K hK => ?_) ?_
                · go_simp
                  refine (HA2.out _ HB4.out).mono ?_
                  rintro e5 w5 ⟨ba5, bc5, ka5, kc5, rfl, hb5, hn5⟩
                  have HB5 := Lib.hid (Below.step (w := W17) (HB4.out) hb5)
                  have HN5 := Lib.hid hn5
                  clear hb5 hn5
                  go_wp2_with fail
                  refine hK.out _ _ ?_ (fun hh => ?_)
                  · (try dsimp only)
                    exact KS2.out _ HB5.out
                  clear hK K
                  try simp only [Act.put, na, nc, ns]
                  refine wpAnyH_take (i := 8) (oi := ?_) (v := ?_) ?_ (by kernel_rfl) (by kernel_rfl) (by kernel_rfl) ?_ (Or.inl ⟨?_, ?_⟩) (by assumption) ?_
                  rotate_left 2
                  · simp only [ga, gb, gc] <;> rfl
                  · exact fun _ _ _ h => h
                  · rfl
                  · (intro w hs; (try dsimp only at hs); go_simp; try (with_reducible rfl))
                  try simp only [Act.put, na, nc, ns]
                  refine wpAnyH_take (i := 9) (oi := ?_) (v := ?_) ?_ (by kernel_rfl) (by kernel_rfl) (by kernel_rfl) ?_ (Or.inl ⟨?_, ?_⟩) (by assumption) ?_
                  rotate_left 2
                  · simp only [ga, gb, gc] <;> rfl
                  · exact fun _ _ _ h => h
                  · rfl
                  · (intro w hs; (try dsimp only at hs); go_simp; try (with_reducible rfl))
                  try simp only [Act.put, na, nc, ns]
                  refine wpAnyH_take (i := 10) (oi := ?_) (v := ?_) ?_ (by kernel_rfl) (by kernel_rfl) (by kernel_rfl) ?_ (Or.inl ⟨?_, ?_⟩) (by assumption) ?_
                  rotate_left 2
                  · simp only [ga, gb, gc] <;> rfl
                  · exact fun _ _ _ h => h
                  · rfl
                  · (intro w hs; (try dsimp only at hs); go_simp; try (with_reducible rfl))
                  try simp only [Act.put, na, nc, ns]
                  refine wpAnyH_ready (rs := [11]) (by kernel_rfl) (by simp) ?_
                  refine AllReadyH.cons (o := _) (by simp only [ga, gb, gc] <;> rfl) (fun K hK => ?_) ?_
                  · go_simp
                    refine hK.out _ _ ?_ (fun hh => ?_)
                    · (try dsimp only)
                      exact KS2.out _ (Below.new (HB5.out) _)
                    clear hK K
                    try simp only [Act.put, na, nc, ns]
                    refine wpAnyH_ready (rs := [12]) (by kernel_rfl) (by simp) ?_
                    refine AllReadyH.cons (o := _) (by simp only [ga, gb, gc] <;> rfl) (fun K hK => ?_) ?_
                    · go_simp
                      refine hK.out _ _ ?_ (fun hh => ?_)
                      · (try dsimp only)
                        exact KS2.out _ (leaf_new HB5.out (l := L2) (m := (Lo.length + 1)) HL2.out HN5.out rfl).1
                      clear hK K
                      try simp only [Act.put, na, nc, ns]
                      refine wpAnyH_take (i := 13) (oi := ?_) (v := ?_) ?_ (by kernel_rfl) (by kernel_rfl) (by kernel_rfl) ?_ (Or.inl ⟨?_, ?_⟩) (by assumption) ?_
                      rotate_left 2
                      · simp only [ga, gb, gc] <;> rfl
                      · exact fun _ _ _ h => h
                      · rfl
                      · (intro w hs; (try dsimp only at hs); go_simp; try (with_reducible rfl))
                      try simp only [Act.put, na, nc, ns]
                      refine wpAnyH_done (by kernel_rfl) ?_ _
                      go_wp2_with fail
                      go_meet
                      have h := leaf_new HB5.out (l := L2) (m := (Lo.length + 1)) HL2.out HN5.out rfl
                      exact ⟨_, _, _, _, _, rfl, rfl, h.1, h.2⟩
                    exact AllReadyH.nil
                  exact AllReadyH.nil
                refine AllReadyH.cons (o := _) (by simp only [ga, gb, gc] <;> rfl) (fun K hK => ?_) ?_
                · go_simp
                  refine hK.out _ _ ?_ (fun hh => ?_)
                  · (try dsimp only)
                    exact KS2.out _ (Below.new (HB4.out) _)
                  clear hK K
                  try simp only [Act.put, na, nc, ns]
                  refine wpAnyH_ready (rs := [7]) (by kernel_rfl) (by simp) ?_
                  refine AllReadyH.cons (o := _) (by simp only [ga, gb, gc] <;> rfl) (fun K hK => ?_) ?_
                  · go_simp
                    refine (HA2.out _ (Below.new (HB4.out) _)).mono ?_
                    rintro e5 w5 ⟨ba5, bc5, ka5, kc5, rfl, hb5, hn5⟩
                    have F5 := (Fresh.new w4 w4.heap.size zeroC 26 rfl).below hb5
                    obtain ⟨⟨z0, z1, z2, z3, z4, z5⟩, q0, q1, q2, q3, q4, q5⟩ := zcells F5
                    have HF5 := Lib.hid (And.intro F5 (HB4.out.size))
                    clear F5
                    have HB5 := Lib.hid (Below.step (w := W17) ((Below.new (HB4.out) _)) hb5)
                    have HN5 := Lib.hid hn5
                    clear hb5 hn5
                    go_wp2_with fail
                    refine hK.out _ _ ?_ (fun hh => ?_)
                    · (try dsimp only)
                      exact KS2.out _ HB5.out
                    clear hK K
                    try simp only [Act.put, na, nc, ns]
                    refine wpAnyH_take (i := 8) (oi := ?_) (v := ?_) ?_ (by kernel_rfl) (by kernel_rfl) (by kernel_rfl) ?_ (Or.inl ⟨?_, ?_⟩) (by assumption) ?_
                    rotate_left 2
                    · simp only [ga, gb, gc] <;> rfl
                    · exact fun _ _ _ h => h
                    · rfl
                    · (intro w hs; (try dsimp only at hs); go_simp; try (with_reducible rfl))
                    try simp only [Act.put, na, nc, ns]
                    refine wpAnyH_take (i := 9) (oi := ?_) (v := ?_) ?_ (by kernel_rfl) (by kernel_rfl) (by kernel_rfl) ?_ (Or.inl ⟨?_, ?_⟩) (by assumption) ?_
                    rotate_left 2
                    · simp only [ga, gb, gc] <;> rfl
                    · exact fun _ _ _ h => h
                    · rfl
                    · (intro w hs; (try dsimp only at hs); go_simp; try (with_reducible rfl))
                    try simp only [Act.put, na, nc, ns]
                    refine wpAnyH_take (i := 10) (oi := ?_) (v := ?_) ?_ (by kernel_rfl) (by kernel_rfl) (by kernel_rfl) ?_ (Or.inl ⟨?_, ?_⟩) (by assumption) ?_
                    rotate_left 2
                    · simp only [ga, gb, gc] <;> rfl
                    · exact fun _ _ _ h => h
                    · rfl
                    · (intro w hs; (try dsimp only at hs); go_simp; try (with_reducible rfl))
                    try simp only [Act.put, na, nc, ns]
                    refine wpAnyH_ready (rs := [12]) (by kernel_rfl) (by simp) ?_
                    refine AllReadyH.cons (o := _) (by simp only [ga, gb, gc] <;> rfl) (fun K hK => ?_) ?_
                    · go_simp
                      refine hK.out _ _ ?_ (fun hh => ?_)
                      · (try dsimp only)
                        exact KS2.out _ (leaf_fill HB5.out HRMy.out HF5.out.1 HF5.out.2 (l := L2) (m := (Lo.length + 1)) HL2.out HN5.out rfl).1
                      clear hK K
                      try simp only [Act.put, na, nc, ns]
                      refine wpAnyH_take (i := 13) (oi := ?_) (v := ?_) ?_ (by kernel_rfl) (by kernel_rfl) (by kernel_rfl) ?_ (Or.inl ⟨?_, ?_⟩) (by assumption) ?_
                      rotate_left 2
                      · simp only [ga, gb, gc] <;> rfl
                      · exact fun _ _ _ h => h
                      · rfl
                      · (intro w hs; (try dsimp only at hs); go_simp; try (with_reducible rfl))
                      try simp only [Act.put, na, nc, ns]
                      refine wpAnyH_done (by kernel_rfl) ?_ _
                      go_wp2_with fail
                      go_meet
                      have h := leaf_fill HB5.out HRMy.out HF5.out.1 HF5.out.2 (l := L2) (m := (Lo.length + 1)) HL2.out HN5.out rfl
                      exact ⟨_, _, _, _, _, rfl, rfl, h.1, h.2⟩
                    exact AllReadyH.nil
                  exact AllReadyH.nil
                exact AllReadyH.nil
              refine AllReadyH.cons (o := _) (by simp only [ga, gb, gc] <;> rfl) (fun K hK => ?_) ?_
              · go_simp
                refine hK.out _ _ ?_ (fun hh => ?_)
                · (try dsimp only)
                  exact KS2.out _ (Below.new ((Below.refl W17.heap.size W17).drew) _)
                clear hK K
                try simp only [Act.put, na, nc, ns]
                refine wpAnyH_ready (rs := [6]) (by kernel_rfl) (by simp) ?_
                refine AllReadyH.cons (o := _) (by simp only [ga, gb, gc] <;> rfl) (fun K hK => ?_) ?_
                · go_simp
                  refine (ref_any (c : Int) _).mono ?_
                  rintro e4 w4 ⟨rfl, hb4⟩
                  have HF4 := Lib.hid ((Fresh.new W17.drew W17.heap.size zeroC 26 rfl).below hb4)
                  have HB4 := Lib.hid (Below.step (w := W17) ((Below.new ((Below.refl W17.heap.size W17).drew) _)) hb4)
                  clear hb4
                  go_wp2_with fail
                  refine hK.out _ _ ?_ (fun hh => ?_)
                  · (try dsimp only)
                    exact KS2.out _ HB4.out
                  clear hK K
                  try simp only [Act.put, na, nc, ns]
                  refine wpAnyH_ready (rs := [7]) (by kernel_rfl) (by simp) ?_
                  refine AllReadyH.cons (o := _) (by simp only [ga, gb, gc] <;> rfl) (fun K hK => ?_) ?_
                  · go_simp
                    refine (HA2.out _ HB4.out).mono ?_
                    rintro e5 w5 ⟨ba5, bc5, ka5, kc5, rfl, hb5, hn5⟩
                    have F5 := HF4.out.below hb5
                    obtain ⟨⟨z0, z1, z2, z3, z4, z5⟩, q0, q1, q2, q3, q4, q5⟩ := zcells F5
                    have HF5 := Lib.hid (And.intro F5 (Nat.le_refl W17.heap.size))
                    clear F5
                    have HB5 := Lib.hid (Below.step (w := W17) (HB4.out) hb5)
                    have HN5 := Lib.hid hn5
                    clear hb5 hn5
                    go_wp2_with fail
                    refine hK.out _ _ ?_ (fun hh => ?_)
                    · (try dsimp only)
                      exact KS2.out _ HB5.out
                    clear hK K
                    try simp only [Act.put, na, nc, ns]
                    refine wpAnyH_take (i := 8) (oi := ?_) (v := ?_) ?_ (by kernel_rfl) (by kernel_rfl) (by kernel_rfl) ?_ (Or.inl ⟨?_, ?_⟩) (by assumption) ?_
                    rotate_left 2
                    · simp only [ga, gb, gc] <;> rfl
                    · exact fun _ _ _ h => h
                    · rfl
                    · (intro w hs; (try dsimp only at hs); go_simp; try (with_reducible rfl))
                    try simp only [Act.put, na, nc, ns]
                    refine wpAnyH_take (i := 9) (oi := ?_) (v := ?_) ?_ (by kernel_rfl) (by kernel_rfl) (by kernel_rfl) ?_ (Or.inl ⟨?_, ?_⟩) (by assumption) ?_
                    rotate_left 2
                    · simp only [ga, gb, gc] <;> rfl
                    · exact fun _ _ _ h => h
                    · rfl
                    · (intro w hs; (try dsimp only at hs); go_simp; try (with_reducible rfl))
                    try simp only [Act.put, na, nc, ns]
                    refine wpAnyH_take (i := 10) (oi := ?_) (v := ?_) ?_ (by kernel_rfl) (by kernel_rfl) (by kernel_rfl) ?_ (Or.inl ⟨?_, ?_⟩) (by assumption) ?_
                    rotate_left 2
                    · simp only [ga, gb, gc] <;> rfl
                    · exact fun _ _ _ h => h
                    · rfl
                    · (intro w hs; (try dsimp only at hs); go_simp; try (with_reducible rfl))
                    try simp only [Act.put, na, nc, ns]
                    refine wpAnyH_ready (rs := [12]) (by kernel_rfl) (by simp) ?_
                    refine AllReadyH.cons (o := _) (by simp only [ga, gb, gc] <;> rfl) (fun K hK => ?_) ?_
                    · go_simp
                      refine hK.out _ _ ?_ (fun hh => ?_)
                      · (try dsimp only)
                        exact KS2.out _ (leaf_fill HB5.out HRMy.out HF5.out.1 HF5.out.2 (l := L2) (m := (Lo.length + 1)) HL2.out HN5.out rfl).1
                      clear hK K
                      try simp only [Act.put, na, nc, ns]
                      refine wpAnyH_take (i := 13) (oi := ?_) (v := ?_) ?_ (by kernel_rfl) (by kernel_rfl) (by kernel_rfl) ?_ (Or.inl ⟨?_, ?_⟩) (by assumption) ?_
                      rotate_left 2
                      · simp only [ga, gb, gc] <;> rfl
                      · exact fun _ _ _ h => h
                      · rfl
                      · (intro w hs; (try dsimp only at hs); go_simp; try (with_reducible rfl))
                      try simp only [Act.put, na, nc, ns]
                      refine wpAnyH_done (by kernel_rfl) ?_ _
                      go_wp2_with fail
                      go_meet
                      have h := leaf_fill HB5.out HRMy.out HF5.out.1 HF5.out.2 (l := L2) (m := (Lo.length + 1)) HL2.out HN5.out rfl
                      exact ⟨_, _, _, _, _, rfl, rfl, h.1, h.2⟩
                    exact AllReadyH.nil
                  exact AllReadyH.nil
                exact AllReadyH.nil
              exact AllReadyH.nil
            case rest =>
              obtain ⟨P12, ba2, bc2, ka2, kc2, rfl, rfl, hbx, hn12⟩ := hcut
              have hGz := HGy.out.below hbx
              obtain ⟨⟨y0, y1, y2, y3, y4, y5⟩, -⟩ := hn12.cells
              obtain ⟨⟨z0, z1, z2, z3, z4, z5⟩, t0, t1, t2, t3, t4, t5⟩ := hGz.n6.cells
              obtain ⟨W21, hW21⟩ : ∃ W21, W21 = (((((wc.setCell ⟨P6, 0, none⟩ (.int .i64 kk)).setCell ⟨P6, 1, none⟩ (.string ⟨#[]⟩)).setCell ⟨P6, 2, none⟩ (.string ⟨#[]⟩)).setCell ⟨P6, 3, none⟩ (.string ⟨#[112]⟩)).setCell ⟨P6, 4, none⟩ (.slice ba2 (Lo.length + 1) bc2)).setCell ⟨P6, 5, none⟩ (.slice ka2 (Lo.length + 1) kc2) := ⟨_, rfl⟩
              obtain ⟨_, hGq⟩ := hGz.lowr HRMf.out HL2.out HKK.out hn12.nd hW21
              have HGz := Lib.hid hGq
              have HW21 := Lib.hid hW21
              clear hW21 hGq hGz hbx hn12 HA2 KS2
              go_upto_region 22 with fail
              rw [← HW21.out]
              clear HW21 y0 y1 y2 y3 y4 y5 z0 z1 z2 z3 z4 z5 t0 t1 t2 t3 t4 t5
              have hGz := HGz.out
              have hz5 := hGz.n5.cells.1
              have hz6 := hGz.n6.cells.1
              rw [HT2.out.1] at hz5
              obtain ⟨y0, y1, y2, y3, y4, y5⟩ := hz5
              obtain ⟨z0, z1, z2, z3, z4, z5⟩ := hz6
              have HOf := Lib.hid (fun w (hb : Below W21.heap.size W21 w) => of_any (L2.length : Int) w (HRMf.out _ (Below.step hGz.low hb)))
              have HAn : Hid (∀ w, Below W21.heap.size W21 w → Calls Tryd.prog 18 #[.agg #[.int .i64 5, .string ⟨#[]⟩, .string ⟨#[]⟩, .string ⟨#[]⟩, .slice ba (T.length + 1) bc, .slice ka (T.length + 1) kc]] w fun e w' => e = .returned (.bool true) ∧ Below w.heap.size w w') := by
                intro w hb
                have h1 := nbAnchor_any rfl (hGz.n5.nd.below hb)
                rw [HGTz.out.topA] at h1
                rw [HT2.out.1] at h1
                exact h1
              have HRi : Hid (∀ w, Below W21.heap.size W21 w → Calls Tryd.prog 7 #[.agg #[.int .i64 (ofK L2.length).1, .string ⟨#[]⟩, .string ⟨#[]⟩, .string ⟨#[112]⟩, .slice ba2 L2.length bc2, .slice ka2 L2.length kc2]] w fun e w' => e = .returned (.bool true) ∧ Below w.heap.size w w') := by
                intro w hb
                have h1 := nbRight_any rfl (hGz.n6.nd.below hb)
                rw [right_of_right HGTz.out.lowR] at h1
                exact h1
              have HC5 : Hid (∀ w, Below W21.heap.size W21 w → (w.cell? ⟨P5, 5, none⟩ = some (.slice ka (T.length + 1) kc)) ∧ (w.cell? ⟨P6, 0, none⟩ = some (.int .i64 (ofK L2.length).1) ∧ w.cell? ⟨P6, 1, none⟩ = some (.string ⟨#[]⟩) ∧ w.cell? ⟨P6, 2, none⟩ = some (.string ⟨#[]⟩) ∧ w.cell? ⟨P6, 3, none⟩ = some (.string ⟨#[112]⟩) ∧ w.cell? ⟨P6, 4, none⟩ = some (.slice ba2 L2.length bc2) ∧ w.cell? ⟨P6, 5, none⟩ = some (.slice ka2 L2.length kc2))) := by
                intro w hb
                have h1 := (hGz.n5.below hb).cells.1.2.2.2.2.2
                rw [HT2.out.1] at h1
                exact ⟨h1, (hGz.n6.below hb).cells.1⟩
              clear hGz
              go_wp2_with (first
                | (go_at_call 17; refine (HOf.out _ (Below.refl _ _)).mono ?_; rintro e6 w6 ⟨rfl, h1⟩; replace h1 := h1.symm; subst h1)
                | (go_at_call 18; refine (HAn.out _ (Below.refl _ _)).mono ?_; rintro e7 w7 ⟨rfl, hb⟩; have HB7 := Lib.hid hb; obtain ⟨q5, z0, z1, z2, z3, z4, z5⟩ := HC5.out _ hb; clear hb)
                | (go_at_call 7; refine (HRi.out _ HB7.out).mono ?_; rintro e8 w8 ⟨rfl, hb⟩; have HB8 := Lib.hid (Below.step HB7.out hb); obtain ⟨q5, z0, z1, z2, z3, z4, z5⟩ := HC5.out _ HB8.out; clear hb))
              go_roundw
              case rel =>
                refine ⟨⟨c + 1, T2, L2, _, _, _, _, _, _, _, _, by rw [HT2.out.1]; simp, by simp, by omega, ?_, HGTz.out, HGz.out.below HB8.out⟩⟩
                intro y hy
                rw [HT2.out.2] at hy
                by_cases e : y = x
                · rw [e]; exact List.mem_of_getElem? HX.out
                · rw [if_neg e] at hy; exact HSub.out y hy
              case measure => simp [intOf]; omega
    · have hce : n = c := by omega
      subst hce
      have c1 : ¬ (n : Int) < (n : Int) := by omega
      have jd : decide (n < n) = false := decide_eq_false hab
      go_wp2_with fail
      go_loopw [8, 16, 17, 18, 19, 20] (fun cv8 cv16 v17 v18 v19 v20 wr => G2 W lb n P5 P6 H cv8 cv16 wr) (fun _ cv _ _ _ _ _ => n - (intOf cv).toNat)
      case atStart => exact ⟨⟨0, T, Lo, b5, f5, k5, c5, b6, f6, k6, c6, rfl, rfl, Nat.zero_le _, (by intro x hx; rw [List.drop_zero]; exact HSub.out x hx), HGT.out, HG.out⟩⟩
      case round =>
        clear HG HGT HSub hG hgt hab hcn c1 jd
        obtain ⟨⟨c, T, Lo, b5, f5, k5, c5, b6, f6, k6, c6, rfl, rfl, hcn, hsub, hgt, hG⟩⟩ := hrel
        have HSub := Lib.hid hsub
        have HG := Lib.hid hG
        have HGT := Lib.hid hgt
        clear hsub
        by_cases hab : c < n
        · have cI0 : (0 : Int) ≤ (c : Int) := by omega
          have cI1 : (c : Int) < (n : Int) := by omega
          have jd : decide (c < n) = true := decide_eq_true hab
          obtain ⟨x, hx⟩ : ∃ x, lb[c]? = some x := ⟨_, List.getElem?_eq_getElem (by rw [HN.out]; exact hab)⟩
          obtain ⟨a1, q1, e1, hcb⟩ := HBR.out W (Below.refl _ _)
          obtain ⟨blk, off, hao, hlt, hbc⟩ := hcb c x hx
          cases e1
          subst hao
          have HBy : Hid (∀ w, Below W.heap.size W w → w.cell? ⟨blk, off + c, none⟩ = some (.int .u8 (x.toNat : Int))) := fun w hb => (hb.cell (p := ⟨blk, off + c, none⟩) hlt).trans hbc
          have HX := Lib.hid hx
          have x0 : (0 : Int) ≤ (x.toNat : Int) := by omega
          have x1 : (x.toNat : Int) < 256 := by have := x.toNat_lt; omega
          have hT256 : T.length ≤ 256 := srt_len hgt.ts
          have hL256 : Lo.length ≤ 256 := srt_len hgt.ls
          have tI : (T.length : Int) ≤ 256 := by omega
          have lI : (Lo.length : Int) ≤ 256 := by omega
          have hut := usable_of_anchor hgt.topA
          have hul := usable_of_right hgt.lowR
          clear hx hcb hlt hbc hT256 hL256 HI2
          by_cases hT0 : isIn x T = true
          · have hT := hT0
            clear hT0
            by_cases hsp : x = 0 ∨ x = 255
            · skip
              as_aux_lemma =>
                obtain ⟨T2, hT2⟩ : ∃ T2, takeS x T = T2 := ⟨_, rfl⟩
                have hT2l : T.length = T2.length + 1 := by
                  have h1 := isIn_lt hT
                  rw [← hT2, Mn.take_len, if_pos hT]
                  omega
                obtain ⟨hE1, hN1⟩ := nb_cut hut hT true
                rw [hT2] at hN1
                have hN1 : cutN (nb 5 ⟨#[]⟩ T) x true = nb 5 ⟨#[]⟩ T2 := hN1
                have hTk : ∀ y, isIn y T2 = if y = x then false else isIn y T := by
                  intro y
                  rw [Bool.eq_iff_iff, ← hT2, take_key hgt.ts]
                  by_cases e : y = x <;> simp [e]
                have tI2 : (T.length : Int) = (T2.length : Int) + 1 := by omega
                have HA1 : Hid (∀ w, Below wr.heap.size wr w → Calls Tryd.prog 10 #[.agg #[.int .i64 5, .string ⟨#[]⟩, .string ⟨#[]⟩, .string ⟨#[]⟩, .slice b5 T.length f5, .slice k5 T.length c5], .int .u8 (x.toNat : Int), .bool true] w fun e w' => ∃ ba bc ka kc, e = .returned (.tuple #[.agg #[.int .i64 5, .string ⟨#[]⟩, .string ⟨#[]⟩, .string ⟨#[]⟩, .slice ba T2.length bc, .slice ka T2.length kc], .int .i64 0]) ∧ Below w.heap.size w w' ∧ NdAt w' (nb 5 ⟨#[]⟩ T2) ba bc ka kc) := by
                  intro w hb
                  have h1 := nbCut_any rfl (hG.n5.nd.below hb) x true
                  rw [hE1, hN1] at h1
                  exact h1.mono fun e w' h => mk_nb rfl h
                have HLow := Lib.hid hG.low
                have HRMr : Hid (Rm wr) := HRMf.out _ hG.low
                have KS : Hid (∀ w, Below wr.heap.size wr w → ((w.cell? ⟨P5, 0, none⟩ = some (.int .i64 5) ∧ w.cell? ⟨P5, 1, none⟩ = some (.string ⟨#[]⟩) ∧ w.cell? ⟨P5, 2, none⟩ = some (.string ⟨#[]⟩) ∧ w.cell? ⟨P5, 3, none⟩ = some (.string ⟨#[]⟩) ∧ w.cell? ⟨P5, 4, none⟩ = some (.slice b5 T.length f5) ∧ w.cell? ⟨P5, 5, none⟩ = some (.slice k5 T.length c5)) ∧ w.cell? ⟨blk, off + c, none⟩ = some (.int .u8 (x.toNat : Int)))) := fun w hb => ⟨(hG.n5.below hb).cells.1, HBy.out _ (Below.step HLow.out hb)⟩
                have HT2 := Lib.hid (And.intro hT2l hTk)
                have HT2e := Lib.hid hT2
                have HTI := Lib.hid tI2
                have HHb : Hid (isIn x T = true) := hT
                have HUl := Lib.hid hul
                clear hG hgt hE1 hN1 hut hul hT hT2l hTk hT2 tI2
                go_upto_region 28 with fail
                go_cut [17, 18] (fun s17 s18 wx => ∃ P ba bc ka kc, s17 = .pointer (some ⟨P, 0, none⟩) ∧ s18 = .int .i64 0 ∧ Below wr.heap.size wr wx ∧ NBx wx P 5 ⟨#[]⟩ T2 ba T2.length bc ka kc)
                case first =>
                  refine wp_region_held_drew (S := fun W' => (W'.cell? ⟨P5, 0, none⟩ = some (.int .i64 5) ∧ W'.cell? ⟨P5, 1, none⟩ = some (.string ⟨#[]⟩) ∧ W'.cell? ⟨P5, 2, none⟩ = some (.string ⟨#[]⟩) ∧ W'.cell? ⟨P5, 3, none⟩ = some (.string ⟨#[]⟩) ∧ W'.cell? ⟨P5, 4, none⟩ = some (.slice b5 T.length f5) ∧ W'.cell? ⟨P5, 5, none⟩ = some (.slice k5 T.length c5)) ∧ W'.cell? ⟨blk, off + c, none⟩ = some (.int .u8 (x.toNat : Int))) (by kernel_rfl) ?_ (fun hh => ?_)
                  · (try dsimp only)
                    exact KS.out _ (Below.refl wr.heap.size wr).drew
                  refine wpAnyH_take (i := 0) (oi := ?_) (v := ?_) ?_ (by kernel_rfl) (by kernel_rfl) (by kernel_rfl) ?_ (Or.inl ⟨?_, ?_⟩) (by assumption) ?_
                  rotate_left 2
                  · simp only [ga, gc] <;> rfl
                  · exact fun _ _ _ h => h
                  · rfl
                  · (intro w hs; (try dsimp only at hs); go_simp; try (with_reducible rfl))
                  try simp only [Act.put, na, nc, ns]
                  refine wpAnyH_take (i := 1) (oi := ?_) (v := ?_) ?_ (by kernel_rfl) (by kernel_rfl) (by kernel_rfl) ?_ (Or.inl ⟨?_, ?_⟩) (by assumption) ?_
                  rotate_left 2
                  · simp only [ga, gb, gc] <;> rfl
                  · exact fun _ _ _ h => h
                  · rfl
                  · (intro w hs; (try dsimp only at hs); go_simp; try (with_reducible rfl))
                  try simp only [Act.put, na, nc, ns]
                  refine wpAnyH_take (i := 2) (oi := ?_) (v := ?_) ?_ (by kernel_rfl) (by kernel_rfl) (by kernel_rfl) ?_ (Or.inl ⟨?_, ?_⟩) (by assumption) ?_
                  rotate_left 2
                  · simp only [ga, gb, gc] <;> rfl
                  · exact fun _ _ _ h => h
                  · rfl
                  · (intro w hs; (try dsimp only at hs); go_simp; try (with_reducible rfl))
                  try simp only [Act.put, na, nc, ns]
                  refine wpAnyH_take (i := 3) (oi := ?_) (v := ?_) ?_ (by kernel_rfl) (by kernel_rfl) (by kernel_rfl) ?_ (Or.inl ⟨?_, ?_⟩) (by assumption) ?_
                  rotate_left 2
                  · simp only [ga, gb, gc] <;> rfl
                  · exact fun _ _ _ h => h
                  · rfl
                  · (intro w hs; (try dsimp only at hs); go_simp; try (with_reducible rfl))
                  try simp only [Act.put, na, nc, ns]
                  refine wpAnyH_take (i := 4) (oi := ?_) (v := ?_) ?_ (by kernel_rfl) (by kernel_rfl) (by kernel_rfl) ?_ (Or.inl ⟨?_, ?_⟩) (by assumption) ?_
                  rotate_left 2
                  · simp only [ga, gb, gc] <;> rfl
                  · exact fun _ _ _ h => h
                  · rfl
                  · (intro w hs; (try dsimp only at hs); go_simp; try (with_reducible rfl))
                  try simp only [Act.put, na, nc, ns]
                  refine wpAnyH_ready (rs := [5, 9]) (by kernel_rfl) (by simp) ?_
                  refine AllReadyH.cons (o := _) (by simp only [ga, gb, gc] <;> rfl) (fun K hK => ?_) ?_
                  · go_simp
                    refine (HA1.out _ (Below.refl wr.heap.size wr).drew).mono ?_
                    rintro e5 w5 ⟨ba5, bc5, ka5, kc5, rfl, hb5, hn5⟩
                    have HB5 := Lib.hid (Below.step (w := wr) ((Below.refl wr.heap.size wr).drew) hb5)
                    have HN5 := Lib.hid hn5
                    clear hb5 hn5
                    go_wp2_with fail
                    refine hK.out _ _ ?_ (fun hh => ?_)
                    · (try dsimp only)
                      exact KS.out _ HB5.out
                    clear hK K
                    try simp only [Act.put, na, nc, ns]
                    refine wpAnyH_take (i := 6) (oi := ?_) (v := ?_) ?_ (by kernel_rfl) (by kernel_rfl) (by kernel_rfl) ?_ (Or.inl ⟨?_, ?_⟩) (by assumption) ?_
                    rotate_left 2
                    · simp only [ga, gb, gc] <;> rfl
                    · exact fun _ _ _ h => h
                    · rfl
                    · (intro w hs; (try dsimp only at hs); go_simp; try (with_reducible rfl))
                    try simp only [Act.put, na, nc, ns]
                    refine wpAnyH_take (i := 7) (oi := ?_) (v := ?_) ?_ (by kernel_rfl) (by kernel_rfl) (by kernel_rfl) ?_ (Or.inl ⟨?_, ?_⟩) (by assumption) ?_
                    rotate_left 2
                    · simp only [ga, gb, gc] <;> rfl
                    · exact fun _ _ _ h => h
                    · rfl
                    · (intro w hs; (try dsimp only at hs); go_simp; try (with_reducible rfl))
                    try simp only [Act.put, na, nc, ns]
                    refine wpAnyH_take (i := 8) (oi := ?_) (v := ?_) ?_ (by kernel_rfl) (by kernel_rfl) (by kernel_rfl) ?_ (Or.inl ⟨?_, ?_⟩) (by assumption) ?_
                    rotate_left 2
                    · simp only [ga, gb, gc] <;> rfl
                    · exact fun _ _ _ h => h
                    · rfl
                    · (intro w hs; (try dsimp only at hs); go_simp; try (with_reducible rfl))
                    try simp only [Act.put, na, nc, ns]
                    refine wpAnyH_ready (rs := [9]) (by kernel_rfl) (by simp) ?_
                    refine AllReadyH.cons (o := _) (by simp only [ga, gb, gc] <;> rfl) (fun K hK => ?_) ?_
                    · go_simp
                      refine hK.out _ _ ?_ (fun hh => ?_)
                      · (try dsimp only)
                        exact KS.out _ (Below.new (HB5.out) _)
                      clear hK K
                      try simp only [Act.put, na, nc, ns]
                      refine wpAnyH_ready (rs := [10]) (by kernel_rfl) (by simp) ?_
                      refine AllReadyH.cons (o := _) (by simp only [ga, gb, gc] <;> rfl) (fun K hK => ?_) ?_
                      · go_simp
                        refine hK.out _ _ ?_ (fun hh => ?_)
                        · (try dsimp only)
                          exact KS.out _ (leaf_new HB5.out (l := T2) (m := T2.length) rfl HN5.out rfl).1
                        clear hK K
                        try simp only [Act.put, na, nc, ns]
                        refine wpAnyH_take (i := 11) (oi := ?_) (v := ?_) ?_ (by kernel_rfl) (by kernel_rfl) (by kernel_rfl) ?_ (Or.inl ⟨?_, ?_⟩) (by assumption) ?_
                        rotate_left 2
                        · simp only [ga, gb, gc] <;> rfl
                        · exact fun _ _ _ h => h
                        · rfl
                        · (intro w hs; (try dsimp only at hs); go_simp; try (with_reducible rfl))
                        try simp only [Act.put, na, nc, ns]
                        refine wpAnyH_done (by kernel_rfl) ?_ _
                        go_wp2_with fail
                        go_meet
                        have h := leaf_new HB5.out (l := T2) (m := T2.length) rfl HN5.out rfl
                        exact ⟨_, _, _, _, _, rfl, rfl, h.1, h.2⟩
                      exact AllReadyH.nil
                    exact AllReadyH.nil
                  refine AllReadyH.cons (o := _) (by simp only [ga, gb, gc] <;> rfl) (fun K hK => ?_) ?_
                  · go_simp
                    refine hK.out _ _ ?_ (fun hh => ?_)
                    · (try dsimp only)
                      exact KS.out _ (Below.new ((Below.refl wr.heap.size wr).drew) _)
                    clear hK K
                    try simp only [Act.put, na, nc, ns]
                    refine wpAnyH_ready (rs := [5]) (by kernel_rfl) (by simp) ?_
                    refine AllReadyH.cons (o := _) (by simp only [ga, gb, gc] <;> rfl) (fun K hK => ?_) ?_
                    · go_simp
                      refine (HA1.out _ (Below.new ((Below.refl wr.heap.size wr).drew) _)).mono ?_
                      rintro e5 w5 ⟨ba5, bc5, ka5, kc5, rfl, hb5, hn5⟩
                      have F5 := (Fresh.new wr.drew wr.heap.size zeroC 26 rfl).below hb5
                      obtain ⟨⟨z0, z1, z2, z3, z4, z5⟩, q0, q1, q2, q3, q4, q5⟩ := zcells F5
                      have HF5 := Lib.hid (And.intro F5 (Nat.le_refl wr.heap.size))
                      clear F5
                      have HB5 := Lib.hid (Below.step (w := wr) ((Below.new ((Below.refl wr.heap.size wr).drew) _)) hb5)
                      have HN5 := Lib.hid hn5
                      clear hb5 hn5
                      go_wp2_with fail
                      refine hK.out _ _ ?_ (fun hh => ?_)
                      · (try dsimp only)
                        exact KS.out _ HB5.out
                      clear hK K
                      try simp only [Act.put, na, nc, ns]
                      refine wpAnyH_take (i := 6) (oi := ?_) (v := ?_) ?_ (by kernel_rfl) (by kernel_rfl) (by kernel_rfl) ?_ (Or.inl ⟨?_, ?_⟩) (by assumption) ?_
                      rotate_left 2
                      · simp only [ga, gb, gc] <;> rfl
                      · exact fun _ _ _ h => h
                      · rfl
                      · (intro w hs; (try dsimp only at hs); go_simp; try (with_reducible rfl))
                      try simp only [Act.put, na, nc, ns]
                      refine wpAnyH_take (i := 7) (oi := ?_) (v := ?_) ?_ (by kernel_rfl) (by kernel_rfl) (by kernel_rfl) ?_ (Or.inl ⟨?_, ?_⟩) (by assumption) ?_
                      rotate_left 2
                      · simp only [ga, gb, gc] <;> rfl
                      · exact fun _ _ _ h => h
                      · rfl
                      · (intro w hs; (try dsimp only at hs); go_simp; try (with_reducible rfl))
                      try simp only [Act.put, na, nc, ns]
                      refine wpAnyH_take (i := 8) (oi := ?_) (v := ?_) ?_ (by kernel_rfl) (by kernel_rfl) (by kernel_rfl) ?_ (Or.inl ⟨?_, ?_⟩) (by assumption) ?_
                      rotate_left 2
                      · simp only [ga, gb, gc] <;> rfl
                      · exact fun _ _ _ h => h
                      · rfl
                      · (intro w hs; (try dsimp only at hs); go_simp; try (with_reducible rfl))
                      try simp only [Act.put, na, nc, ns]
                      refine wpAnyH_ready (rs := [10]) (by kernel_rfl) (by simp) ?_
                      refine AllReadyH.cons (o := _) (by simp only [ga, gb, gc] <;> rfl) (fun K hK => ?_) ?_
                      · go_simp
                        refine hK.out _ _ ?_ (fun hh => ?_)
                        · (try dsimp only)
                          exact KS.out _ (leaf_fill HB5.out HRMr.out HF5.out.1 HF5.out.2 (l := T2) (m := T2.length) rfl HN5.out rfl).1
                        clear hK K
                        try simp only [Act.put, na, nc, ns]
                        refine wpAnyH_take (i := 11) (oi := ?_) (v := ?_) ?_ (by kernel_rfl) (by kernel_rfl) (by kernel_rfl) ?_ (Or.inl ⟨?_, ?_⟩) (by assumption) ?_
                        rotate_left 2
                        · simp only [ga, gb, gc] <;> rfl
                        · exact fun _ _ _ h => h
                        · rfl
                        · (intro w hs; (try dsimp only at hs); go_simp; try (with_reducible rfl))
                        try simp only [Act.put, na, nc, ns]
                        refine wpAnyH_done (by kernel_rfl) ?_ _
                        go_wp2_with fail
                        go_meet
                        have h := leaf_fill HB5.out HRMr.out HF5.out.1 HF5.out.2 (l := T2) (m := T2.length) rfl HN5.out rfl
                        exact ⟨_, _, _, _, _, rfl, rfl, h.1, h.2⟩
                      exact AllReadyH.nil
                    exact AllReadyH.nil
                  exact AllReadyH.nil
                case rest =>
                  obtain ⟨P17, ba, bc, ka, kc, rfl, rfl, hbx, hn10⟩ := hcut
                  have hGx := HG.out.below hbx
                  obtain ⟨⟨y0, y1, y2, y3, y4, y5⟩, -⟩ := hn10.cells
                  obtain ⟨⟨z0, z1, z2, z3, z4, z5⟩, t0, t1, t2, t3, t4, t5⟩ := hGx.n5.cells
                  have bx := HBy.out _ hGx.low
                  obtain ⟨hx0, hx1⟩ := hGx.hb.cell x
                  rw [HHb.out] at hx0
                  have HGx := Lib.hid hGx
                  have HN10 := Lib.hid hn10
                  clear hbx hGx hn10 HA1 KS HG
                  go_upto_region 33 with fail
                  obtain ⟨W16, hW16⟩ : ∃ W16, W16 = (((((wc.setCell ⟨P5, 0, none⟩ (.int .i64 5)).setCell ⟨P5, 1, none⟩ (.string ⟨#[]⟩)).setCell ⟨P5, 2, none⟩ (.string ⟨#[]⟩)).setCell ⟨P5, 3, none⟩ (.string ⟨#[]⟩)).setCell ⟨P5, 4, none⟩ (.slice ba T2.length bc)).setCell ⟨P5, 5, none⟩ (.slice ka T2.length kc) := ⟨_, rfl⟩
                  obtain ⟨W17, hW17⟩ : ∃ W17, W17 = W16.setCell ⟨H, x.toNat, none⟩ (.bool false) := ⟨_, rfl⟩
                  obtain ⟨hTu, ⟨hT16, hB16⟩, hGy⟩ := HGx.out.top HRMf.out rfl HN10.out.nd hW16 x false HT2.out.2 hW17
                  have hp := HGx.out.hp
                  have hlow16 : Below W.heap.size W W16 := hT16.below HGx.out.low (by intro y hy; simp at hy; omega) HGx.out.low.size
                  have b16 := HBy.out _ hlow16
                  obtain ⟨g0, g1⟩ := hB16.cell x
                  have HGy := Lib.hid hGy
                  clear hTu hT16 hB16 hGy hp hlow16 y0 y1 y2 y3 y4 y5 z0 z1 z2 z3 z4 z5 t0 t1 t2 t3 t4 t5 bx hx0 hx1
                  rw [← hW16]
                  have HW17 := Lib.hid hW17
                  clear hW16 hW17
                  go_upto_region 35 with fail
                  rw [← HW17.out]
                  clear HW17 b16 g0 g1
                  have by35 := HBy.out _ HGy.out.low
                  go_cut [160] (fun v wx => v = .bool false ∧ wx = W17)
                  case first =>
                    rcases hsp with rfl | rfl
                    all_goals
                      have by36 := by35
                      simp only [show (0 : UInt8).toNat = 0 from rfl, show (255 : UInt8).toNat = 255 from rfl, Int.natCast_zero, Int.cast_ofNat_Int] at by36
                      clear by35
                      go_wp2_with fail
                      go_meet
                      exact ⟨by first | rfl | simp, rfl⟩
                  case rest =>
                    obtain ⟨rfl, hwc35⟩ := hcut
                    rw [hwc35]
                    clear hwc35 by35
                    have HGTz : Hid (GT T2 Lo) := by
                      have h := HGT.out.cutT hsp
                      rw [HT2e.out] at h
                      exact h
                    have HGz := HGy
                    go_upto_region 39 with fail
                    have hGz := HGz.out
                    obtain ⟨y0, y1, y2, y3, y4, y5⟩ := hGz.n5.cells.1
                    obtain ⟨z0, z1, z2, z3, z4, z5⟩ := hGz.n6.cells.1
                    have HRi : Hid (∀ w, Below W17.heap.size W17 w → Calls Tryd.prog 7 #[.agg #[.int .i64 (ofK Lo.length).1, .string ⟨#[]⟩, .string ⟨#[]⟩, .string ⟨#[112]⟩, .slice b6 Lo.length f6, .slice k6 Lo.length c6]] w fun e w' => e = .returned (.bool true) ∧ Below w.heap.size w w') := by
                      intro w hb
                      have h1 := nbRight_any rfl (hGz.n6.nd.below hb)
                      rw [right_of_right HGTz.out.lowR] at h1
                      exact h1
                    have HAn : Hid (∀ w, Below W17.heap.size W17 w → Calls Tryd.prog 18 #[.agg #[.int .i64 5, .string ⟨#[]⟩, .string ⟨#[]⟩, .string ⟨#[]⟩, .slice ba T2.length bc, .slice ka T2.length kc]] w fun e w' => e = .returned (.bool true) ∧ Below w.heap.size w w') := by
                      intro w hb
                      have h1 := nbAnchor_any rfl (hGz.n5.nd.below hb)
                      rw [HGTz.out.topA] at h1
                      exact h1
                    have HC5 : Hid (∀ w, Below W17.heap.size W17 w → (w.cell? ⟨P5, 0, none⟩ = some (.int .i64 5) ∧ w.cell? ⟨P5, 1, none⟩ = some (.string ⟨#[]⟩) ∧ w.cell? ⟨P5, 2, none⟩ = some (.string ⟨#[]⟩) ∧ w.cell? ⟨P5, 3, none⟩ = some (.string ⟨#[]⟩) ∧ w.cell? ⟨P5, 4, none⟩ = some (.slice ba T2.length bc) ∧ w.cell? ⟨P5, 5, none⟩ = some (.slice ka T2.length kc))) := fun w hb => (hGz.n5.below hb).cells.1
                    have tI2 := HTI.out
                    clear hGz
                    go_wp2_with (first
                      | (go_at_call 7; refine (HRi.out _ (Below.refl _ _)).mono ?_; rintro e7 w7 ⟨rfl, hb⟩; have HB7 := Lib.hid hb; obtain ⟨y0, y1, y2, y3, y4, y5⟩ := HC5.out _ hb; clear hb)
                      | (go_at_call 18; refine (HAn.out _ HB7.out).mono ?_; rintro e8 w8 ⟨rfl, hb⟩; have HB8 := Lib.hid (Below.step HB7.out hb); obtain ⟨y0, y1, y2, y3, y4, y5⟩ := HC5.out _ HB8.out; clear hb))
                    go_roundw
                    case rel =>
                      refine ⟨⟨c + 1, T2, Lo, _, _, _, _, _, _, _, _, by first | rfl | (rw [HT2.out.1]; simp) | simp, by simp, by omega, ?_, HGTz.out, HGz.out.below HB8.out⟩⟩
                      intro y hy
                      have hyx : y ≠ x ∧ isIn y T = true := by
                        rw [HT2.out.2] at hy
                        by_cases e : y = x
                        · rw [if_pos e] at hy; cases hy
                        · rw [if_neg e] at hy; exact ⟨e, hy⟩
                      exact drop_next HX.out (HSub.out y hyx.2) hyx.1
                    case measure => simp [intOf]; omega
            · obtain ⟨hsp0, hsp1⟩ := not_or.1 hsp
              clear hsp
              as_aux_lemma =>
                obtain ⟨T2, hT2⟩ : ∃ T2, takeS x T = T2 := ⟨_, rfl⟩
                have hT2l : T.length = T2.length + 1 := by
                  have h1 := isIn_lt hT
                  rw [← hT2, Mn.take_len, if_pos hT]
                  omega
                obtain ⟨hE1, hN1⟩ := nb_cut hut hT true
                rw [hT2] at hN1
                have hN1 : cutN (nb 5 ⟨#[]⟩ T) x true = nb 5 ⟨#[]⟩ T2 := hN1
                have hTk : ∀ y, isIn y T2 = if y = x then false else isIn y T := by
                  intro y
                  rw [Bool.eq_iff_iff, ← hT2, take_key hgt.ts]
                  by_cases e : y = x <;> simp [e]
                have tI2 : (T.length : Int) = (T2.length : Int) + 1 := by omega
                have HA1 : Hid (∀ w, Below wr.heap.size wr w → Calls Tryd.prog 10 #[.agg #[.int .i64 5, .string ⟨#[]⟩, .string ⟨#[]⟩, .string ⟨#[]⟩, .slice b5 T.length f5, .slice k5 T.length c5], .int .u8 (x.toNat : Int), .bool true] w fun e w' => ∃ ba bc ka kc, e = .returned (.tuple #[.agg #[.int .i64 5, .string ⟨#[]⟩, .string ⟨#[]⟩, .string ⟨#[]⟩, .slice ba T2.length bc, .slice ka T2.length kc], .int .i64 0]) ∧ Below w.heap.size w w' ∧ NdAt w' (nb 5 ⟨#[]⟩ T2) ba bc ka kc) := by
                  intro w hb
                  have h1 := nbCut_any rfl (hG.n5.nd.below hb) x true
                  rw [hE1, hN1] at h1
                  exact h1.mono fun e w' h => mk_nb rfl h
                have HLow := Lib.hid hG.low
                have HRMr : Hid (Rm wr) := HRMf.out _ hG.low
                have KS : Hid (∀ w, Below wr.heap.size wr w → ((w.cell? ⟨P5, 0, none⟩ = some (.int .i64 5) ∧ w.cell? ⟨P5, 1, none⟩ = some (.string ⟨#[]⟩) ∧ w.cell? ⟨P5, 2, none⟩ = some (.string ⟨#[]⟩) ∧ w.cell? ⟨P5, 3, none⟩ = some (.string ⟨#[]⟩) ∧ w.cell? ⟨P5, 4, none⟩ = some (.slice b5 T.length f5) ∧ w.cell? ⟨P5, 5, none⟩ = some (.slice k5 T.length c5)) ∧ w.cell? ⟨blk, off + c, none⟩ = some (.int .u8 (x.toNat : Int)))) := fun w hb => ⟨(hG.n5.below hb).cells.1, HBy.out _ (Below.step HLow.out hb)⟩
                have HT2 := Lib.hid (And.intro hT2l hTk)
                have HT2e := Lib.hid hT2
                have HTI := Lib.hid tI2
                have HHb : Hid (isIn x T = true) := hT
                have HUl := Lib.hid hul
                clear hG hgt hE1 hN1 hut hul hT hT2l hTk hT2 tI2
                go_upto_region 28 with fail
                go_cut [17, 18] (fun s17 s18 wx => ∃ P ba bc ka kc, s17 = .pointer (some ⟨P, 0, none⟩) ∧ s18 = .int .i64 0 ∧ Below wr.heap.size wr wx ∧ NBx wx P 5 ⟨#[]⟩ T2 ba T2.length bc ka kc)
                case first =>
                  refine wp_region_held_drew (S := fun W' => (W'.cell? ⟨P5, 0, none⟩ = some (.int .i64 5) ∧ W'.cell? ⟨P5, 1, none⟩ = some (.string ⟨#[]⟩) ∧ W'.cell? ⟨P5, 2, none⟩ = some (.string ⟨#[]⟩) ∧ W'.cell? ⟨P5, 3, none⟩ = some (.string ⟨#[]⟩) ∧ W'.cell? ⟨P5, 4, none⟩ = some (.slice b5 T.length f5) ∧ W'.cell? ⟨P5, 5, none⟩ = some (.slice k5 T.length c5)) ∧ W'.cell? ⟨blk, off + c, none⟩ = some (.int .u8 (x.toNat : Int))) (by kernel_rfl) ?_ (fun hh => ?_)
                  · (try dsimp only)
                    exact KS.out _ (Below.refl wr.heap.size wr).drew
                  refine wpAnyH_take (i := 0) (oi := ?_) (v := ?_) ?_ (by kernel_rfl) (by kernel_rfl) (by kernel_rfl) ?_ (Or.inl ⟨?_, ?_⟩) (by assumption) ?_
                  rotate_left 2
                  · simp only [ga, gc] <;> rfl
                  · exact fun _ _ _ h => h
                  · rfl
                  · (intro w hs; (try dsimp only at hs); go_simp; try (with_reducible rfl))
                  try simp only [Act.put, na, nc, ns]
                  refine wpAnyH_take (i := 1) (oi := ?_) (v := ?_) ?_ (by kernel_rfl) (by kernel_rfl) (by kernel_rfl) ?_ (Or.inl ⟨?_, ?_⟩) (by assumption) ?_
                  rotate_left 2
                  · simp only [ga, gb, gc] <;> rfl
                  · exact fun _ _ _ h => h
                  · rfl
                  · (intro w hs; (try dsimp only at hs); go_simp; try (with_reducible rfl))
                  try simp only [Act.put, na, nc, ns]
                  refine wpAnyH_take (i := 2) (oi := ?_) (v := ?_) ?_ (by kernel_rfl) (by kernel_rfl) (by kernel_rfl) ?_ (Or.inl ⟨?_, ?_⟩) (by assumption) ?_
                  rotate_left 2
                  · simp only [ga, gb, gc] <;> rfl
                  · exact fun _ _ _ h => h
                  · rfl
                  · (intro w hs; (try dsimp only at hs); go_simp; try (with_reducible rfl))
                  try simp only [Act.put, na, nc, ns]
                  refine wpAnyH_take (i := 3) (oi := ?_) (v := ?_) ?_ (by kernel_rfl) (by kernel_rfl) (by kernel_rfl) ?_ (Or.inl ⟨?_, ?_⟩) (by assumption) ?_
                  rotate_left 2
                  · simp only [ga, gb, gc] <;> rfl
                  · exact fun _ _ _ h => h
                  · rfl
                  · (intro w hs; (try dsimp only at hs); go_simp; try (with_reducible rfl))
                  try simp only [Act.put, na, nc, ns]
                  refine wpAnyH_take (i := 4) (oi := ?_) (v := ?_) ?_ (by kernel_rfl) (by kernel_rfl) (by kernel_rfl) ?_ (Or.inl ⟨?_, ?_⟩) (by assumption) ?_
                  rotate_left 2
                  · simp only [ga, gb, gc] <;> rfl
                  · exact fun _ _ _ h => h
                  · rfl
                  · (intro w hs; (try dsimp only at hs); go_simp; try (with_reducible rfl))
                  try simp only [Act.put, na, nc, ns]
                  refine wpAnyH_ready (rs := [5, 9]) (by kernel_rfl) (by simp) ?_
                  refine AllReadyH.cons (o := _) (by simp only [ga, gb, gc] <;> rfl) (fun K hK => ?_) ?_
                  · go_simp
                    refine (HA1.out _ (Below.refl wr.heap.size wr).drew).mono ?_
                    rintro e5 w5 ⟨ba5, bc5, ka5, kc5, rfl, hb5, hn5⟩
                    have HB5 := Lib.hid (Below.step (w := wr) ((Below.refl wr.heap.size wr).drew) hb5)
                    have HN5 := Lib.hid hn5
                    clear hb5 hn5
                    go_wp2_with fail
                    refine hK.out _ _ ?_ (fun hh => ?_)
                    · (try dsimp only)
                      exact KS.out _ HB5.out
                    clear hK K
                    try simp only [Act.put, na, nc, ns]
                    refine wpAnyH_take (i := 6) (oi := ?_) (v := ?_) ?_ (by kernel_rfl) (by kernel_rfl) (by kernel_rfl) ?_ (Or.inl ⟨?_, ?_⟩) (by assumption) ?_
                    rotate_left 2
                    · simp only [ga, gb, gc] <;> rfl
                    · exact fun _ _ _ h => h
                    · rfl
                    · (intro w hs; (try dsimp only at hs); go_simp; try (with_reducible rfl))
                    try simp only [Act.put, na, nc, ns]
                    refine wpAnyH_take (i := 7) (oi := ?_) (v := ?_) ?_ (by kernel_rfl) (by kernel_rfl) (by kernel_rfl) ?_ (Or.inl ⟨?_, ?_⟩) (by assumption) ?_
                    rotate_left 2
                    · simp only [ga, gb, gc] <;> rfl
                    · exact fun _ _ _ h => h
                    · rfl
                    · (intro w hs; (try dsimp only at hs); go_simp; try (with_reducible rfl))
                    try simp only [Act.put, na, nc, ns]
                    refine wpAnyH_take (i := 8) (oi := ?_) (v := ?_) ?_ (by kernel_rfl) (by kernel_rfl) (by kernel_rfl) ?_ (Or.inl ⟨?_, ?_⟩) (by assumption) ?_
                    rotate_left 2
                    · simp only [ga, gb, gc] <;> rfl
                    · exact fun _ _ _ h => h
                    · rfl
                    · (intro w hs; (try dsimp only at hs); go_simp; try (with_reducible rfl))
                    try simp only [Act.put, na, nc, ns]
                    refine wpAnyH_ready (rs := [9]) (by kernel_rfl) (by simp) ?_
                    refine AllReadyH.cons (o := _) (by simp only [ga, gb, gc] <;> rfl) (fun K hK => ?_) ?_
                    · go_simp
                      refine hK.out _ _ ?_ (fun hh => ?_)
                      · (try dsimp only)
                        exact KS.out _ (Below.new (HB5.out) _)
                      clear hK K
                      try simp only [Act.put, na, nc, ns]
                      refine wpAnyH_ready (rs := [10]) (by kernel_rfl) (by simp) ?_
                      refine AllReadyH.cons (o := _) (by simp only [ga, gb, gc] <;> rfl) (fun K hK => ?_) ?_
                      · go_simp
                        refine hK.out _ _ ?_ (fun hh => ?_)
                        · (try dsimp only)
                          exact KS.out _ (leaf_new HB5.out (l := T2) (m := T2.length) rfl HN5.out rfl).1
                        clear hK K
                        try simp only [Act.put, na, nc, ns]
                        refine wpAnyH_take (i := 11) (oi := ?_) (v := ?_) ?_ (by kernel_rfl) (by kernel_rfl) (by kernel_rfl) ?_ (Or.inl ⟨?_, ?_⟩) (by assumption) ?_
                        rotate_left 2
                        · simp only [ga, gb, gc] <;> rfl
                        · exact fun _ _ _ h => h
                        · rfl
                        · (intro w hs; (try dsimp only at hs); go_simp; try (with_reducible rfl))
                        try simp only [Act.put, na, nc, ns]
                        refine wpAnyH_done (by kernel_rfl) ?_ _
                        go_wp2_with fail
                        go_meet
                        have h := leaf_new HB5.out (l := T2) (m := T2.length) rfl HN5.out rfl
                        exact ⟨_, _, _, _, _, rfl, rfl, h.1, h.2⟩
                      exact AllReadyH.nil
                    exact AllReadyH.nil
                  refine AllReadyH.cons (o := _) (by simp only [ga, gb, gc] <;> rfl) (fun K hK => ?_) ?_
                  · go_simp
                    refine hK.out _ _ ?_ (fun hh => ?_)
                    · (try dsimp only)
                      exact KS.out _ (Below.new ((Below.refl wr.heap.size wr).drew) _)
                    clear hK K
                    try simp only [Act.put, na, nc, ns]
                    refine wpAnyH_ready (rs := [5]) (by kernel_rfl) (by simp) ?_
                    refine AllReadyH.cons (o := _) (by simp only [ga, gb, gc] <;> rfl) (fun K hK => ?_) ?_
                    · go_simp
                      refine (HA1.out _ (Below.new ((Below.refl wr.heap.size wr).drew) _)).mono ?_
                      rintro e5 w5 ⟨ba5, bc5, ka5, kc5, rfl, hb5, hn5⟩
                      have F5 := (Fresh.new wr.drew wr.heap.size zeroC 26 rfl).below hb5
                      obtain ⟨⟨z0, z1, z2, z3, z4, z5⟩, q0, q1, q2, q3, q4, q5⟩ := zcells F5
                      have HF5 := Lib.hid (And.intro F5 (Nat.le_refl wr.heap.size))
                      clear F5
                      have HB5 := Lib.hid (Below.step (w := wr) ((Below.new ((Below.refl wr.heap.size wr).drew) _)) hb5)
                      have HN5 := Lib.hid hn5
                      clear hb5 hn5
                      go_wp2_with fail
                      refine hK.out _ _ ?_ (fun hh => ?_)
                      · (try dsimp only)
                        exact KS.out _ HB5.out
                      clear hK K
                      try simp only [Act.put, na, nc, ns]
                      refine wpAnyH_take (i := 6) (oi := ?_) (v := ?_) ?_ (by kernel_rfl) (by kernel_rfl) (by kernel_rfl) ?_ (Or.inl ⟨?_, ?_⟩) (by assumption) ?_
                      rotate_left 2
                      · simp only [ga, gb, gc] <;> rfl
                      · exact fun _ _ _ h => h
                      · rfl
                      · (intro w hs; (try dsimp only at hs); go_simp; try (with_reducible rfl))
                      try simp only [Act.put, na, nc, ns]
                      refine wpAnyH_take (i := 7) (oi := ?_) (v := ?_) ?_ (by kernel_rfl) (by kernel_rfl) (by kernel_rfl) ?_ (Or.inl ⟨?_, ?_⟩) (by assumption) ?_
                      rotate_left 2
                      · simp only [ga, gb, gc] <;> rfl
                      · exact fun _ _ _ h => h
                      · rfl
                      · (intro w hs; (try dsimp only at hs); go_simp; try (with_reducible rfl))
                      try simp only [Act.put, na, nc, ns]
                      refine wpAnyH_take (i := 8) (oi := ?_) (v := ?_) ?_ (by kernel_rfl) (by kernel_rfl) (by kernel_rfl) ?_ (Or.inl ⟨?_, ?_⟩) (by assumption) ?_
                      rotate_left 2
                      · simp only [ga, gb, gc] <;> rfl
                      · exact fun _ _ _ h => h
                      · rfl
                      · (intro w hs; (try dsimp only at hs); go_simp; try (with_reducible rfl))
                      try simp only [Act.put, na, nc, ns]
                      refine wpAnyH_ready (rs := [10]) (by kernel_rfl) (by simp) ?_
                      refine AllReadyH.cons (o := _) (by simp only [ga, gb, gc] <;> rfl) (fun K hK => ?_) ?_
                      · go_simp
                        refine hK.out _ _ ?_ (fun hh => ?_)
                        · (try dsimp only)
                          exact KS.out _ (leaf_fill HB5.out HRMr.out HF5.out.1 HF5.out.2 (l := T2) (m := T2.length) rfl HN5.out rfl).1
                        clear hK K
                        try simp only [Act.put, na, nc, ns]
                        refine wpAnyH_take (i := 11) (oi := ?_) (v := ?_) ?_ (by kernel_rfl) (by kernel_rfl) (by kernel_rfl) ?_ (Or.inl ⟨?_, ?_⟩) (by assumption) ?_
                        rotate_left 2
                        · simp only [ga, gb, gc] <;> rfl
                        · exact fun _ _ _ h => h
                        · rfl
                        · (intro w hs; (try dsimp only at hs); go_simp; try (with_reducible rfl))
                        try simp only [Act.put, na, nc, ns]
                        refine wpAnyH_done (by kernel_rfl) ?_ _
                        go_wp2_with fail
                        go_meet
                        have h := leaf_fill HB5.out HRMr.out HF5.out.1 HF5.out.2 (l := T2) (m := T2.length) rfl HN5.out rfl
                        exact ⟨_, _, _, _, _, rfl, rfl, h.1, h.2⟩
                      exact AllReadyH.nil
                    exact AllReadyH.nil
                  exact AllReadyH.nil
                case rest =>
                  obtain ⟨P17, ba, bc, ka, kc, rfl, rfl, hbx, hn10⟩ := hcut
                  have hGx := HG.out.below hbx
                  obtain ⟨⟨y0, y1, y2, y3, y4, y5⟩, -⟩ := hn10.cells
                  obtain ⟨⟨z0, z1, z2, z3, z4, z5⟩, t0, t1, t2, t3, t4, t5⟩ := hGx.n5.cells
                  have bx := HBy.out _ hGx.low
                  obtain ⟨hx0, hx1⟩ := hGx.hb.cell x
                  rw [HHb.out] at hx0
                  have HGx := Lib.hid hGx
                  have HN10 := Lib.hid hn10
                  clear hbx hGx hn10 HA1 KS HG
                  go_upto_region 33 with fail
                  obtain ⟨W16, hW16⟩ : ∃ W16, W16 = (((((wc.setCell ⟨P5, 0, none⟩ (.int .i64 5)).setCell ⟨P5, 1, none⟩ (.string ⟨#[]⟩)).setCell ⟨P5, 2, none⟩ (.string ⟨#[]⟩)).setCell ⟨P5, 3, none⟩ (.string ⟨#[]⟩)).setCell ⟨P5, 4, none⟩ (.slice ba T2.length bc)).setCell ⟨P5, 5, none⟩ (.slice ka T2.length kc) := ⟨_, rfl⟩
                  obtain ⟨W17, hW17⟩ : ∃ W17, W17 = W16.setCell ⟨H, x.toNat, none⟩ (.bool false) := ⟨_, rfl⟩
                  obtain ⟨hTu, ⟨hT16, hB16⟩, hGy⟩ := HGx.out.top HRMf.out rfl HN10.out.nd hW16 x false HT2.out.2 hW17
                  have hp := HGx.out.hp
                  have hlow16 : Below W.heap.size W W16 := hT16.below HGx.out.low (by intro y hy; simp at hy; omega) HGx.out.low.size
                  have b16 := HBy.out _ hlow16
                  obtain ⟨g0, g1⟩ := hB16.cell x
                  have HGy := Lib.hid hGy
                  clear hTu hT16 hB16 hGy hp hlow16 y0 y1 y2 y3 y4 y5 z0 z1 z2 z3 z4 z5 t0 t1 t2 t3 t4 t5 bx hx0 hx1
                  rw [← hW16]
                  have HW17 := Lib.hid hW17
                  clear hW16 hW17
                  go_upto_region 35 with fail
                  rw [← HW17.out]
                  clear HW17 b16 g0 g1
                  have by35 := HBy.out _ HGy.out.low
                  go_cut [160] (fun v wx => v = .bool true ∧ wx = W17)
                  case first =>
                    have n0 : ¬ x.toNat = 0 := fun e => hsp0 (UInt8.toNat_inj.1 e)
                    have n1 : ¬ x.toNat = 255 := fun e => hsp1 (UInt8.toNat_inj.1 e)
                    have n2 : ¬ (x.toNat : Int) = 0 := by omega
                    have n3 : ¬ (x.toNat : Int) = 255 := by omega
                    go_wp2_with fail
                    go_meet
                    exact ⟨by first | rfl | (simp; done) | (simp; exact ⟨n0, n3⟩) | (simp; exact ⟨n0, n1⟩), rfl⟩
                  case rest =>
                    obtain ⟨rfl, hwc35⟩ := hcut
                    rw [hwc35]
                    clear hwc35 by35
                    have hLi : isIn x Lo = true := (HGT.out.key x).2 (.inr (.inr HHb.out))
                    obtain ⟨L2, hL2⟩ : ∃ L2, takeS x Lo = L2 := ⟨_, rfl⟩
                    have hL2l : Lo.length - 1 = L2.length := by rw [← hL2, Mn.take_len, if_pos hLi]
                    obtain ⟨hE2, hN2⟩ := nb_cut HUl.out hLi false
                    obtain ⟨kk, hkk⟩ : ∃ kk, (ofK (L2.length : Int)).1 = kk := ⟨_, rfl⟩
                    have HKK : Hid ((ofK L2.length).1 = kk) := hkk
                    have hN2 : cutN (nb (ofK Lo.length).1 ⟨#[112]⟩ Lo) x false = nb kk ⟨#[112]⟩ L2 := by rw [hN2, hL2, hL2l]; show nb (ofK (L2.length : Int)).1 ⟨#[112]⟩ L2 = _; rw [hkk]
                    have hGy := HGy.out
                    have HA2 : Hid (∀ w, Below W17.heap.size W17 w → Calls Tryd.prog 10 #[.agg #[.int .i64 (ofK Lo.length).1, .string ⟨#[]⟩, .string ⟨#[]⟩, .string ⟨#[112]⟩, .slice b6 Lo.length f6, .slice k6 Lo.length c6], .int .u8 (x.toNat : Int), .bool false] w fun e w' => ∃ ba bc ka kc, e = .returned (.tuple #[.agg #[.int .i64 kk, .string ⟨#[]⟩, .string ⟨#[]⟩, .string ⟨#[112]⟩, .slice ba L2.length bc, .slice ka L2.length kc], .int .i64 0]) ∧ Below w.heap.size w w' ∧ NdAt w' (nb kk ⟨#[112]⟩ L2) ba bc ka kc) := by
                      intro w hb
                      have h1 := nbCut_any rfl (hGy.n6.nd.below hb) x false
                      rw [hE2, hN2] at h1
                      exact h1.mono fun e w' h => mk_nb rfl h
                    have HGTz : Hid (GT T2 L2) := by
                      have h := HGT.out.cutB hsp0 hsp1
                      rw [HT2e.out, hL2] at h
                      exact h
                    have HLy := Lib.hid hGy.low
                    have HRMy : Hid (Rm W17) := HRMf.out _ hGy.low
                    have KS2 : Hid (∀ w, Below W17.heap.size W17 w → ((w.cell? ⟨P6, 0, none⟩ = some (.int .i64 (ofK Lo.length).1) ∧ w.cell? ⟨P6, 1, none⟩ = some (.string ⟨#[]⟩) ∧ w.cell? ⟨P6, 2, none⟩ = some (.string ⟨#[]⟩) ∧ w.cell? ⟨P6, 3, none⟩ = some (.string ⟨#[112]⟩) ∧ w.cell? ⟨P6, 4, none⟩ = some (.slice b6 Lo.length f6) ∧ w.cell? ⟨P6, 5, none⟩ = some (.slice k6 Lo.length c6)) ∧ w.cell? ⟨blk, off + c, none⟩ = some (.int .u8 (x.toNat : Int)))) := fun w hb => ⟨(hGy.n6.below hb).cells.1, HBy.out _ (Below.step HLy.out hb)⟩
                    have dl : decide (256 < (Lo.length : Int)) = false := decide_eq_false (by omega)
                    clear hGy hE2 hN2 hLi hL2 hL2l hkk
                    go_upto_region 36 with fail
                    go_cut [19, 20] (fun s19 s20 wx => ∃ P ba bc ka kc, s19 = .pointer (some ⟨P, 0, none⟩) ∧ s20 = .int .i64 0 ∧ Below W17.heap.size W17 wx ∧ NBx wx P kk ⟨#[112]⟩ L2 ba L2.length bc ka kc)
                    case first =>
                      cases keep
                      case false =>
                        refine wp_region_held_drew (S := fun W' => (W'.cell? ⟨P6, 0, none⟩ = some (.int .i64 (ofK Lo.length).1) ∧ W'.cell? ⟨P6, 1, none⟩ = some (.string ⟨#[]⟩) ∧ W'.cell? ⟨P6, 2, none⟩ = some (.string ⟨#[]⟩) ∧ W'.cell? ⟨P6, 3, none⟩ = some (.string ⟨#[112]⟩) ∧ W'.cell? ⟨P6, 4, none⟩ = some (.slice b6 Lo.length f6) ∧ W'.cell? ⟨P6, 5, none⟩ = some (.slice k6 Lo.length c6)) ∧ W'.cell? ⟨blk, off + c, none⟩ = some (.int .u8 (x.toNat : Int))) (by kernel_rfl) ?_ (fun hh => ?_)
                        · (try dsimp only)
                          exact KS2.out _ (Below.refl W17.heap.size W17).drew
                        refine wpAnyH_take (i := 0) (oi := ?_) (v := ?_) ?_ (by kernel_rfl) (by kernel_rfl) (by kernel_rfl) ?_ (Or.inl ⟨?_, ?_⟩) (by assumption) ?_
                        rotate_left 2
                        · simp only [ga, gc] <;> rfl
                        · exact fun _ _ _ h => h
                        · rfl
                        · (intro w hs; (try dsimp only at hs); go_simp; try (with_reducible rfl))
                        try simp only [Act.put, na, nc, ns]
                        refine wpAnyH_take (i := 1) (oi := ?_) (v := ?_) ?_ (by kernel_rfl) (by kernel_rfl) (by kernel_rfl) ?_ (Or.inl ⟨?_, ?_⟩) (by assumption) ?_
                        rotate_left 2
                        · simp only [ga, gb, gc] <;> rfl
                        · exact fun _ _ _ h => h
                        · rfl
                        · (intro w hs; (try dsimp only at hs); go_simp; try (with_reducible rfl))
                        try simp only [Act.put, na, nc, ns]
                        refine wpAnyH_take (i := 2) (oi := ?_) (v := ?_) ?_ (by kernel_rfl) (by kernel_rfl) (by kernel_rfl) ?_ (Or.inl ⟨?_, ?_⟩) (by assumption) ?_
                        rotate_left 2
                        · simp only [ga, gb, gc] <;> rfl
                        · exact fun _ _ _ h => h
                        · rfl
                        · (intro w hs; (try dsimp only at hs); go_simp; try (with_reducible rfl))
                        try simp only [Act.put, na, nc, ns]
                        refine wpAnyH_take (i := 3) (oi := ?_) (v := ?_) ?_ (by kernel_rfl) (by kernel_rfl) (by kernel_rfl) ?_ (Or.inl ⟨?_, ?_⟩) (by assumption) ?_
                        rotate_left 2
                        · simp only [ga, gb, gc] <;> rfl
                        · exact fun _ _ _ h => h
                        · rfl
                        · (intro w hs; (try dsimp only at hs); go_simp; try (with_reducible rfl))
                        try simp only [Act.put, na, nc, ns]
                        refine wpAnyH_take (i := 4) (oi := ?_) (v := ?_) ?_ (by kernel_rfl) (by kernel_rfl) (by kernel_rfl) ?_ (Or.inl ⟨?_, ?_⟩) (by assumption) ?_
                        rotate_left 2
                        · simp only [ga, gb, gc] <;> rfl
                        · exact fun _ _ _ h => h
                        · rfl
                        · (intro w hs; (try dsimp only at hs); go_simp; try (with_reducible rfl))
                        try simp only [Act.put, na, nc, ns]
                        refine wpAnyH_take (i := 5) (oi := ?_) (v := ?_) ?_ (by kernel_rfl) (by kernel_rfl) (by kernel_rfl) ?_ (Or.inl ⟨?_, ?_⟩) (by assumption) ?_
                        rotate_left 2
                        · simp only [ga, gb, gc] <;> rfl
                        · exact fun _ _ _ h => h
                        · rfl
                        · (intro w hs; (try dsimp only at hs); go_simp; try (with_reducible rfl))
                        try simp only [Act.put, na, nc, ns]
                        refine wpAnyH_take (i := 6) (oi := ?_) (v := ?_) ?_ (by kernel_rfl) (by kernel_rfl) (by kernel_rfl) ?_ (Or.inl ⟨?_, ?_⟩) (by assumption) ?_
                        rotate_left 2
                        · simp only [ga, gb, gc] <;> rfl
                        · exact fun _ _ _ h => h
                        · rfl
                        · (intro w hs; (try dsimp only at hs); go_simp; try (with_reducible rfl))
                        try simp only [Act.put, na, nc, ns]
                        refine wpAnyH_take (i := 7) (oi := ?_) (v := undef) ?_ (by kernel_rfl) (by kernel_rfl) (by kernel_rfl) ?_ (Or.inr ⟨?_, rfl⟩) (by assumption) ?_
                        rotate_left 1
                        · simp only [ga, gb, gc] <;> rfl
                        · exact fun _ _ _ h => h
                        · rfl
                        try simp only [Act.put, na, nc, ns]
                        refine wpAnyH_take (i := 8) (oi := ?_) (v := undef) ?_ (by kernel_rfl) (by kernel_rfl) (by kernel_rfl) ?_ (Or.inr ⟨?_, rfl⟩) (by assumption) ?_
                        rotate_left 1
                        · simp only [ga, gb, gc] <;> rfl
                        · exact fun _ _ _ h => h
                        · rfl
                        try simp only [Act.put, na, nc, ns]
                        refine wpAnyH_take (i := 9) (oi := ?_) (v := undef) ?_ (by kernel_rfl) (by kernel_rfl) (by kernel_rfl) ?_ (Or.inr ⟨?_, rfl⟩) (by assumption) ?_
                        rotate_left 1
                        · simp only [ga, gb, gc] <;> rfl
                        · exact fun _ _ _ h => h
                        · rfl
                        try simp only [Act.put, na, nc, ns]
                        refine wpAnyH_take (i := 10) (oi := ?_) (v := undef) ?_ (by kernel_rfl) (by kernel_rfl) (by kernel_rfl) ?_ (Or.inr ⟨?_, rfl⟩) (by assumption) ?_
                        rotate_left 1
                        · simp only [ga, gb, gc] <;> rfl
                        · exact fun _ _ _ h => h
                        · rfl
                        try simp only [Act.put, na, nc, ns]
                        refine wpAnyH_take (i := 11) (oi := ?_) (v := ?_) ?_ (by kernel_rfl) (by kernel_rfl) (by kernel_rfl) ?_ (Or.inl ⟨?_, ?_⟩) (by assumption) ?_
                        rotate_left 2
                        · simp only [ga, gb, gc] <;> rfl
                        · exact fun _ _ _ h => h
                        · rfl
                        · (intro w hs; (try dsimp only at hs); go_simp; try (with_reducible rfl))
                        try simp only [Act.put, na, nc, ns]
                        refine wpAnyH_ready (rs := [12, 16]) (by kernel_rfl) (by simp) ?_
                        refine AllReadyH.cons (o := _) (by simp only [ga, gb, gc] <;> rfl) (fun K hK => ?_) ?_
                        · go_simp
                          refine (HA2.out _ (Below.refl W17.heap.size W17).drew).mono ?_
                          rintro e5 w5 ⟨ba5, bc5, ka5, kc5, rfl, hb5, hn5⟩
                          have HB5 := Lib.hid (Below.step (w := W17) ((Below.refl W17.heap.size W17).drew) hb5)
                          have HN5 := Lib.hid hn5
                          clear hb5 hn5
                          go_wp2_with fail
                          refine hK.out _ _ ?_ (fun hh => ?_)
                          · (try dsimp only)
                            exact KS2.out _ HB5.out
                          clear hK K
                          try simp only [Act.put, na, nc, ns]
                          refine wpAnyH_take (i := 13) (oi := ?_) (v := ?_) ?_ (by kernel_rfl) (by kernel_rfl) (by kernel_rfl) ?_ (Or.inl ⟨?_, ?_⟩) (by assumption) ?_
                          rotate_left 2
                          · simp only [ga, gb, gc] <;> rfl
                          · exact fun _ _ _ h => h
                          · rfl
                          · (intro w hs; (try dsimp only at hs); go_simp; try (with_reducible rfl))
                          try simp only [Act.put, na, nc, ns]
                          refine wpAnyH_take (i := 14) (oi := ?_) (v := ?_) ?_ (by kernel_rfl) (by kernel_rfl) (by kernel_rfl) ?_ (Or.inl ⟨?_, ?_⟩) (by assumption) ?_
                          rotate_left 2
                          · simp only [ga, gb, gc] <;> rfl
                          · exact fun _ _ _ h => h
                          · rfl
                          · (intro w hs; (try dsimp only at hs); go_simp; try (with_reducible rfl))
                          try simp only [Act.put, na, nc, ns]
                          refine wpAnyH_take (i := 15) (oi := ?_) (v := ?_) ?_ (by kernel_rfl) (by kernel_rfl) (by kernel_rfl) ?_ (Or.inl ⟨?_, ?_⟩) (by assumption) ?_
                          rotate_left 2
                          · simp only [ga, gb, gc] <;> rfl
                          · exact fun _ _ _ h => h
                          · rfl
                          · (intro w hs; (try dsimp only at hs); go_simp; try (with_reducible rfl))
                          try simp only [Act.put, na, nc, ns]
                          refine wpAnyH_ready (rs := [16]) (by kernel_rfl) (by simp) ?_
                          refine AllReadyH.cons (o := _) (by simp only [ga, gb, gc] <;> rfl) (fun K hK => ?_) ?_
                          · go_simp
                            refine hK.out _ _ ?_ (fun hh => ?_)
                            · (try dsimp only)
                              exact KS2.out _ (Below.new (HB5.out) _)
                            clear hK K
                            try simp only [Act.put, na, nc, ns]
                            refine wpAnyH_ready (rs := [17]) (by kernel_rfl) (by simp) ?_
                            refine AllReadyH.cons (o := _) (by simp only [ga, gb, gc] <;> rfl) (fun K hK => ?_) ?_
                            · go_simp
                              refine hK.out _ _ ?_ (fun hh => ?_)
                              · (try dsimp only)
                                exact KS2.out _ (leaf_new HB5.out (l := L2) (m := L2.length) rfl HN5.out rfl).1
                              clear hK K
                              try simp only [Act.put, na, nc, ns]
                              refine wpAnyH_take (i := 18) (oi := ?_) (v := ?_) ?_ (by kernel_rfl) (by kernel_rfl) (by kernel_rfl) ?_ (Or.inl ⟨?_, ?_⟩) (by assumption) ?_
                              rotate_left 2
                              · simp only [ga, gb, gc] <;> rfl
                              · exact fun _ _ _ h => h
                              · rfl
                              · (intro w hs; (try dsimp only at hs); go_simp; try (with_reducible rfl))
                              try simp only [Act.put, na, nc, ns]
                              refine wpAnyH_done (by kernel_rfl) ?_ _
                              go_wp2_with fail
                              go_meet
                              have h := leaf_new HB5.out (l := L2) (m := L2.length) rfl HN5.out rfl
                              exact ⟨_, _, _, _, _, rfl, rfl, h.1, h.2⟩
                            exact AllReadyH.nil
                          exact AllReadyH.nil
                        refine AllReadyH.cons (o := _) (by simp only [ga, gb, gc] <;> rfl) (fun K hK => ?_) ?_
                        · go_simp
                          refine hK.out _ _ ?_ (fun hh => ?_)
                          · (try dsimp only)
                            exact KS2.out _ (Below.new ((Below.refl W17.heap.size W17).drew) _)
                          clear hK K
                          try simp only [Act.put, na, nc, ns]
                          refine wpAnyH_ready (rs := [12]) (by kernel_rfl) (by simp) ?_
                          refine AllReadyH.cons (o := _) (by simp only [ga, gb, gc] <;> rfl) (fun K hK => ?_) ?_
                          · go_simp
                            refine (HA2.out _ (Below.new ((Below.refl W17.heap.size W17).drew) _)).mono ?_
                            rintro e5 w5 ⟨ba5, bc5, ka5, kc5, rfl, hb5, hn5⟩
                            have F5 := (Fresh.new W17.drew W17.heap.size zeroC 26 rfl).below hb5
                            obtain ⟨⟨z0, z1, z2, z3, z4, z5⟩, q0, q1, q2, q3, q4, q5⟩ := zcells F5
                            have HF5 := Lib.hid (And.intro F5 (Nat.le_refl W17.heap.size))
                            clear F5
                            have HB5 := Lib.hid (Below.step (w := W17) ((Below.new ((Below.refl W17.heap.size W17).drew) _)) hb5)
                            have HN5 := Lib.hid hn5
                            clear hb5 hn5
                            go_wp2_with fail
                            refine hK.out _ _ ?_ (fun hh => ?_)
                            · (try dsimp only)
                              exact KS2.out _ HB5.out
                            clear hK K
                            try simp only [Act.put, na, nc, ns]
                            refine wpAnyH_take (i := 13) (oi := ?_) (v := ?_) ?_ (by kernel_rfl) (by kernel_rfl) (by kernel_rfl) ?_ (Or.inl ⟨?_, ?_⟩) (by assumption) ?_
                            rotate_left 2
                            · simp only [ga, gb, gc] <;> rfl
                            · exact fun _ _ _ h => h
                            · rfl
                            · (intro w hs; (try dsimp only at hs); go_simp; try (with_reducible rfl))
                            try simp only [Act.put, na, nc, ns]
                            refine wpAnyH_take (i := 14) (oi := ?_) (v := ?_) ?_ (by kernel_rfl) (by kernel_rfl) (by kernel_rfl) ?_ (Or.inl ⟨?_, ?_⟩) (by assumption) ?_
                            rotate_left 2
                            · simp only [ga, gb, gc] <;> rfl
                            · exact fun _ _ _ h => h
                            · rfl
                            · (intro w hs; (try dsimp only at hs); go_simp; try (with_reducible rfl))
                            try simp only [Act.put, na, nc, ns]
                            refine wpAnyH_take (i := 15) (oi := ?_) (v := ?_) ?_ (by kernel_rfl) (by kernel_rfl) (by kernel_rfl) ?_ (Or.inl ⟨?_, ?_⟩) (by assumption) ?_
                            rotate_left 2
                            · simp only [ga, gb, gc] <;> rfl
                            · exact fun _ _ _ h => h
                            · rfl
                            · (intro w hs; (try dsimp only at hs); go_simp; try (with_reducible rfl))
                            try simp only [Act.put, na, nc, ns]
                            refine wpAnyH_ready (rs := [17]) (by kernel_rfl) (by simp) ?_
                            refine AllReadyH.cons (o := _) (by simp only [ga, gb, gc] <;> rfl) (fun K hK => ?_) ?_
                            · go_simp
                              refine hK.out _ _ ?_ (fun hh => ?_)
                              · (try dsimp only)
                                exact KS2.out _ (leaf_fill HB5.out HRMy.out HF5.out.1 HF5.out.2 (l := L2) (m := L2.length) rfl HN5.out rfl).1
                              clear hK K
                              try simp only [Act.put, na, nc, ns]
                              refine wpAnyH_take (i := 18) (oi := ?_) (v := ?_) ?_ (by kernel_rfl) (by kernel_rfl) (by kernel_rfl) ?_ (Or.inl ⟨?_, ?_⟩) (by assumption) ?_
                              rotate_left 2
                              · simp only [ga, gb, gc] <;> rfl
                              · exact fun _ _ _ h => h
                              · rfl
                              · (intro w hs; (try dsimp only at hs); go_simp; try (with_reducible rfl))
                              try simp only [Act.put, na, nc, ns]
                              refine wpAnyH_done (by kernel_rfl) ?_ _
                              go_wp2_with fail
                              go_meet
                              have h := leaf_fill HB5.out HRMy.out HF5.out.1 HF5.out.2 (l := L2) (m := L2.length) rfl HN5.out rfl
                              exact ⟨_, _, _, _, _, rfl, rfl, h.1, h.2⟩
                            exact AllReadyH.nil
                          exact AllReadyH.nil
                        exact AllReadyH.nil
                      case true =>
                        refine wp_region_held_drew (S := fun W' => (W'.cell? ⟨P6, 0, none⟩ = some (.int .i64 (ofK Lo.length).1) ∧ W'.cell? ⟨P6, 1, none⟩ = some (.string ⟨#[]⟩) ∧ W'.cell? ⟨P6, 2, none⟩ = some (.string ⟨#[]⟩) ∧ W'.cell? ⟨P6, 3, none⟩ = some (.string ⟨#[112]⟩) ∧ W'.cell? ⟨P6, 4, none⟩ = some (.slice b6 Lo.length f6) ∧ W'.cell? ⟨P6, 5, none⟩ = some (.slice k6 Lo.length c6)) ∧ W'.cell? ⟨blk, off + c, none⟩ = some (.int .u8 (x.toNat : Int))) (by kernel_rfl) ?_ (fun hh => ?_)
                        · (try dsimp only)
                          exact KS2.out _ (Below.refl W17.heap.size W17).drew
                        refine wpAnyH_take (i := 0) (oi := ?_) (v := ?_) ?_ (by kernel_rfl) (by kernel_rfl) (by kernel_rfl) ?_ (Or.inl ⟨?_, ?_⟩) (by assumption) ?_
                        rotate_left 2
                        · simp only [ga, gc] <;> rfl
                        · exact fun _ _ _ h => h
                        · rfl
                        · (intro w hs; (try dsimp only at hs); go_simp; try (with_reducible rfl))
                        try simp only [Act.put, na, nc, ns]
                        refine wpAnyH_take (i := 1) (oi := ?_) (v := ?_) ?_ (by kernel_rfl) (by kernel_rfl) (by kernel_rfl) ?_ (Or.inl ⟨?_, ?_⟩) (by assumption) ?_
                        rotate_left 2
                        · simp only [ga, gb, gc] <;> rfl
                        · exact fun _ _ _ h => h
                        · rfl
                        · (intro w hs; (try dsimp only at hs); go_simp; try (with_reducible rfl))
                        try simp only [Act.put, na, nc, ns]
                        refine wpAnyH_take (i := 2) (oi := ?_) (v := ?_) ?_ (by kernel_rfl) (by kernel_rfl) (by kernel_rfl) ?_ (Or.inl ⟨?_, ?_⟩) (by assumption) ?_
                        rotate_left 2
                        · simp only [ga, gb, gc] <;> rfl
                        · exact fun _ _ _ h => h
                        · rfl
                        · (intro w hs; (try dsimp only at hs); go_simp; try (with_reducible rfl))
                        try simp only [Act.put, na, nc, ns]
                        refine wpAnyH_take (i := 3) (oi := ?_) (v := ?_) ?_ (by kernel_rfl) (by kernel_rfl) (by kernel_rfl) ?_ (Or.inl ⟨?_, ?_⟩) (by assumption) ?_
                        rotate_left 2
                        · simp only [ga, gb, gc] <;> rfl
                        · exact fun _ _ _ h => h
                        · rfl
                        · (intro w hs; (try dsimp only at hs); go_simp; try (with_reducible rfl))
                        try simp only [Act.put, na, nc, ns]
                        refine wpAnyH_take (i := 4) (oi := ?_) (v := ?_) ?_ (by kernel_rfl) (by kernel_rfl) (by kernel_rfl) ?_ (Or.inl ⟨?_, ?_⟩) (by assumption) ?_
                        rotate_left 2
                        · simp only [ga, gb, gc] <;> rfl
                        · exact fun _ _ _ h => h
                        · rfl
                        · (intro w hs; (try dsimp only at hs); go_simp; try (with_reducible rfl))
                        try simp only [Act.put, na, nc, ns]
                        refine wpAnyH_take (i := 5) (oi := ?_) (v := ?_) ?_ (by kernel_rfl) (by kernel_rfl) (by kernel_rfl) ?_ (Or.inl ⟨?_, ?_⟩) (by assumption) ?_
                        rotate_left 2
                        · simp only [ga, gb, gc] <;> rfl
                        · exact fun _ _ _ h => h
                        · rfl
                        · (intro w hs; (try dsimp only at hs); go_simp; try (with_reducible rfl))
                        try simp only [Act.put, na, nc, ns]
                        refine wpAnyH_take (i := 6) (oi := ?_) (v := ?_) ?_ (by kernel_rfl) (by kernel_rfl) (by kernel_rfl) ?_ (Or.inl ⟨?_, ?_⟩) (by assumption) ?_
                        rotate_left 2
                        · simp only [ga, gb, gc] <;> rfl
                        · exact fun _ _ _ h => h
                        · rfl
                        · (intro w hs; (try dsimp only at hs); go_simp; try (with_reducible rfl))
                        try simp only [Act.put, na, nc, ns]
                        refine wpAnyH_take (i := 7) (oi := ?_) (v := ?_) ?_ (by kernel_rfl) (by kernel_rfl) (by kernel_rfl) ?_ (Or.inl ⟨?_, ?_⟩) (by assumption) ?_
                        rotate_left 2
                        · simp only [ga, gb, gc] <;> rfl
                        · exact fun _ _ _ h => h
                        · rfl
                        · (intro w hs; (try dsimp only at hs); go_simp; try (with_reducible rfl))
                        try simp only [Act.put, na, nc, ns]
                        refine wpAnyH_take (i := 8) (oi := ?_) (v := ?_) ?_ (by kernel_rfl) (by kernel_rfl) (by kernel_rfl) ?_ (Or.inl ⟨?_, ?_⟩) (by assumption) ?_
                        rotate_left 2
                        · simp only [ga, gb, gc] <;> rfl
                        · exact fun _ _ _ h => h
                        · rfl
                        · (intro w hs; (try dsimp only at hs); go_simp; try (with_reducible rfl))
                        try simp only [Act.put, na, nc, ns]
                        refine wpAnyH_take (i := 9) (oi := ?_) (v := ?_) ?_ (by kernel_rfl) (by kernel_rfl) (by kernel_rfl) ?_ (Or.inl ⟨?_, ?_⟩) (by assumption) ?_
                        rotate_left 2
                        · simp only [ga, gb, gc] <;> rfl
                        · exact fun _ _ _ h => h
                        · rfl
                        · (intro w hs; (try dsimp only at hs); go_simp; try (with_reducible rfl))
                        try simp only [Act.put, na, nc, ns]
                        refine wpAnyH_take (i := 10) (oi := ?_) (v := ?_) ?_ (by kernel_rfl) (by kernel_rfl) (by kernel_rfl) ?_ (Or.inl ⟨?_, ?_⟩) (by assumption) ?_
                        rotate_left 2
                        · simp only [ga, gb, gc] <;> rfl
                        · exact fun _ _ _ h => h
                        · rfl
                        · (intro w hs; (try dsimp only at hs); go_simp; try (with_reducible rfl))
                        try simp only [Act.put, na, nc, ns]
                        refine wpAnyH_take (i := 11) (oi := ?_) (v := ?_) ?_ (by kernel_rfl) (by kernel_rfl) (by kernel_rfl) ?_ (Or.inl ⟨?_, ?_⟩) (by assumption) ?_
                        rotate_left 2
                        · simp only [ga, gb, gc] <;> rfl
                        · exact fun _ _ _ h => h
                        · rfl
                        · (intro w hs; (try dsimp only at hs); go_simp; try (with_reducible rfl))
                        try simp only [Act.put, na, nc, ns]
                        refine wpAnyH_ready (rs := [12, 16]) (by kernel_rfl) (by simp) ?_
                        refine AllReadyH.cons (o := _) (by simp only [ga, gb, gc] <;> rfl) (fun K hK => ?_) ?_
                        · go_simp
                          refine (HA2.out _ (Below.refl W17.heap.size W17).drew).mono ?_
                          rintro e5 w5 ⟨ba5, bc5, ka5, kc5, rfl, hb5, hn5⟩
                          have HB5 := Lib.hid (Below.step (w := W17) ((Below.refl W17.heap.size W17).drew) hb5)
                          have HN5 := Lib.hid hn5
                          clear hb5 hn5
                          go_wp2_with fail
                          refine hK.out _ _ ?_ (fun hh => ?_)
                          · (try dsimp only)
                            exact KS2.out _ HB5.out
                          clear hK K
                          try simp only [Act.put, na, nc, ns]
                          refine wpAnyH_take (i := 13) (oi := ?_) (v := ?_) ?_ (by kernel_rfl) (by kernel_rfl) (by kernel_rfl) ?_ (Or.inl ⟨?_, ?_⟩) (by assumption) ?_
                          rotate_left 2
                          · simp only [ga, gb, gc] <;> rfl
                          · exact fun _ _ _ h => h
                          · rfl
                          · (intro w hs; (try dsimp only at hs); go_simp; try (with_reducible rfl))
                          try simp only [Act.put, na, nc, ns]
                          refine wpAnyH_take (i := 14) (oi := ?_) (v := ?_) ?_ (by kernel_rfl) (by kernel_rfl) (by kernel_rfl) ?_ (Or.inl ⟨?_, ?_⟩) (by assumption) ?_
                          rotate_left 2
                          · simp only [ga, gb, gc] <;> rfl
                          · exact fun _ _ _ h => h
                          · rfl
                          · (intro w hs; (try dsimp only at hs); go_simp; try (with_reducible rfl))
                          try simp only [Act.put, na, nc, ns]
                          refine wpAnyH_take (i := 15) (oi := ?_) (v := ?_) ?_ (by kernel_rfl) (by kernel_rfl) (by kernel_rfl) ?_ (Or.inl ⟨?_, ?_⟩) (by assumption) ?_
                          rotate_left 2
                          · simp only [ga, gb, gc] <;> rfl
                          · exact fun _ _ _ h => h
                          · rfl
                          · (intro w hs; (try dsimp only at hs); go_simp; try (with_reducible rfl))
                          try simp only [Act.put, na, nc, ns]
                          refine wpAnyH_ready (rs := [16]) (by kernel_rfl) (by simp) ?_
                          refine AllReadyH.cons (o := _) (by simp only [ga, gb, gc] <;> rfl) (fun K hK => ?_) ?_
                          · go_simp
                            refine hK.out _ _ ?_ (fun hh => ?_)
                            · (try dsimp only)
                              exact KS2.out _ (Below.new (HB5.out) _)
                            clear hK K
                            try simp only [Act.put, na, nc, ns]
                            refine wpAnyH_ready (rs := [17]) (by kernel_rfl) (by simp) ?_
                            refine AllReadyH.cons (o := _) (by simp only [ga, gb, gc] <;> rfl) (fun K hK => ?_) ?_
                            · go_simp
                              refine hK.out _ _ ?_ (fun hh => ?_)
                              · (try dsimp only)
                                exact KS2.out _ (leaf_new HB5.out (l := L2) (m := L2.length) rfl HN5.out rfl).1
                              clear hK K
                              try simp only [Act.put, na, nc, ns]
                              refine wpAnyH_take (i := 18) (oi := ?_) (v := ?_) ?_ (by kernel_rfl) (by kernel_rfl) (by kernel_rfl) ?_ (Or.inl ⟨?_, ?_⟩) (by assumption) ?_
                              rotate_left 2
                              · simp only [ga, gb, gc] <;> rfl
                              · exact fun _ _ _ h => h
                              · rfl
                              · (intro w hs; (try dsimp only at hs); go_simp; try (with_reducible rfl))
                              try simp only [Act.put, na, nc, ns]
                              refine wpAnyH_done (by kernel_rfl) ?_ _
                              go_wp2_with fail
                              go_meet
                              have h := leaf_new HB5.out (l := L2) (m := L2.length) rfl HN5.out rfl
                              exact ⟨_, _, _, _, _, rfl, rfl, h.1, h.2⟩
                            exact AllReadyH.nil
                          exact AllReadyH.nil
                        refine AllReadyH.cons (o := _) (by simp only [ga, gb, gc] <;> rfl) (fun K hK => ?_) ?_
                        · go_simp
                          refine hK.out _ _ ?_ (fun hh => ?_)
                          · (try dsimp only)
                            exact KS2.out _ (Below.new ((Below.refl W17.heap.size W17).drew) _)
                          clear hK K
                          try simp only [Act.put, na, nc, ns]
                          refine wpAnyH_ready (rs := [12]) (by kernel_rfl) (by simp) ?_
                          refine AllReadyH.cons (o := _) (by simp only [ga, gb, gc] <;> rfl) (fun K hK => ?_) ?_
                          · go_simp
                            refine (HA2.out _ (Below.new ((Below.refl W17.heap.size W17).drew) _)).mono ?_
                            rintro e5 w5 ⟨ba5, bc5, ka5, kc5, rfl, hb5, hn5⟩
                            have F5 := (Fresh.new W17.drew W17.heap.size zeroC 26 rfl).below hb5
                            obtain ⟨⟨z0, z1, z2, z3, z4, z5⟩, q0, q1, q2, q3, q4, q5⟩ := zcells F5
                            have HF5 := Lib.hid (And.intro F5 (Nat.le_refl W17.heap.size))
                            clear F5
                            have HB5 := Lib.hid (Below.step (w := W17) ((Below.new ((Below.refl W17.heap.size W17).drew) _)) hb5)
                            have HN5 := Lib.hid hn5
                            clear hb5 hn5
                            go_wp2_with fail
                            refine hK.out _ _ ?_ (fun hh => ?_)
                            · (try dsimp only)
                              exact KS2.out _ HB5.out
                            clear hK K
                            try simp only [Act.put, na, nc, ns]
                            refine wpAnyH_take (i := 13) (oi := ?_) (v := ?_) ?_ (by kernel_rfl) (by kernel_rfl) (by kernel_rfl) ?_ (Or.inl ⟨?_, ?_⟩) (by assumption) ?_
                            rotate_left 2
                            · simp only [ga, gb, gc] <;> rfl
                            · exact fun _ _ _ h => h
                            · rfl
                            · (intro w hs; (try dsimp only at hs); go_simp; try (with_reducible rfl))
                            try simp only [Act.put, na, nc, ns]
                            refine wpAnyH_take (i := 14) (oi := ?_) (v := ?_) ?_ (by kernel_rfl) (by kernel_rfl) (by kernel_rfl) ?_ (Or.inl ⟨?_, ?_⟩) (by assumption) ?_
                            rotate_left 2
                            · simp only [ga, gb, gc] <;> rfl
                            · exact fun _ _ _ h => h
                            · rfl
                            · (intro w hs; (try dsimp only at hs); go_simp; try (with_reducible rfl))
                            try simp only [Act.put, na, nc, ns]
                            refine wpAnyH_take (i := 15) (oi := ?_) (v := ?_) ?_ (by kernel_rfl) (by kernel_rfl) (by kernel_rfl) ?_ (Or.inl ⟨?_, ?_⟩) (by assumption) ?_
                            rotate_left 2
                            · simp only [ga, gb, gc] <;> rfl
                            · exact fun _ _ _ h => h
                            · rfl
                            · (intro w hs; (try dsimp only at hs); go_simp; try (with_reducible rfl))
                            try simp only [Act.put, na, nc, ns]
                            refine wpAnyH_ready (rs := [17]) (by kernel_rfl) (by simp) ?_
                            refine AllReadyH.cons (o := _) (by simp only [ga, gb, gc] <;> rfl) (fun K hK => ?_) ?_
                            · go_simp
                              refine hK.out _ _ ?_ (fun hh => ?_)
                              · (try dsimp only)
                                exact KS2.out _ (leaf_fill HB5.out HRMy.out HF5.out.1 HF5.out.2 (l := L2) (m := L2.length) rfl HN5.out rfl).1
                              clear hK K
                              try simp only [Act.put, na, nc, ns]
                              refine wpAnyH_take (i := 18) (oi := ?_) (v := ?_) ?_ (by kernel_rfl) (by kernel_rfl) (by kernel_rfl) ?_ (Or.inl ⟨?_, ?_⟩) (by assumption) ?_
                              rotate_left 2
                              · simp only [ga, gb, gc] <;> rfl
                              · exact fun _ _ _ h => h
                              · rfl
                              · (intro w hs; (try dsimp only at hs); go_simp; try (with_reducible rfl))
                              try simp only [Act.put, na, nc, ns]
                              refine wpAnyH_done (by kernel_rfl) ?_ _
                              go_wp2_with fail
                              go_meet
                              have h := leaf_fill HB5.out HRMy.out HF5.out.1 HF5.out.2 (l := L2) (m := L2.length) rfl HN5.out rfl
                              exact ⟨_, _, _, _, _, rfl, rfl, h.1, h.2⟩
                            exact AllReadyH.nil
                          exact AllReadyH.nil
                        exact AllReadyH.nil
                    case rest =>
                      obtain ⟨P19, ba2, bc2, ka2, kc2, rfl, rfl, hbx, hn12⟩ := hcut
                      have hGz := HGy.out.below hbx
                      obtain ⟨⟨y0, y1, y2, y3, y4, y5⟩, -⟩ := hn12.cells
                      obtain ⟨⟨z0, z1, z2, z3, z4, z5⟩, t0, t1, t2, t3, t4, t5⟩ := hGz.n6.cells
                      obtain ⟨W21, hW21⟩ : ∃ W21, W21 = (((((wc.setCell ⟨P6, 0, none⟩ (.int .i64 kk)).setCell ⟨P6, 1, none⟩ (.string ⟨#[]⟩)).setCell ⟨P6, 2, none⟩ (.string ⟨#[]⟩)).setCell ⟨P6, 3, none⟩ (.string ⟨#[112]⟩)).setCell ⟨P6, 4, none⟩ (.slice ba2 L2.length bc2)).setCell ⟨P6, 5, none⟩ (.slice ka2 L2.length kc2) := ⟨_, rfl⟩
                      obtain ⟨_, hGq⟩ := hGz.lowr HRMf.out rfl HKK.out hn12.nd hW21
                      have HGz := Lib.hid hGq
                      have HW21 := Lib.hid hW21
                      clear hW21 hGq hGz hbx hn12 HA2 KS2
                      go_upto_region 39 with fail
                      rw [← HW21.out]
                      clear HW21 y0 y1 y2 y3 y4 y5 z0 z1 z2 z3 z4 z5 t0 t1 t2 t3 t4 t5
                      have hGz := HGz.out
                      obtain ⟨y0, y1, y2, y3, y4, y5⟩ := hGz.n5.cells.1
                      obtain ⟨z0, z1, z2, z3, z4, z5⟩ := hGz.n6.cells.1
                      have HRi : Hid (∀ w, Below W21.heap.size W21 w → Calls Tryd.prog 7 #[.agg #[.int .i64 (ofK L2.length).1, .string ⟨#[]⟩, .string ⟨#[]⟩, .string ⟨#[112]⟩, .slice ba2 L2.length bc2, .slice ka2 L2.length kc2]] w fun e w' => e = .returned (.bool true) ∧ Below w.heap.size w w') := by
                        intro w hb
                        have h1 := nbRight_any rfl (hGz.n6.nd.below hb)
                        rw [right_of_right HGTz.out.lowR] at h1
                        exact h1
                      have HAn : Hid (∀ w, Below W21.heap.size W21 w → Calls Tryd.prog 18 #[.agg #[.int .i64 5, .string ⟨#[]⟩, .string ⟨#[]⟩, .string ⟨#[]⟩, .slice ba T2.length bc, .slice ka T2.length kc]] w fun e w' => e = .returned (.bool true) ∧ Below w.heap.size w w') := by
                        intro w hb
                        have h1 := nbAnchor_any rfl (hGz.n5.nd.below hb)
                        rw [HGTz.out.topA] at h1
                        exact h1
                      have HC5 : Hid (∀ w, Below W21.heap.size W21 w → (w.cell? ⟨P5, 0, none⟩ = some (.int .i64 5) ∧ w.cell? ⟨P5, 1, none⟩ = some (.string ⟨#[]⟩) ∧ w.cell? ⟨P5, 2, none⟩ = some (.string ⟨#[]⟩) ∧ w.cell? ⟨P5, 3, none⟩ = some (.string ⟨#[]⟩) ∧ w.cell? ⟨P5, 4, none⟩ = some (.slice ba T2.length bc) ∧ w.cell? ⟨P5, 5, none⟩ = some (.slice ka T2.length kc))) := fun w hb => (hGz.n5.below hb).cells.1
                      have tI2 := HTI.out
                      clear hGz
                      go_wp2_with (first
                        | (go_at_call 7; refine (HRi.out _ (Below.refl _ _)).mono ?_; rintro e7 w7 ⟨rfl, hb⟩; have HB7 := Lib.hid hb; obtain ⟨y0, y1, y2, y3, y4, y5⟩ := HC5.out _ hb; clear hb)
                        | (go_at_call 18; refine (HAn.out _ HB7.out).mono ?_; rintro e8 w8 ⟨rfl, hb⟩; have HB8 := Lib.hid (Below.step HB7.out hb); obtain ⟨y0, y1, y2, y3, y4, y5⟩ := HC5.out _ HB8.out; clear hb))
                      go_roundw
                      case rel =>
                        refine ⟨⟨c + 1, T2, L2, _, _, _, _, _, _, _, _, by first | rfl | (rw [HT2.out.1]; simp) | simp, by simp, by omega, ?_, HGTz.out, HGz.out.below HB8.out⟩⟩
                        intro y hy
                        have hyx : y ≠ x ∧ isIn y T = true := by
                          rw [HT2.out.2] at hy
                          by_cases e : y = x
                          · rw [if_pos e] at hy; cases hy
                          · rw [if_neg e] at hy; exact ⟨e, hy⟩
                        exact drop_next HX.out (HSub.out y hyx.2) hyx.1
                      case measure => simp [intOf]; omega
          · have hT : isIn x T = false := by simpa using hT0
            clear hT0
            by_cases hsp : x = 0 ∨ x = 255
            · skip
              as_aux_lemma =>
                have hE1 := nb_cut_none hut hT
                have hN1 : cutN (nb 5 ⟨#[]⟩ T) x true = nb 0 ⟨#[]⟩ [] := by unfold cutN; rw [hE1]; exact if_neg (by decide)
                have HA1 : Hid (∀ w, Below wr.heap.size wr w → Calls Tryd.prog 10 #[.agg #[.int .i64 5, .string ⟨#[]⟩, .string ⟨#[]⟩, .string ⟨#[]⟩, .slice b5 T.length f5, .slice k5 T.length c5], .int .u8 (x.toNat : Int), .bool true] w fun e w' => ∃ ba bc ka kc, e = .returned (.tuple #[.agg #[.int .i64 0, .string ⟨#[]⟩, .string ⟨#[]⟩, .string ⟨#[]⟩, .slice ba 0 bc, .slice ka 0 kc], .int .i64 5]) ∧ Below w.heap.size w w' ∧ NdAt w' (nb 0 ⟨#[]⟩ ([] : List En)) ba bc ka kc) := by
                  intro w hb
                  have h1 := nbCut_any rfl (hG.n5.nd.below hb) x true
                  rw [hE1, hN1] at h1
                  exact h1.mono fun e w' h => mk_nb rfl h
                have HLow := Lib.hid hG.low
                have HRMr : Hid (Rm wr) := HRMf.out _ hG.low
                have KS : Hid (∀ w, Below wr.heap.size wr w → ((w.cell? ⟨P5, 0, none⟩ = some (.int .i64 5) ∧ w.cell? ⟨P5, 1, none⟩ = some (.string ⟨#[]⟩) ∧ w.cell? ⟨P5, 2, none⟩ = some (.string ⟨#[]⟩) ∧ w.cell? ⟨P5, 3, none⟩ = some (.string ⟨#[]⟩) ∧ w.cell? ⟨P5, 4, none⟩ = some (.slice b5 T.length f5) ∧ w.cell? ⟨P5, 5, none⟩ = some (.slice k5 T.length c5)) ∧ w.cell? ⟨blk, off + c, none⟩ = some (.int .u8 (x.toNat : Int)))) := fun w hb => ⟨(hG.n5.below hb).cells.1, HBy.out _ (Below.step HLow.out hb)⟩
                have HHb : Hid (isIn x T = false) := hT
                have HUl := Lib.hid hul
                clear hG hgt hE1 hN1 hut hul hT
                go_upto_region 28 with fail
                go_cut [17, 18] (fun s17 s18 wx => ∃ P ba bc ka kc, s17 = .pointer (some ⟨P, 0, none⟩) ∧ s18 = .int .i64 5 ∧ Below wr.heap.size wr wx ∧ NBx wx P 0 ⟨#[]⟩ ([] : List En) ba 0 bc ka kc)
                case first =>
                  refine wp_region_held_drew (S := fun W' => (W'.cell? ⟨P5, 0, none⟩ = some (.int .i64 5) ∧ W'.cell? ⟨P5, 1, none⟩ = some (.string ⟨#[]⟩) ∧ W'.cell? ⟨P5, 2, none⟩ = some (.string ⟨#[]⟩) ∧ W'.cell? ⟨P5, 3, none⟩ = some (.string ⟨#[]⟩) ∧ W'.cell? ⟨P5, 4, none⟩ = some (.slice b5 T.length f5) ∧ W'.cell? ⟨P5, 5, none⟩ = some (.slice k5 T.length c5)) ∧ W'.cell? ⟨blk, off + c, none⟩ = some (.int .u8 (x.toNat : Int))) (by kernel_rfl) ?_ (fun hh => ?_)
                  · (try dsimp only)
                    exact KS.out _ (Below.refl wr.heap.size wr).drew
                  refine wpAnyH_take (i := 0) (oi := ?_) (v := ?_) ?_ (by kernel_rfl) (by kernel_rfl) (by kernel_rfl) ?_ (Or.inl ⟨?_, ?_⟩) (by assumption) ?_
                  rotate_left 2
                  · simp only [ga, gc] <;> rfl
                  · exact fun _ _ _ h => h
                  · rfl
                  · (intro w hs; (try dsimp only at hs); go_simp; try (with_reducible rfl))
                  try simp only [Act.put, na, nc, ns]
                  refine wpAnyH_take (i := 1) (oi := ?_) (v := ?_) ?_ (by kernel_rfl) (by kernel_rfl) (by kernel_rfl) ?_ (Or.inl ⟨?_, ?_⟩) (by assumption) ?_
                  rotate_left 2
                  · simp only [ga, gb, gc] <;> rfl
                  · exact fun _ _ _ h => h
                  · rfl
                  · (intro w hs; (try dsimp only at hs); go_simp; try (with_reducible rfl))
                  try simp only [Act.put, na, nc, ns]
                  refine wpAnyH_take (i := 2) (oi := ?_) (v := ?_) ?_ (by kernel_rfl) (by kernel_rfl) (by kernel_rfl) ?_ (Or.inl ⟨?_, ?_⟩) (by assumption) ?_
                  rotate_left 2
                  · simp only [ga, gb, gc] <;> rfl
                  · exact fun _ _ _ h => h
                  · rfl
                  · (intro w hs; (try dsimp only at hs); go_simp; try (with_reducible rfl))
                  try simp only [Act.put, na, nc, ns]
                  refine wpAnyH_take (i := 3) (oi := ?_) (v := ?_) ?_ (by kernel_rfl) (by kernel_rfl) (by kernel_rfl) ?_ (Or.inl ⟨?_, ?_⟩) (by assumption) ?_
                  rotate_left 2
                  · simp only [ga, gb, gc] <;> rfl
                  · exact fun _ _ _ h => h
                  · rfl
                  · (intro w hs; (try dsimp only at hs); go_simp; try (with_reducible rfl))
                  try simp only [Act.put, na, nc, ns]
                  refine wpAnyH_take (i := 4) (oi := ?_) (v := ?_) ?_ (by kernel_rfl) (by kernel_rfl) (by kernel_rfl) ?_ (Or.inl ⟨?_, ?_⟩) (by assumption) ?_
                  rotate_left 2
                  · simp only [ga, gb, gc] <;> rfl
                  · exact fun _ _ _ h => h
                  · rfl
                  · (intro w hs; (try dsimp only at hs); go_simp; try (with_reducible rfl))
                  try simp only [Act.put, na, nc, ns]
                  refine wpAnyH_ready (rs := [5, 9]) (by kernel_rfl) (by simp) ?_
                  refine AllReadyH.cons (o := _) (by simp only [ga, gb, gc] <;> rfl) (fun K hK => ?_) ?_
                  · go_simp
                    refine (HA1.out _ (Below.refl wr.heap.size wr).drew).mono ?_
                    rintro e5 w5 ⟨ba5, bc5, ka5, kc5, rfl, hb5, hn5⟩
                    have HB5 := Lib.hid (Below.step (w := wr) ((Below.refl wr.heap.size wr).drew) hb5)
                    have HN5 := Lib.hid hn5
                    clear hb5 hn5
                    go_wp2_with fail
                    refine hK.out _ _ ?_ (fun hh => ?_)
                    · (try dsimp only)
                      exact KS.out _ HB5.out
                    clear hK K
                    try simp only [Act.put, na, nc, ns]
                    refine wpAnyH_take (i := 6) (oi := ?_) (v := ?_) ?_ (by kernel_rfl) (by kernel_rfl) (by kernel_rfl) ?_ (Or.inl ⟨?_, ?_⟩) (by assumption) ?_
                    rotate_left 2
                    · simp only [ga, gb, gc] <;> rfl
                    · exact fun _ _ _ h => h
                    · rfl
                    · (intro w hs; (try dsimp only at hs); go_simp; try (with_reducible rfl))
                    try simp only [Act.put, na, nc, ns]
                    refine wpAnyH_take (i := 7) (oi := ?_) (v := ?_) ?_ (by kernel_rfl) (by kernel_rfl) (by kernel_rfl) ?_ (Or.inl ⟨?_, ?_⟩) (by assumption) ?_
                    rotate_left 2
                    · simp only [ga, gb, gc] <;> rfl
                    · exact fun _ _ _ h => h
                    · rfl
                    · (intro w hs; (try dsimp only at hs); go_simp; try (with_reducible rfl))
                    try simp only [Act.put, na, nc, ns]
                    refine wpAnyH_take (i := 8) (oi := ?_) (v := ?_) ?_ (by kernel_rfl) (by kernel_rfl) (by kernel_rfl) ?_ (Or.inl ⟨?_, ?_⟩) (by assumption) ?_
                    rotate_left 2
                    · simp only [ga, gb, gc] <;> rfl
                    · exact fun _ _ _ h => h
                    · rfl
                    · (intro w hs; (try dsimp only at hs); go_simp; try (with_reducible rfl))
                    try simp only [Act.put, na, nc, ns]
                    refine wpAnyH_ready (rs := [9]) (by kernel_rfl) (by simp) ?_
                    refine AllReadyH.cons (o := _) (by simp only [ga, gb, gc] <;> rfl) (fun K hK => ?_) ?_
                    · go_simp
                      refine hK.out _ _ ?_ (fun hh => ?_)
                      · (try dsimp only)
                        exact KS.out _ (Below.new (HB5.out) _)
                      clear hK K
                      try simp only [Act.put, na, nc, ns]
                      refine wpAnyH_ready (rs := [10]) (by kernel_rfl) (by simp) ?_
                      refine AllReadyH.cons (o := _) (by simp only [ga, gb, gc] <;> rfl) (fun K hK => ?_) ?_
                      · go_simp
                        refine hK.out _ _ ?_ (fun hh => ?_)
                        · (try dsimp only)
                          exact KS.out _ (leaf_new HB5.out (l := ([] : List En)) (m := 0) rfl HN5.out rfl).1
                        clear hK K
                        try simp only [Act.put, na, nc, ns]
                        refine wpAnyH_take (i := 11) (oi := ?_) (v := ?_) ?_ (by kernel_rfl) (by kernel_rfl) (by kernel_rfl) ?_ (Or.inl ⟨?_, ?_⟩) (by assumption) ?_
                        rotate_left 2
                        · simp only [ga, gb, gc] <;> rfl
                        · exact fun _ _ _ h => h
                        · rfl
                        · (intro w hs; (try dsimp only at hs); go_simp; try (with_reducible rfl))
                        try simp only [Act.put, na, nc, ns]
                        refine wpAnyH_done (by kernel_rfl) ?_ _
                        go_wp2_with fail
                        go_meet
                        have h := leaf_new HB5.out (l := ([] : List En)) (m := 0) rfl HN5.out rfl
                        exact ⟨_, _, _, _, _, rfl, rfl, h.1, h.2⟩
                      exact AllReadyH.nil
                    exact AllReadyH.nil
                  refine AllReadyH.cons (o := _) (by simp only [ga, gb, gc] <;> rfl) (fun K hK => ?_) ?_
                  · go_simp
                    refine hK.out _ _ ?_ (fun hh => ?_)
                    · (try dsimp only)
                      exact KS.out _ (Below.new ((Below.refl wr.heap.size wr).drew) _)
                    clear hK K
                    try simp only [Act.put, na, nc, ns]
                    refine wpAnyH_ready (rs := [5]) (by kernel_rfl) (by simp) ?_
                    refine AllReadyH.cons (o := _) (by simp only [ga, gb, gc] <;> rfl) (fun K hK => ?_) ?_
                    · go_simp
                      refine (HA1.out _ (Below.new ((Below.refl wr.heap.size wr).drew) _)).mono ?_
                      rintro e5 w5 ⟨ba5, bc5, ka5, kc5, rfl, hb5, hn5⟩
                      have F5 := (Fresh.new wr.drew wr.heap.size zeroC 26 rfl).below hb5
                      obtain ⟨⟨z0, z1, z2, z3, z4, z5⟩, q0, q1, q2, q3, q4, q5⟩ := zcells F5
                      have HF5 := Lib.hid (And.intro F5 (Nat.le_refl wr.heap.size))
                      clear F5
                      have HB5 := Lib.hid (Below.step (w := wr) ((Below.new ((Below.refl wr.heap.size wr).drew) _)) hb5)
                      have HN5 := Lib.hid hn5
                      clear hb5 hn5
                      go_wp2_with fail
                      refine hK.out _ _ ?_ (fun hh => ?_)
                      · (try dsimp only)
                        exact KS.out _ HB5.out
                      clear hK K
                      try simp only [Act.put, na, nc, ns]
                      refine wpAnyH_take (i := 6) (oi := ?_) (v := ?_) ?_ (by kernel_rfl) (by kernel_rfl) (by kernel_rfl) ?_ (Or.inl ⟨?_, ?_⟩) (by assumption) ?_
                      rotate_left 2
                      · simp only [ga, gb, gc] <;> rfl
                      · exact fun _ _ _ h => h
                      · rfl
                      · (intro w hs; (try dsimp only at hs); go_simp; try (with_reducible rfl))
                      try simp only [Act.put, na, nc, ns]
                      refine wpAnyH_take (i := 7) (oi := ?_) (v := ?_) ?_ (by kernel_rfl) (by kernel_rfl) (by kernel_rfl) ?_ (Or.inl ⟨?_, ?_⟩) (by assumption) ?_
                      rotate_left 2
                      · simp only [ga, gb, gc] <;> rfl
                      · exact fun _ _ _ h => h
                      · rfl
                      · (intro w hs; (try dsimp only at hs); go_simp; try (with_reducible rfl))
                      try simp only [Act.put, na, nc, ns]
                      refine wpAnyH_take (i := 8) (oi := ?_) (v := ?_) ?_ (by kernel_rfl) (by kernel_rfl) (by kernel_rfl) ?_ (Or.inl ⟨?_, ?_⟩) (by assumption) ?_
                      rotate_left 2
                      · simp only [ga, gb, gc] <;> rfl
                      · exact fun _ _ _ h => h
                      · rfl
                      · (intro w hs; (try dsimp only at hs); go_simp; try (with_reducible rfl))
                      try simp only [Act.put, na, nc, ns]
                      refine wpAnyH_ready (rs := [10]) (by kernel_rfl) (by simp) ?_
                      refine AllReadyH.cons (o := _) (by simp only [ga, gb, gc] <;> rfl) (fun K hK => ?_) ?_
                      · go_simp
                        refine hK.out _ _ ?_ (fun hh => ?_)
                        · (try dsimp only)
                          exact KS.out _ (leaf_fill HB5.out HRMr.out HF5.out.1 HF5.out.2 (l := ([] : List En)) (m := 0) rfl HN5.out rfl).1
                        clear hK K
                        try simp only [Act.put, na, nc, ns]
                        refine wpAnyH_take (i := 11) (oi := ?_) (v := ?_) ?_ (by kernel_rfl) (by kernel_rfl) (by kernel_rfl) ?_ (Or.inl ⟨?_, ?_⟩) (by assumption) ?_
                        rotate_left 2
                        · simp only [ga, gb, gc] <;> rfl
                        · exact fun _ _ _ h => h
                        · rfl
                        · (intro w hs; (try dsimp only at hs); go_simp; try (with_reducible rfl))
                        try simp only [Act.put, na, nc, ns]
                        refine wpAnyH_done (by kernel_rfl) ?_ _
                        go_wp2_with fail
                        go_meet
                        have h := leaf_fill HB5.out HRMr.out HF5.out.1 HF5.out.2 (l := ([] : List En)) (m := 0) rfl HN5.out rfl
                        exact ⟨_, _, _, _, _, rfl, rfl, h.1, h.2⟩
                      exact AllReadyH.nil
                    exact AllReadyH.nil
                  exact AllReadyH.nil
                case rest =>
                  obtain ⟨P17, ba, bc, ka, kc, rfl, rfl, hbx, hn10⟩ := hcut
                  have hGx := HG.out.below hbx
                  obtain ⟨⟨y0, y1, y2, y3, y4, y5⟩, -⟩ := hn10.cells
                  obtain ⟨⟨z0, z1, z2, z3, z4, z5⟩, t0, t1, t2, t3, t4, t5⟩ := hGx.n5.cells
                  have bx := HBy.out _ hGx.low
                  obtain ⟨hx0, hx1⟩ := hGx.hb.cell x
                  rw [HHb.out] at hx0
                  have HGx := Lib.hid hGx
                  have HN10 := Lib.hid hn10
                  clear hbx hGx hn10 HA1 KS HG
                  go_upto_region 35 with fail
                  clear y0 y1 y2 y3 y4 y5 z0 z1 z2 z3 z4 z5 t0 t1 t2 t3 t4 t5 bx hx0 hx1
                  obtain ⟨V0, hV0⟩ : ∃ V, wc = V := ⟨_, rfl⟩
                  rw [hV0] at HGx ⊢
                  clear hV0 HN10
                  have HGy := HGx
                  have by35 := HBy.out _ HGy.out.low
                  go_cut [160] (fun v wx => v = .bool false ∧ wx = V0)
                  case first =>
                    rcases hsp with rfl | rfl
                    all_goals
                      have by36 := by35
                      simp only [show (0 : UInt8).toNat = 0 from rfl, show (255 : UInt8).toNat = 255 from rfl, Int.natCast_zero, Int.cast_ofNat_Int] at by36
                      clear by35
                      go_wp2_with fail
                      go_meet
                      exact ⟨by first | rfl | simp, rfl⟩
                  case rest =>
                    obtain ⟨rfl, hwc35⟩ := hcut
                    rw [hwc35]
                    clear hwc35 by35
                    have HGTz : Hid (GT T Lo) := by
                      have h := HGT.out
                      exact h
                    have HGz := HGy
                    go_upto_region 39 with fail
                    have hGz := HGz.out
                    obtain ⟨y0, y1, y2, y3, y4, y5⟩ := hGz.n5.cells.1
                    obtain ⟨z0, z1, z2, z3, z4, z5⟩ := hGz.n6.cells.1
                    have HRi : Hid (∀ w, Below V0.heap.size V0 w → Calls Tryd.prog 7 #[.agg #[.int .i64 (ofK Lo.length).1, .string ⟨#[]⟩, .string ⟨#[]⟩, .string ⟨#[112]⟩, .slice b6 Lo.length f6, .slice k6 Lo.length c6]] w fun e w' => e = .returned (.bool true) ∧ Below w.heap.size w w') := by
                      intro w hb
                      have h1 := nbRight_any rfl (hGz.n6.nd.below hb)
                      rw [right_of_right HGTz.out.lowR] at h1
                      exact h1
                    have HAn : Hid (∀ w, Below V0.heap.size V0 w → Calls Tryd.prog 18 #[.agg #[.int .i64 5, .string ⟨#[]⟩, .string ⟨#[]⟩, .string ⟨#[]⟩, .slice b5 T.length f5, .slice k5 T.length c5]] w fun e w' => e = .returned (.bool true) ∧ Below w.heap.size w w') := by
                      intro w hb
                      have h1 := nbAnchor_any rfl (hGz.n5.nd.below hb)
                      rw [HGTz.out.topA] at h1
                      exact h1
                    have HC5 : Hid (∀ w, Below V0.heap.size V0 w → (w.cell? ⟨P5, 0, none⟩ = some (.int .i64 5) ∧ w.cell? ⟨P5, 1, none⟩ = some (.string ⟨#[]⟩) ∧ w.cell? ⟨P5, 2, none⟩ = some (.string ⟨#[]⟩) ∧ w.cell? ⟨P5, 3, none⟩ = some (.string ⟨#[]⟩) ∧ w.cell? ⟨P5, 4, none⟩ = some (.slice b5 T.length f5) ∧ w.cell? ⟨P5, 5, none⟩ = some (.slice k5 T.length c5))) := fun w hb => (hGz.n5.below hb).cells.1
                    skip
                    clear hGz
                    go_wp2_with (first
                      | (go_at_call 7; refine (HRi.out _ (Below.refl _ _)).mono ?_; rintro e7 w7 ⟨rfl, hb⟩; have HB7 := Lib.hid hb; obtain ⟨y0, y1, y2, y3, y4, y5⟩ := HC5.out _ hb; clear hb)
                      | (go_at_call 18; refine (HAn.out _ HB7.out).mono ?_; rintro e8 w8 ⟨rfl, hb⟩; have HB8 := Lib.hid (Below.step HB7.out hb); obtain ⟨y0, y1, y2, y3, y4, y5⟩ := HC5.out _ HB8.out; clear hb))
                    go_roundw
                    case rel =>
                      refine ⟨⟨c + 1, T, Lo, _, _, _, _, _, _, _, _, rfl, by simp, by omega, ?_, HGTz.out, HGz.out.below HB8.out⟩⟩
                      intro y hy
                      refine drop_next HX.out (HSub.out y hy) ?_
                      rintro rfl
                      rw [HHb.out] at hy
                      cases hy
                    case measure => simp [intOf]; omega
            · obtain ⟨hsp0, hsp1⟩ := not_or.1 hsp
              clear hsp
              as_aux_lemma =>
                have hE1 := nb_cut_none hut hT
                have hN1 : cutN (nb 5 ⟨#[]⟩ T) x true = nb 0 ⟨#[]⟩ [] := by unfold cutN; rw [hE1]; exact if_neg (by decide)
                have HA1 : Hid (∀ w, Below wr.heap.size wr w → Calls Tryd.prog 10 #[.agg #[.int .i64 5, .string ⟨#[]⟩, .string ⟨#[]⟩, .string ⟨#[]⟩, .slice b5 T.length f5, .slice k5 T.length c5], .int .u8 (x.toNat : Int), .bool true] w fun e w' => ∃ ba bc ka kc, e = .returned (.tuple #[.agg #[.int .i64 0, .string ⟨#[]⟩, .string ⟨#[]⟩, .string ⟨#[]⟩, .slice ba 0 bc, .slice ka 0 kc], .int .i64 5]) ∧ Below w.heap.size w w' ∧ NdAt w' (nb 0 ⟨#[]⟩ ([] : List En)) ba bc ka kc) := by
                  intro w hb
                  have h1 := nbCut_any rfl (hG.n5.nd.below hb) x true
                  rw [hE1, hN1] at h1
                  exact h1.mono fun e w' h => mk_nb rfl h
                have HLow := Lib.hid hG.low
                have HRMr : Hid (Rm wr) := HRMf.out _ hG.low
                have KS : Hid (∀ w, Below wr.heap.size wr w → ((w.cell? ⟨P5, 0, none⟩ = some (.int .i64 5) ∧ w.cell? ⟨P5, 1, none⟩ = some (.string ⟨#[]⟩) ∧ w.cell? ⟨P5, 2, none⟩ = some (.string ⟨#[]⟩) ∧ w.cell? ⟨P5, 3, none⟩ = some (.string ⟨#[]⟩) ∧ w.cell? ⟨P5, 4, none⟩ = some (.slice b5 T.length f5) ∧ w.cell? ⟨P5, 5, none⟩ = some (.slice k5 T.length c5)) ∧ w.cell? ⟨blk, off + c, none⟩ = some (.int .u8 (x.toNat : Int)))) := fun w hb => ⟨(hG.n5.below hb).cells.1, HBy.out _ (Below.step HLow.out hb)⟩
                have HHb : Hid (isIn x T = false) := hT
                have HUl := Lib.hid hul
                clear hG hgt hE1 hN1 hut hul hT
                go_upto_region 28 with fail
                go_cut [17, 18] (fun s17 s18 wx => ∃ P ba bc ka kc, s17 = .pointer (some ⟨P, 0, none⟩) ∧ s18 = .int .i64 5 ∧ Below wr.heap.size wr wx ∧ NBx wx P 0 ⟨#[]⟩ ([] : List En) ba 0 bc ka kc)
                case first =>
                  refine wp_region_held_drew (S := fun W' => (W'.cell? ⟨P5, 0, none⟩ = some (.int .i64 5) ∧ W'.cell? ⟨P5, 1, none⟩ = some (.string ⟨#[]⟩) ∧ W'.cell? ⟨P5, 2, none⟩ = some (.string ⟨#[]⟩) ∧ W'.cell? ⟨P5, 3, none⟩ = some (.string ⟨#[]⟩) ∧ W'.cell? ⟨P5, 4, none⟩ = some (.slice b5 T.length f5) ∧ W'.cell? ⟨P5, 5, none⟩ = some (.slice k5 T.length c5)) ∧ W'.cell? ⟨blk, off + c, none⟩ = some (.int .u8 (x.toNat : Int))) (by kernel_rfl) ?_ (fun hh => ?_)
                  · (try dsimp only)
                    exact KS.out _ (Below.refl wr.heap.size wr).drew
                  refine wpAnyH_take (i := 0) (oi := ?_) (v := ?_) ?_ (by kernel_rfl) (by kernel_rfl) (by kernel_rfl) ?_ (Or.inl ⟨?_, ?_⟩) (by assumption) ?_
                  rotate_left 2
                  · simp only [ga, gc] <;> rfl
                  · exact fun _ _ _ h => h
                  · rfl
                  · (intro w hs; (try dsimp only at hs); go_simp; try (with_reducible rfl))
                  try simp only [Act.put, na, nc, ns]
                  refine wpAnyH_take (i := 1) (oi := ?_) (v := ?_) ?_ (by kernel_rfl) (by kernel_rfl) (by kernel_rfl) ?_ (Or.inl ⟨?_, ?_⟩) (by assumption) ?_
                  rotate_left 2
                  · simp only [ga, gb, gc] <;> rfl
                  · exact fun _ _ _ h => h
                  · rfl
                  · (intro w hs; (try dsimp only at hs); go_simp; try (with_reducible rfl))
                  try simp only [Act.put, na, nc, ns]
                  refine wpAnyH_take (i := 2) (oi := ?_) (v := ?_) ?_ (by kernel_rfl) (by kernel_rfl) (by kernel_rfl) ?_ (Or.inl ⟨?_, ?_⟩) (by assumption) ?_
                  rotate_left 2
                  · simp only [ga, gb, gc] <;> rfl
                  · exact fun _ _ _ h => h
                  · rfl
                  · (intro w hs; (try dsimp only at hs); go_simp; try (with_reducible rfl))
                  try simp only [Act.put, na, nc, ns]
                  refine wpAnyH_take (i := 3) (oi := ?_) (v := ?_) ?_ (by kernel_rfl) (by kernel_rfl) (by kernel_rfl) ?_ (Or.inl ⟨?_, ?_⟩) (by assumption) ?_
                  rotate_left 2
                  · simp only [ga, gb, gc] <;> rfl
                  · exact fun _ _ _ h => h
                  · rfl
                  · (intro w hs; (try dsimp only at hs); go_simp; try (with_reducible rfl))
                  try simp only [Act.put, na, nc, ns]
                  refine wpAnyH_take (i := 4) (oi := ?_) (v := ?_) ?_ (by kernel_rfl) (by kernel_rfl) (by kernel_rfl) ?_ (Or.inl ⟨?_, ?_⟩) (by assumption) ?_
                  rotate_left 2
                  · simp only [ga, gb, gc] <;> rfl
                  · exact fun _ _ _ h => h
                  · rfl
                  · (intro w hs; (try dsimp only at hs); go_simp; try (with_reducible rfl))
                  try simp only [Act.put, na, nc, ns]
                  refine wpAnyH_ready (rs := [5, 9]) (by kernel_rfl) (by simp) ?_
                  refine AllReadyH.cons (o := _) (by simp only [ga, gb, gc] <;> rfl) (fun K hK => ?_) ?_
                  · go_simp
                    refine (HA1.out _ (Below.refl wr.heap.size wr).drew).mono ?_
                    rintro e5 w5 ⟨ba5, bc5, ka5, kc5, rfl, hb5, hn5⟩
                    have HB5 := Lib.hid (Below.step (w := wr) ((Below.refl wr.heap.size wr).drew) hb5)
                    have HN5 := Lib.hid hn5
                    clear hb5 hn5
                    go_wp2_with fail
                    refine hK.out _ _ ?_ (fun hh => ?_)
                    · (try dsimp only)
                      exact KS.out _ HB5.out
                    clear hK K
                    try simp only [Act.put, na, nc, ns]
                    refine wpAnyH_take (i := 6) (oi := ?_) (v := ?_) ?_ (by kernel_rfl) (by kernel_rfl) (by kernel_rfl) ?_ (Or.inl ⟨?_, ?_⟩) (by assumption) ?_
                    rotate_left 2
                    · simp only [ga, gb, gc] <;> rfl
                    · exact fun _ _ _ h => h
                    · rfl
                    · (intro w hs; (try dsimp only at hs); go_simp; try (with_reducible rfl))
                    try simp only [Act.put, na, nc, ns]
                    refine wpAnyH_take (i := 7) (oi := ?_) (v := ?_) ?_ (by kernel_rfl) (by kernel_rfl) (by kernel_rfl) ?_ (Or.inl ⟨?_, ?_⟩) (by assumption) ?_
                    rotate_left 2
                    · simp only [ga, gb, gc] <;> rfl
                    · exact fun _ _ _ h => h
                    · rfl
                    · (intro w hs; (try dsimp only at hs); go_simp; try (with_reducible rfl))
                    try simp only [Act.put, na, nc, ns]
                    refine wpAnyH_take (i := 8) (oi := ?_) (v := ?_) ?_ (by kernel_rfl) (by kernel_rfl) (by kernel_rfl) ?_ (Or.inl ⟨?_, ?_⟩) (by assumption) ?_
                    rotate_left 2
                    · simp only [ga, gb, gc] <;> rfl
                    · exact fun _ _ _ h => h
                    · rfl
                    · (intro w hs; (try dsimp only at hs); go_simp; try (with_reducible rfl))
                    try simp only [Act.put, na, nc, ns]
                    refine wpAnyH_ready (rs := [9]) (by kernel_rfl) (by simp) ?_
                    refine AllReadyH.cons (o := _) (by simp only [ga, gb, gc] <;> rfl) (fun K hK => ?_) ?_
                    · go_simp
                      refine hK.out _ _ ?_ (fun hh => ?_)
                      · (try dsimp only)
                        exact KS.out _ (Below.new (HB5.out) _)
                      clear hK K
                      try simp only [Act.put, na, nc, ns]
                      refine wpAnyH_ready (rs := [10]) (by kernel_rfl) (by simp) ?_
                      refine AllReadyH.cons (o := _) (by simp only [ga, gb, gc] <;> rfl) (fun K hK => ?_) ?_
                      · go_simp
                        refine hK.out _ _ ?_ (fun hh => ?_)
                        · (try dsimp only)
                          exact KS.out _ (leaf_new HB5.out (l := ([] : List En)) (m := 0) rfl HN5.out rfl).1
                        clear hK K
                        try simp only [Act.put, na, nc, ns]
                        refine wpAnyH_take (i := 11) (oi := ?_) (v := ?_) ?_ (by kernel_rfl) (by kernel_rfl) (by kernel_rfl) ?_ (Or.inl ⟨?_, ?_⟩) (by assumption) ?_
                        rotate_left 2
                        · simp only [ga, gb, gc] <;> rfl
                        · exact fun _ _ _ h => h
                        · rfl
                        · (intro w hs; (try dsimp only at hs); go_simp; try (with_reducible rfl))
                        try simp only [Act.put, na, nc, ns]
                        refine wpAnyH_done (by kernel_rfl) ?_ _
                        go_wp2_with fail
                        go_meet
                        have h := leaf_new HB5.out (l := ([] : List En)) (m := 0) rfl HN5.out rfl
                        exact ⟨_, _, _, _, _, rfl, rfl, h.1, h.2⟩
                      exact AllReadyH.nil
                    exact AllReadyH.nil
                  refine AllReadyH.cons (o := _) (by simp only [ga, gb, gc] <;> rfl) (fun K hK => ?_) ?_
                  · go_simp
                    refine hK.out _ _ ?_ (fun hh => ?_)
                    · (try dsimp only)
                      exact KS.out _ (Below.new ((Below.refl wr.heap.size wr).drew) _)
                    clear hK K
                    try simp only [Act.put, na, nc, ns]
                    refine wpAnyH_ready (rs := [5]) (by kernel_rfl) (by simp) ?_
                    refine AllReadyH.cons (o := _) (by simp only [ga, gb, gc] <;> rfl) (fun K hK => ?_) ?_
                    · go_simp
                      refine (HA1.out _ (Below.new ((Below.refl wr.heap.size wr).drew) _)).mono ?_
                      rintro e5 w5 ⟨ba5, bc5, ka5, kc5, rfl, hb5, hn5⟩
                      have F5 := (Fresh.new wr.drew wr.heap.size zeroC 26 rfl).below hb5
                      obtain ⟨⟨z0, z1, z2, z3, z4, z5⟩, q0, q1, q2, q3, q4, q5⟩ := zcells F5
                      have HF5 := Lib.hid (And.intro F5 (Nat.le_refl wr.heap.size))
                      clear F5
                      have HB5 := Lib.hid (Below.step (w := wr) ((Below.new ((Below.refl wr.heap.size wr).drew) _)) hb5)
                      have HN5 := Lib.hid hn5
                      clear hb5 hn5
                      go_wp2_with fail
                      refine hK.out _ _ ?_ (fun hh => ?_)
                      · (try dsimp only)
                        exact KS.out _ HB5.out
                      clear hK K
                      try simp only [Act.put, na, nc, ns]
                      refine wpAnyH_take (i := 6) (oi := ?_) (v := ?_) ?_ (by kernel_rfl) (by kernel_rfl) (by kernel_rfl) ?_ (Or.inl ⟨?_, ?_⟩) (by assumption) ?_
                      rotate_left 2
                      · simp only [ga, gb, gc] <;> rfl
                      · exact fun _ _ _ h => h
                      · rfl
                      · (intro w hs; (try dsimp only at hs); go_simp; try (with_reducible rfl))
                      try simp only [Act.put, na, nc, ns]
                      refine wpAnyH_take (i := 7) (oi := ?_) (v := ?_) ?_ (by kernel_rfl) (by kernel_rfl) (by kernel_rfl) ?_ (Or.inl ⟨?_, ?_⟩) (by assumption) ?_
                      rotate_left 2
                      · simp only [ga, gb, gc] <;> rfl
                      · exact fun _ _ _ h => h
                      · rfl
                      · (intro w hs; (try dsimp only at hs); go_simp; try (with_reducible rfl))
                      try simp only [Act.put, na, nc, ns]
                      refine wpAnyH_take (i := 8) (oi := ?_) (v := ?_) ?_ (by kernel_rfl) (by kernel_rfl) (by kernel_rfl) ?_ (Or.inl ⟨?_, ?_⟩) (by assumption) ?_
                      rotate_left 2
                      · simp only [ga, gb, gc] <;> rfl
                      · exact fun _ _ _ h => h
                      · rfl
                      · (intro w hs; (try dsimp only at hs); go_simp; try (with_reducible rfl))
                      try simp only [Act.put, na, nc, ns]
                      refine wpAnyH_ready (rs := [10]) (by kernel_rfl) (by simp) ?_
                      refine AllReadyH.cons (o := _) (by simp only [ga, gb, gc] <;> rfl) (fun K hK => ?_) ?_
                      · go_simp
                        refine hK.out _ _ ?_ (fun hh => ?_)
                        · (try dsimp only)
                          exact KS.out _ (leaf_fill HB5.out HRMr.out HF5.out.1 HF5.out.2 (l := ([] : List En)) (m := 0) rfl HN5.out rfl).1
                        clear hK K
                        try simp only [Act.put, na, nc, ns]
                        refine wpAnyH_take (i := 11) (oi := ?_) (v := ?_) ?_ (by kernel_rfl) (by kernel_rfl) (by kernel_rfl) ?_ (Or.inl ⟨?_, ?_⟩) (by assumption) ?_
                        rotate_left 2
                        · simp only [ga, gb, gc] <;> rfl
                        · exact fun _ _ _ h => h
                        · rfl
                        · (intro w hs; (try dsimp only at hs); go_simp; try (with_reducible rfl))
                        try simp only [Act.put, na, nc, ns]
                        refine wpAnyH_done (by kernel_rfl) ?_ _
                        go_wp2_with fail
                        go_meet
                        have h := leaf_fill HB5.out HRMr.out HF5.out.1 HF5.out.2 (l := ([] : List En)) (m := 0) rfl HN5.out rfl
                        exact ⟨_, _, _, _, _, rfl, rfl, h.1, h.2⟩
                      exact AllReadyH.nil
                    exact AllReadyH.nil
                  exact AllReadyH.nil
                case rest =>
                  obtain ⟨P17, ba, bc, ka, kc, rfl, rfl, hbx, hn10⟩ := hcut
                  have hGx := HG.out.below hbx
                  obtain ⟨⟨y0, y1, y2, y3, y4, y5⟩, -⟩ := hn10.cells
                  obtain ⟨⟨z0, z1, z2, z3, z4, z5⟩, t0, t1, t2, t3, t4, t5⟩ := hGx.n5.cells
                  have bx := HBy.out _ hGx.low
                  obtain ⟨hx0, hx1⟩ := hGx.hb.cell x
                  rw [HHb.out] at hx0
                  have HGx := Lib.hid hGx
                  have HN10 := Lib.hid hn10
                  clear hbx hGx hn10 HA1 KS HG
                  go_upto_region 35 with fail
                  clear y0 y1 y2 y3 y4 y5 z0 z1 z2 z3 z4 z5 t0 t1 t2 t3 t4 t5 bx hx0 hx1
                  obtain ⟨V0, hV0⟩ : ∃ V, wc = V := ⟨_, rfl⟩
                  rw [hV0] at HGx ⊢
                  clear hV0 HN10
                  have HGy := HGx
                  have by35 := HBy.out _ HGy.out.low
                  go_cut [160] (fun v wx => v = .bool true ∧ wx = V0)
                  case first =>
                    have n0 : ¬ x.toNat = 0 := fun e => hsp0 (UInt8.toNat_inj.1 e)
                    have n1 : ¬ x.toNat = 255 := fun e => hsp1 (UInt8.toNat_inj.1 e)
                    have n2 : ¬ (x.toNat : Int) = 0 := by omega
                    have n3 : ¬ (x.toNat : Int) = 255 := by omega
                    go_wp2_with fail
                    go_meet
                    exact ⟨by first | rfl | (simp; done) | (simp; exact ⟨n0, n3⟩) | (simp; exact ⟨n0, n1⟩), rfl⟩
                  case rest =>
                    obtain ⟨rfl, hwc35⟩ := hcut
                    rw [hwc35]
                    clear hwc35 by35
                    have hLi : isIn x Lo = false := by
                      cases h : isIn x Lo with
                      | false => rfl
                      | true =>
                        rcases (HGT.out.key x).1 h with t | t | t
                        · exact absurd t hsp0
                        · exact absurd t hsp1
                        · rw [HHb.out] at t; cases t
                    have hE2 := nb_cut_none HUl.out hLi
                    have hN2 : cutN (nb (ofK Lo.length).1 ⟨#[112]⟩ Lo) x false = nb 0 ⟨#[]⟩ [] := by unfold cutN; rw [hE2]; exact if_neg (by decide)
                    have hGy := HGy.out
                    have HA2 : Hid (∀ w, Below V0.heap.size V0 w → Calls Tryd.prog 10 #[.agg #[.int .i64 (ofK Lo.length).1, .string ⟨#[]⟩, .string ⟨#[]⟩, .string ⟨#[112]⟩, .slice b6 Lo.length f6, .slice k6 Lo.length c6], .int .u8 (x.toNat : Int), .bool false] w fun e w' => ∃ ba bc ka kc, e = .returned (.tuple #[.agg #[.int .i64 0, .string ⟨#[]⟩, .string ⟨#[]⟩, .string ⟨#[]⟩, .slice ba 0 bc, .slice ka 0 kc], .int .i64 5]) ∧ Below w.heap.size w w' ∧ NdAt w' (nb 0 ⟨#[]⟩ ([] : List En)) ba bc ka kc) := by
                      intro w hb
                      have h1 := nbCut_any rfl (hGy.n6.nd.below hb) x false
                      rw [hE2, hN2] at h1
                      exact h1.mono fun e w' h => mk_nb rfl h
                    have HGTz : Hid (GT T Lo) := by
                      have h := HGT.out
                      exact h
                    have HLy := Lib.hid hGy.low
                    have HRMy : Hid (Rm V0) := HRMf.out _ hGy.low
                    have KS2 : Hid (∀ w, Below V0.heap.size V0 w → ((w.cell? ⟨P6, 0, none⟩ = some (.int .i64 (ofK Lo.length).1) ∧ w.cell? ⟨P6, 1, none⟩ = some (.string ⟨#[]⟩) ∧ w.cell? ⟨P6, 2, none⟩ = some (.string ⟨#[]⟩) ∧ w.cell? ⟨P6, 3, none⟩ = some (.string ⟨#[112]⟩) ∧ w.cell? ⟨P6, 4, none⟩ = some (.slice b6 Lo.length f6) ∧ w.cell? ⟨P6, 5, none⟩ = some (.slice k6 Lo.length c6)) ∧ w.cell? ⟨blk, off + c, none⟩ = some (.int .u8 (x.toNat : Int)))) := fun w hb => ⟨(hGy.n6.below hb).cells.1, HBy.out _ (Below.step HLy.out hb)⟩
                    have dl : decide (256 < (Lo.length : Int)) = false := decide_eq_false (by omega)
                    clear hGy hE2 hN2 hLi
                    go_upto_region 36 with fail
                    go_cut [19, 20] (fun s19 s20 wx => ∃ P ba bc ka kc, s19 = .pointer (some ⟨P, 0, none⟩) ∧ s20 = .int .i64 5 ∧ Below V0.heap.size V0 wx ∧ NBx wx P 0 ⟨#[]⟩ ([] : List En) ba 0 bc ka kc)
                    case first =>
                      cases keep
                      case false =>
                        refine wp_region_held_drew (S := fun W' => (W'.cell? ⟨P6, 0, none⟩ = some (.int .i64 (ofK Lo.length).1) ∧ W'.cell? ⟨P6, 1, none⟩ = some (.string ⟨#[]⟩) ∧ W'.cell? ⟨P6, 2, none⟩ = some (.string ⟨#[]⟩) ∧ W'.cell? ⟨P6, 3, none⟩ = some (.string ⟨#[112]⟩) ∧ W'.cell? ⟨P6, 4, none⟩ = some (.slice b6 Lo.length f6) ∧ W'.cell? ⟨P6, 5, none⟩ = some (.slice k6 Lo.length c6)) ∧ W'.cell? ⟨blk, off + c, none⟩ = some (.int .u8 (x.toNat : Int))) (by kernel_rfl) ?_ (fun hh => ?_)
                        · (try dsimp only)
                          exact KS2.out _ (Below.refl V0.heap.size V0).drew
                        refine wpAnyH_take (i := 0) (oi := ?_) (v := ?_) ?_ (by kernel_rfl) (by kernel_rfl) (by kernel_rfl) ?_ (Or.inl ⟨?_, ?_⟩) (by assumption) ?_
                        rotate_left 2
                        · simp only [ga, gc] <;> rfl
                        · exact fun _ _ _ h => h
                        · rfl
                        · (intro w hs; (try dsimp only at hs); go_simp; try (with_reducible rfl))
                        try simp only [Act.put, na, nc, ns]
                        refine wpAnyH_take (i := 1) (oi := ?_) (v := ?_) ?_ (by kernel_rfl) (by kernel_rfl) (by kernel_rfl) ?_ (Or.inl ⟨?_, ?_⟩) (by assumption) ?_
                        rotate_left 2
                        · simp only [ga, gb, gc] <;> rfl
                        · exact fun _ _ _ h => h
                        · rfl
                        · (intro w hs; (try dsimp only at hs); go_simp; try (with_reducible rfl))
                        try simp only [Act.put, na, nc, ns]
                        refine wpAnyH_take (i := 2) (oi := ?_) (v := ?_) ?_ (by kernel_rfl) (by kernel_rfl) (by kernel_rfl) ?_ (Or.inl ⟨?_, ?_⟩) (by assumption) ?_
                        rotate_left 2
                        · simp only [ga, gb, gc] <;> rfl
                        · exact fun _ _ _ h => h
                        · rfl
                        · (intro w hs; (try dsimp only at hs); go_simp; try (with_reducible rfl))
                        try simp only [Act.put, na, nc, ns]
                        refine wpAnyH_take (i := 3) (oi := ?_) (v := ?_) ?_ (by kernel_rfl) (by kernel_rfl) (by kernel_rfl) ?_ (Or.inl ⟨?_, ?_⟩) (by assumption) ?_
                        rotate_left 2
                        · simp only [ga, gb, gc] <;> rfl
                        · exact fun _ _ _ h => h
                        · rfl
                        · (intro w hs; (try dsimp only at hs); go_simp; try (with_reducible rfl))
                        try simp only [Act.put, na, nc, ns]
                        refine wpAnyH_take (i := 4) (oi := ?_) (v := ?_) ?_ (by kernel_rfl) (by kernel_rfl) (by kernel_rfl) ?_ (Or.inl ⟨?_, ?_⟩) (by assumption) ?_
                        rotate_left 2
                        · simp only [ga, gb, gc] <;> rfl
                        · exact fun _ _ _ h => h
                        · rfl
                        · (intro w hs; (try dsimp only at hs); go_simp; try (with_reducible rfl))
                        try simp only [Act.put, na, nc, ns]
                        refine wpAnyH_take (i := 5) (oi := ?_) (v := ?_) ?_ (by kernel_rfl) (by kernel_rfl) (by kernel_rfl) ?_ (Or.inl ⟨?_, ?_⟩) (by assumption) ?_
                        rotate_left 2
                        · simp only [ga, gb, gc] <;> rfl
                        · exact fun _ _ _ h => h
                        · rfl
                        · (intro w hs; (try dsimp only at hs); go_simp; try (with_reducible rfl))
                        try simp only [Act.put, na, nc, ns]
                        refine wpAnyH_take (i := 6) (oi := ?_) (v := ?_) ?_ (by kernel_rfl) (by kernel_rfl) (by kernel_rfl) ?_ (Or.inl ⟨?_, ?_⟩) (by assumption) ?_
                        rotate_left 2
                        · simp only [ga, gb, gc] <;> rfl
                        · exact fun _ _ _ h => h
                        · rfl
                        · (intro w hs; (try dsimp only at hs); go_simp; try (with_reducible rfl))
                        try simp only [Act.put, na, nc, ns]
                        refine wpAnyH_take (i := 7) (oi := ?_) (v := undef) ?_ (by kernel_rfl) (by kernel_rfl) (by kernel_rfl) ?_ (Or.inr ⟨?_, rfl⟩) (by assumption) ?_
                        rotate_left 1
                        · simp only [ga, gb, gc] <;> rfl
                        · exact fun _ _ _ h => h
                        · rfl
                        try simp only [Act.put, na, nc, ns]
                        refine wpAnyH_take (i := 8) (oi := ?_) (v := undef) ?_ (by kernel_rfl) (by kernel_rfl) (by kernel_rfl) ?_ (Or.inr ⟨?_, rfl⟩) (by assumption) ?_
                        rotate_left 1
                        · simp only [ga, gb, gc] <;> rfl
                        · exact fun _ _ _ h => h
                        · rfl
                        try simp only [Act.put, na, nc, ns]
                        refine wpAnyH_take (i := 9) (oi := ?_) (v := undef) ?_ (by kernel_rfl) (by kernel_rfl) (by kernel_rfl) ?_ (Or.inr ⟨?_, rfl⟩) (by assumption) ?_
                        rotate_left 1
                        · simp only [ga, gb, gc] <;> rfl
                        · exact fun _ _ _ h => h
                        · rfl
                        try simp only [Act.put, na, nc, ns]
                        refine wpAnyH_take (i := 10) (oi := ?_) (v := undef) ?_ (by kernel_rfl) (by kernel_rfl) (by kernel_rfl) ?_ (Or.inr ⟨?_, rfl⟩) (by assumption) ?_
                        rotate_left 1
                        · simp only [ga, gb, gc] <;> rfl
                        · exact fun _ _ _ h => h
                        · rfl
                        try simp only [Act.put, na, nc, ns]
                        refine wpAnyH_take (i := 11) (oi := ?_) (v := ?_) ?_ (by kernel_rfl) (by kernel_rfl) (by kernel_rfl) ?_ (Or.inl ⟨?_, ?_⟩) (by assumption) ?_
                        rotate_left 2
                        · simp only [ga, gb, gc] <;> rfl
                        · exact fun _ _ _ h => h
                        · rfl
                        · (intro w hs; (try dsimp only at hs); go_simp; try (with_reducible rfl))
                        try simp only [Act.put, na, nc, ns]
                        refine wpAnyH_ready (rs := [12, 16]) (by kernel_rfl) (by simp) ?_
                        refine AllReadyH.cons (o := _) (by simp only [ga, gb, gc] <;> rfl) (fun K hK => ?_) ?_
                        · go_simp
                          refine (HA2.out _ (Below.refl V0.heap.size V0).drew).mono ?_
                          rintro e5 w5 ⟨ba5, bc5, ka5, kc5, rfl, hb5, hn5⟩
                          have HB5 := Lib.hid (Below.step (w := V0) ((Below.refl V0.heap.size V0).drew) hb5)
                          have HN5 := Lib.hid hn5
                          clear hb5 hn5
                          go_wp2_with fail
                          refine hK.out _ _ ?_ (fun hh => ?_)
                          · (try dsimp only)
                            exact KS2.out _ HB5.out
                          clear hK K
                          try simp only [Act.put, na, nc, ns]
                          refine wpAnyH_take (i := 13) (oi := ?_) (v := ?_) ?_ (by kernel_rfl) (by kernel_rfl) (by kernel_rfl) ?_ (Or.inl ⟨?_, ?_⟩) (by assumption) ?_
                          rotate_left 2
                          · simp only [ga, gb, gc] <;> rfl
                          · exact fun _ _ _ h => h
                          · rfl
                          · (intro w hs; (try dsimp only at hs); go_simp; try (with_reducible rfl))
                          try simp only [Act.put, na, nc, ns]
                          refine wpAnyH_take (i := 14) (oi := ?_) (v := ?_) ?_ (by kernel_rfl) (by kernel_rfl) (by kernel_rfl) ?_ (Or.inl ⟨?_, ?_⟩) (by assumption) ?_
                          rotate_left 2
                          · simp only [ga, gb, gc] <;> rfl
                          · exact fun _ _ _ h => h
                          · rfl
                          · (intro w hs; (try dsimp only at hs); go_simp; try (with_reducible rfl))
                          try simp only [Act.put, na, nc, ns]
                          refine wpAnyH_take (i := 15) (oi := ?_) (v := ?_) ?_ (by kernel_rfl) (by kernel_rfl) (by kernel_rfl) ?_ (Or.inl ⟨?_, ?_⟩) (by assumption) ?_
                          rotate_left 2
                          · simp only [ga, gb, gc] <;> rfl
                          · exact fun _ _ _ h => h
                          · rfl
                          · (intro w hs; (try dsimp only at hs); go_simp; try (with_reducible rfl))
                          try simp only [Act.put, na, nc, ns]
                          refine wpAnyH_ready (rs := [16]) (by kernel_rfl) (by simp) ?_
                          refine AllReadyH.cons (o := _) (by simp only [ga, gb, gc] <;> rfl) (fun K hK => ?_) ?_
                          · go_simp
                            refine hK.out _ _ ?_ (fun hh => ?_)
                            · (try dsimp only)
                              exact KS2.out _ (Below.new (HB5.out) _)
                            clear hK K
                            try simp only [Act.put, na, nc, ns]
                            refine wpAnyH_ready (rs := [17]) (by kernel_rfl) (by simp) ?_
                            refine AllReadyH.cons (o := _) (by simp only [ga, gb, gc] <;> rfl) (fun K hK => ?_) ?_
                            · go_simp
                              refine hK.out _ _ ?_ (fun hh => ?_)
                              · (try dsimp only)
                                exact KS2.out _ (leaf_new HB5.out (l := ([] : List En)) (m := 0) rfl HN5.out rfl).1
                              clear hK K
                              try simp only [Act.put, na, nc, ns]
                              refine wpAnyH_take (i := 18) (oi := ?_) (v := ?_) ?_ (by kernel_rfl) (by kernel_rfl) (by kernel_rfl) ?_ (Or.inl ⟨?_, ?_⟩) (by assumption) ?_
                              rotate_left 2
                              · simp only [ga, gb, gc] <;> rfl
                              · exact fun _ _ _ h => h
                              · rfl
                              · (intro w hs; (try dsimp only at hs); go_simp; try (with_reducible rfl))
                              try simp only [Act.put, na, nc, ns]
                              refine wpAnyH_done (by kernel_rfl) ?_ _
                              go_wp2_with fail
                              go_meet
                              have h := leaf_new HB5.out (l := ([] : List En)) (m := 0) rfl HN5.out rfl
                              exact ⟨_, _, _, _, _, rfl, rfl, h.1, h.2⟩
                            exact AllReadyH.nil
                          exact AllReadyH.nil
                        refine AllReadyH.cons (o := _) (by simp only [ga, gb, gc] <;> rfl) (fun K hK => ?_) ?_
                        · go_simp
                          refine hK.out _ _ ?_ (fun hh => ?_)
                          · (try dsimp only)
                            exact KS2.out _ (Below.new ((Below.refl V0.heap.size V0).drew) _)
                          clear hK K
                          try simp only [Act.put, na, nc, ns]
                          refine wpAnyH_ready (rs := [12]) (by kernel_rfl) (by simp) ?_
                          refine AllReadyH.cons (o := _) (by simp only [ga, gb, gc] <;> rfl) (fun K hK => ?_) ?_
                          · go_simp
                            refine (HA2.out _ (Below.new ((Below.refl V0.heap.size V0).drew) _)).mono ?_
                            rintro e5 w5 ⟨ba5, bc5, ka5, kc5, rfl, hb5, hn5⟩
                            have F5 := (Fresh.new V0.drew V0.heap.size zeroC 26 rfl).below hb5
                            obtain ⟨⟨z0, z1, z2, z3, z4, z5⟩, q0, q1, q2, q3, q4, q5⟩ := zcells F5
                            have HF5 := Lib.hid (And.intro F5 (Nat.le_refl V0.heap.size))
                            clear F5
                            have HB5 := Lib.hid (Below.step (w := V0) ((Below.new ((Below.refl V0.heap.size V0).drew) _)) hb5)
                            have HN5 := Lib.hid hn5
                            clear hb5 hn5
                            go_wp2_with fail
                            refine hK.out _ _ ?_ (fun hh => ?_)
                            · (try dsimp only)
                              exact KS2.out _ HB5.out
                            clear hK K
                            try simp only [Act.put, na, nc, ns]
                            refine wpAnyH_take (i := 13) (oi := ?_) (v := ?_) ?_ (by kernel_rfl) (by kernel_rfl) (by kernel_rfl) ?_ (Or.inl ⟨?_, ?_⟩) (by assumption) ?_
                            rotate_left 2
                            · simp only [ga, gb, gc] <;> rfl
                            · exact fun _ _ _ h => h
                            · rfl
                            · (intro w hs; (try dsimp only at hs); go_simp; try (with_reducible rfl))
                            try simp only [Act.put, na, nc, ns]
                            refine wpAnyH_take (i := 14) (oi := ?_) (v := ?_) ?_ (by kernel_rfl) (by kernel_rfl) (by kernel_rfl) ?_ (Or.inl ⟨?_, ?_⟩) (by assumption) ?_
                            rotate_left 2
                            · simp only [ga, gb, gc] <;> rfl
                            · exact fun _ _ _ h => h
                            · rfl
                            · (intro w hs; (try dsimp only at hs); go_simp; try (with_reducible rfl))
                            try simp only [Act.put, na, nc, ns]
                            refine wpAnyH_take (i := 15) (oi := ?_) (v := ?_) ?_ (by kernel_rfl) (by kernel_rfl) (by kernel_rfl) ?_ (Or.inl ⟨?_, ?_⟩) (by assumption) ?_
                            rotate_left 2
                            · simp only [ga, gb, gc] <;> rfl
                            · exact fun _ _ _ h => h
                            · rfl
                            · (intro w hs; (try dsimp only at hs); go_simp; try (with_reducible rfl))
                            try simp only [Act.put, na, nc, ns]
                            refine wpAnyH_ready (rs := [17]) (by kernel_rfl) (by simp) ?_
                            refine AllReadyH.cons (o := _) (by simp only [ga, gb, gc] <;> rfl) (fun K hK => ?_) ?_
                            · go_simp
                              refine hK.out _ _ ?_ (fun hh => ?_)
                              · (try dsimp only)
                                exact KS2.out _ (leaf_fill HB5.out HRMy.out HF5.out.1 HF5.out.2 (l := ([] : List En)) (m := 0) rfl HN5.out rfl).1
                              clear hK K
                              try simp only [Act.put, na, nc, ns]
                              refine wpAnyH_take (i := 18) (oi := ?_) (v := ?_) ?_ (by kernel_rfl) (by kernel_rfl) (by kernel_rfl) ?_ (Or.inl ⟨?_, ?_⟩) (by assumption) ?_
                              rotate_left 2
                              · simp only [ga, gb, gc] <;> rfl
                              · exact fun _ _ _ h => h
                              · rfl
                              · (intro w hs; (try dsimp only at hs); go_simp; try (with_reducible rfl))
                              try simp only [Act.put, na, nc, ns]
                              refine wpAnyH_done (by kernel_rfl) ?_ _
                              go_wp2_with fail
                              go_meet
                              have h := leaf_fill HB5.out HRMy.out HF5.out.1 HF5.out.2 (l := ([] : List En)) (m := 0) rfl HN5.out rfl
                              exact ⟨_, _, _, _, _, rfl, rfl, h.1, h.2⟩
                            exact AllReadyH.nil
                          exact AllReadyH.nil
                        exact AllReadyH.nil
                      case true =>
                        refine wp_region_held_drew (S := fun W' => (W'.cell? ⟨P6, 0, none⟩ = some (.int .i64 (ofK Lo.length).1) ∧ W'.cell? ⟨P6, 1, none⟩ = some (.string ⟨#[]⟩) ∧ W'.cell? ⟨P6, 2, none⟩ = some (.string ⟨#[]⟩) ∧ W'.cell? ⟨P6, 3, none⟩ = some (.string ⟨#[112]⟩) ∧ W'.cell? ⟨P6, 4, none⟩ = some (.slice b6 Lo.length f6) ∧ W'.cell? ⟨P6, 5, none⟩ = some (.slice k6 Lo.length c6)) ∧ W'.cell? ⟨blk, off + c, none⟩ = some (.int .u8 (x.toNat : Int))) (by kernel_rfl) ?_ (fun hh => ?_)
                        · (try dsimp only)
                          exact KS2.out _ (Below.refl V0.heap.size V0).drew
                        refine wpAnyH_take (i := 0) (oi := ?_) (v := ?_) ?_ (by kernel_rfl) (by kernel_rfl) (by kernel_rfl) ?_ (Or.inl ⟨?_, ?_⟩) (by assumption) ?_
                        rotate_left 2
                        · simp only [ga, gc] <;> rfl
                        · exact fun _ _ _ h => h
                        · rfl
                        · (intro w hs; (try dsimp only at hs); go_simp; try (with_reducible rfl))
                        try simp only [Act.put, na, nc, ns]
                        refine wpAnyH_take (i := 1) (oi := ?_) (v := ?_) ?_ (by kernel_rfl) (by kernel_rfl) (by kernel_rfl) ?_ (Or.inl ⟨?_, ?_⟩) (by assumption) ?_
                        rotate_left 2
                        · simp only [ga, gb, gc] <;> rfl
                        · exact fun _ _ _ h => h
                        · rfl
                        · (intro w hs; (try dsimp only at hs); go_simp; try (with_reducible rfl))
                        try simp only [Act.put, na, nc, ns]
                        refine wpAnyH_take (i := 2) (oi := ?_) (v := ?_) ?_ (by kernel_rfl) (by kernel_rfl) (by kernel_rfl) ?_ (Or.inl ⟨?_, ?_⟩) (by assumption) ?_
                        rotate_left 2
                        · simp only [ga, gb, gc] <;> rfl
                        · exact fun _ _ _ h => h
                        · rfl
                        · (intro w hs; (try dsimp only at hs); go_simp; try (with_reducible rfl))
                        try simp only [Act.put, na, nc, ns]
                        refine wpAnyH_take (i := 3) (oi := ?_) (v := ?_) ?_ (by kernel_rfl) (by kernel_rfl) (by kernel_rfl) ?_ (Or.inl ⟨?_, ?_⟩) (by assumption) ?_
                        rotate_left 2
                        · simp only [ga, gb, gc] <;> rfl
                        · exact fun _ _ _ h => h
                        · rfl
                        · (intro w hs; (try dsimp only at hs); go_simp; try (with_reducible rfl))
                        try simp only [Act.put, na, nc, ns]
                        refine wpAnyH_take (i := 4) (oi := ?_) (v := ?_) ?_ (by kernel_rfl) (by kernel_rfl) (by kernel_rfl) ?_ (Or.inl ⟨?_, ?_⟩) (by assumption) ?_
                        rotate_left 2
                        · simp only [ga, gb, gc] <;> rfl
                        · exact fun _ _ _ h => h
                        · rfl
                        · (intro w hs; (try dsimp only at hs); go_simp; try (with_reducible rfl))
                        try simp only [Act.put, na, nc, ns]
                        refine wpAnyH_take (i := 5) (oi := ?_) (v := ?_) ?_ (by kernel_rfl) (by kernel_rfl) (by kernel_rfl) ?_ (Or.inl ⟨?_, ?_⟩) (by assumption) ?_
                        rotate_left 2
                        · simp only [ga, gb, gc] <;> rfl
                        · exact fun _ _ _ h => h
                        · rfl
                        · (intro w hs; (try dsimp only at hs); go_simp; try (with_reducible rfl))
                        try simp only [Act.put, na, nc, ns]
                        refine wpAnyH_take (i := 6) (oi := ?_) (v := ?_) ?_ (by kernel_rfl) (by kernel_rfl) (by kernel_rfl) ?_ (Or.inl ⟨?_, ?_⟩) (by assumption) ?_
                        rotate_left 2
                        · simp only [ga, gb, gc] <;> rfl
                        · exact fun _ _ _ h => h
                        · rfl
                        · (intro w hs; (try dsimp only at hs); go_simp; try (with_reducible rfl))
                        try simp only [Act.put, na, nc, ns]
                        refine wpAnyH_take (i := 7) (oi := ?_) (v := ?_) ?_ (by kernel_rfl) (by kernel_rfl) (by kernel_rfl) ?_ (Or.inl ⟨?_, ?_⟩) (by assumption) ?_
                        rotate_left 2
                        · simp only [ga, gb, gc] <;> rfl
                        · exact fun _ _ _ h => h
                        · rfl
                        · (intro w hs; (try dsimp only at hs); go_simp; try (with_reducible rfl))
                        try simp only [Act.put, na, nc, ns]
                        refine wpAnyH_take (i := 8) (oi := ?_) (v := ?_) ?_ (by kernel_rfl) (by kernel_rfl) (by kernel_rfl) ?_ (Or.inl ⟨?_, ?_⟩) (by assumption) ?_
                        rotate_left 2
                        · simp only [ga, gb, gc] <;> rfl
                        · exact fun _ _ _ h => h
                        · rfl
                        · (intro w hs; (try dsimp only at hs); go_simp; try (with_reducible rfl))
                        try simp only [Act.put, na, nc, ns]
                        refine wpAnyH_take (i := 9) (oi := ?_) (v := ?_) ?_ (by kernel_rfl) (by kernel_rfl) (by kernel_rfl) ?_ (Or.inl ⟨?_, ?_⟩) (by assumption) ?_
                        rotate_left 2
                        · simp only [ga, gb, gc] <;> rfl
                        · exact fun _ _ _ h => h
                        · rfl
                        · (intro w hs; (try dsimp only at hs); go_simp; try (with_reducible rfl))
                        try simp only [Act.put, na, nc, ns]
                        refine wpAnyH_take (i := 10) (oi := ?_) (v := ?_) ?_ (by kernel_rfl) (by kernel_rfl) (by kernel_rfl) ?_ (Or.inl ⟨?_, ?_⟩) (by assumption) ?_
                        rotate_left 2
                        · simp only [ga, gb, gc] <;> rfl
                        · exact fun _ _ _ h => h
                        · rfl
                        · (intro w hs; (try dsimp only at hs); go_simp; try (with_reducible rfl))
                        try simp only [Act.put, na, nc, ns]
                        refine wpAnyH_take (i := 11) (oi := ?_) (v := ?_) ?_ (by kernel_rfl) (by kernel_rfl) (by kernel_rfl) ?_ (Or.inl ⟨?_, ?_⟩) (by assumption) ?_
                        rotate_left 2
                        · simp only [ga, gb, gc] <;> rfl
                        · exact fun _ _ _ h => h
                        · rfl
                        · (intro w hs; (try dsimp only at hs); go_simp; try (with_reducible rfl))
                        try simp only [Act.put, na, nc, ns]
                        refine wpAnyH_ready (rs := [12, 16]) (by kernel_rfl) (by simp) ?_
                        refine AllReadyH.cons (o := _) (by simp only [ga, gb, gc] <;> rfl) (fun K hK => ?_) ?_
                        · go_simp
                          refine (HA2.out _ (Below.refl V0.heap.size V0).drew).mono ?_
                          rintro e5 w5 ⟨ba5, bc5, ka5, kc5, rfl, hb5, hn5⟩
                          have HB5 := Lib.hid (Below.step (w := V0) ((Below.refl V0.heap.size V0).drew) hb5)
                          have HN5 := Lib.hid hn5
                          clear hb5 hn5
                          go_wp2_with fail
                          refine hK.out _ _ ?_ (fun hh => ?_)
                          · (try dsimp only)
                            exact KS2.out _ HB5.out
                          clear hK K
                          try simp only [Act.put, na, nc, ns]
                          refine wpAnyH_take (i := 13) (oi := ?_) (v := ?_) ?_ (by kernel_rfl) (by kernel_rfl) (by kernel_rfl) ?_ (Or.inl ⟨?_, ?_⟩) (by assumption) ?_
                          rotate_left 2
                          · simp only [ga, gb, gc] <;> rfl
                          · exact fun _ _ _ h => h
                          · rfl
                          · (intro w hs; (try dsimp only at hs); go_simp; try (with_reducible rfl))
                          try simp only [Act.put, na, nc, ns]
                          refine wpAnyH_take (i := 14) (oi := ?_) (v := ?_) ?_ (by kernel_rfl) (by kernel_rfl) (by kernel_rfl) ?_ (Or.inl ⟨?_, ?_⟩) (by assumption) ?_
                          rotate_left 2
                          · simp only [ga, gb, gc] <;> rfl
                          · exact fun _ _ _ h => h
                          · rfl
                          · (intro w hs; (try dsimp only at hs); go_simp; try (with_reducible rfl))
                          try simp only [Act.put, na, nc, ns]
                          refine wpAnyH_take (i := 15) (oi := ?_) (v := ?_) ?_ (by kernel_rfl) (by kernel_rfl) (by kernel_rfl) ?_ (Or.inl ⟨?_, ?_⟩) (by assumption) ?_
                          rotate_left 2
                          · simp only [ga, gb, gc] <;> rfl
                          · exact fun _ _ _ h => h
                          · rfl
                          · (intro w hs; (try dsimp only at hs); go_simp; try (with_reducible rfl))
                          try simp only [Act.put, na, nc, ns]
                          refine wpAnyH_ready (rs := [16]) (by kernel_rfl) (by simp) ?_
                          refine AllReadyH.cons (o := _) (by simp only [ga, gb, gc] <;> rfl) (fun K hK => ?_) ?_
                          · go_simp
                            refine hK.out _ _ ?_ (fun hh => ?_)
                            · (try dsimp only)
                              exact KS2.out _ (Below.new (HB5.out) _)
                            clear hK K
                            try simp only [Act.put, na, nc, ns]
                            refine wpAnyH_ready (rs := [17]) (by kernel_rfl) (by simp) ?_
                            refine AllReadyH.cons (o := _) (by simp only [ga, gb, gc] <;> rfl) (fun K hK => ?_) ?_
                            · go_simp
                              refine hK.out _ _ ?_ (fun hh => ?_)
                              · (try dsimp only)
                                exact KS2.out _ (leaf_new HB5.out (l := ([] : List En)) (m := 0) rfl HN5.out rfl).1
                              clear hK K
                              try simp only [Act.put, na, nc, ns]
                              refine wpAnyH_take (i := 18) (oi := ?_) (v := ?_) ?_ (by kernel_rfl) (by kernel_rfl) (by kernel_rfl) ?_ (Or.inl ⟨?_, ?_⟩) (by assumption) ?_
                              rotate_left 2
                              · simp only [ga, gb, gc] <;> rfl
                              · exact fun _ _ _ h => h
                              · rfl
                              · (intro w hs; (try dsimp only at hs); go_simp; try (with_reducible rfl))
                              try simp only [Act.put, na, nc, ns]
                              refine wpAnyH_done (by kernel_rfl) ?_ _
                              go_wp2_with fail
                              go_meet
                              have h := leaf_new HB5.out (l := ([] : List En)) (m := 0) rfl HN5.out rfl
                              exact ⟨_, _, _, _, _, rfl, rfl, h.1, h.2⟩
                            exact AllReadyH.nil
                          exact AllReadyH.nil
                        refine AllReadyH.cons (o := _) (by simp only [ga, gb, gc] <;> rfl) (fun K hK => ?_) ?_
                        · go_simp
                          refine hK.out _ _ ?_ (fun hh => ?_)
                          · (try dsimp only)
                            exact KS2.out _ (Below.new ((Below.refl V0.heap.size V0).drew) _)
                          clear hK K
                          try simp only [Act.put, na, nc, ns]
                          refine wpAnyH_ready (rs := [12]) (by kernel_rfl) (by simp) ?_
                          refine AllReadyH.cons (o := _) (by simp only [ga, gb, gc] <;> rfl) (fun K hK => ?_) ?_
                          · go_simp
                            refine (HA2.out _ (Below.new ((Below.refl V0.heap.size V0).drew) _)).mono ?_
                            rintro e5 w5 ⟨ba5, bc5, ka5, kc5, rfl, hb5, hn5⟩
                            have F5 := (Fresh.new V0.drew V0.heap.size zeroC 26 rfl).below hb5
                            obtain ⟨⟨z0, z1, z2, z3, z4, z5⟩, q0, q1, q2, q3, q4, q5⟩ := zcells F5
                            have HF5 := Lib.hid (And.intro F5 (Nat.le_refl V0.heap.size))
                            clear F5
                            have HB5 := Lib.hid (Below.step (w := V0) ((Below.new ((Below.refl V0.heap.size V0).drew) _)) hb5)
                            have HN5 := Lib.hid hn5
                            clear hb5 hn5
                            go_wp2_with fail
                            refine hK.out _ _ ?_ (fun hh => ?_)
                            · (try dsimp only)
                              exact KS2.out _ HB5.out
                            clear hK K
                            try simp only [Act.put, na, nc, ns]
                            refine wpAnyH_take (i := 13) (oi := ?_) (v := ?_) ?_ (by kernel_rfl) (by kernel_rfl) (by kernel_rfl) ?_ (Or.inl ⟨?_, ?_⟩) (by assumption) ?_
                            rotate_left 2
                            · simp only [ga, gb, gc] <;> rfl
                            · exact fun _ _ _ h => h
                            · rfl
                            · (intro w hs; (try dsimp only at hs); go_simp; try (with_reducible rfl))
                            try simp only [Act.put, na, nc, ns]
                            refine wpAnyH_take (i := 14) (oi := ?_) (v := ?_) ?_ (by kernel_rfl) (by kernel_rfl) (by kernel_rfl) ?_ (Or.inl ⟨?_, ?_⟩) (by assumption) ?_
                            rotate_left 2
                            · simp only [ga, gb, gc] <;> rfl
                            · exact fun _ _ _ h => h
                            · rfl
                            · (intro w hs; (try dsimp only at hs); go_simp; try (with_reducible rfl))
                            try simp only [Act.put, na, nc, ns]
                            refine wpAnyH_take (i := 15) (oi := ?_) (v := ?_) ?_ (by kernel_rfl) (by kernel_rfl) (by kernel_rfl) ?_ (Or.inl ⟨?_, ?_⟩) (by assumption) ?_
                            rotate_left 2
                            · simp only [ga, gb, gc] <;> rfl
                            · exact fun _ _ _ h => h
                            · rfl
                            · (intro w hs; (try dsimp only at hs); go_simp; try (with_reducible rfl))
                            try simp only [Act.put, na, nc, ns]
                            refine wpAnyH_ready (rs := [17]) (by kernel_rfl) (by simp) ?_
                            refine AllReadyH.cons (o := _) (by simp only [ga, gb, gc] <;> rfl) (fun K hK => ?_) ?_
                            · go_simp
                              refine hK.out _ _ ?_ (fun hh => ?_)
                              · (try dsimp only)
                                exact KS2.out _ (leaf_fill HB5.out HRMy.out HF5.out.1 HF5.out.2 (l := ([] : List En)) (m := 0) rfl HN5.out rfl).1
                              clear hK K
                              try simp only [Act.put, na, nc, ns]
                              refine wpAnyH_take (i := 18) (oi := ?_) (v := ?_) ?_ (by kernel_rfl) (by kernel_rfl) (by kernel_rfl) ?_ (Or.inl ⟨?_, ?_⟩) (by assumption) ?_
                              rotate_left 2
                              · simp only [ga, gb, gc] <;> rfl
                              · exact fun _ _ _ h => h
                              · rfl
                              · (intro w hs; (try dsimp only at hs); go_simp; try (with_reducible rfl))
                              try simp only [Act.put, na, nc, ns]
                              refine wpAnyH_done (by kernel_rfl) ?_ _
                              go_wp2_with fail
                              go_meet
                              have h := leaf_fill HB5.out HRMy.out HF5.out.1 HF5.out.2 (l := ([] : List En)) (m := 0) rfl HN5.out rfl
                              exact ⟨_, _, _, _, _, rfl, rfl, h.1, h.2⟩
                            exact AllReadyH.nil
                          exact AllReadyH.nil
                        exact AllReadyH.nil
                    case rest =>
                      obtain ⟨P19, ba2, bc2, ka2, kc2, rfl, rfl, hbx, hn12⟩ := hcut
                      have hGz := HGy.out.below hbx
                      have HGz := Lib.hid hGz
                      clear hGz hbx hn12 HA2 KS2
                      go_upto_region 39 with fail
                      have hGz := HGz.out
                      obtain ⟨y0, y1, y2, y3, y4, y5⟩ := hGz.n5.cells.1
                      obtain ⟨z0, z1, z2, z3, z4, z5⟩ := hGz.n6.cells.1
                      have HRi : Hid (∀ w, Below wc.heap.size wc w → Calls Tryd.prog 7 #[.agg #[.int .i64 (ofK Lo.length).1, .string ⟨#[]⟩, .string ⟨#[]⟩, .string ⟨#[112]⟩, .slice b6 Lo.length f6, .slice k6 Lo.length c6]] w fun e w' => e = .returned (.bool true) ∧ Below w.heap.size w w') := by
                        intro w hb
                        have h1 := nbRight_any rfl (hGz.n6.nd.below hb)
                        rw [right_of_right HGTz.out.lowR] at h1
                        exact h1
                      have HAn : Hid (∀ w, Below wc.heap.size wc w → Calls Tryd.prog 18 #[.agg #[.int .i64 5, .string ⟨#[]⟩, .string ⟨#[]⟩, .string ⟨#[]⟩, .slice b5 T.length f5, .slice k5 T.length c5]] w fun e w' => e = .returned (.bool true) ∧ Below w.heap.size w w') := by
                        intro w hb
                        have h1 := nbAnchor_any rfl (hGz.n5.nd.below hb)
                        rw [HGTz.out.topA] at h1
                        exact h1
                      have HC5 : Hid (∀ w, Below wc.heap.size wc w → (w.cell? ⟨P5, 0, none⟩ = some (.int .i64 5) ∧ w.cell? ⟨P5, 1, none⟩ = some (.string ⟨#[]⟩) ∧ w.cell? ⟨P5, 2, none⟩ = some (.string ⟨#[]⟩) ∧ w.cell? ⟨P5, 3, none⟩ = some (.string ⟨#[]⟩) ∧ w.cell? ⟨P5, 4, none⟩ = some (.slice b5 T.length f5) ∧ w.cell? ⟨P5, 5, none⟩ = some (.slice k5 T.length c5))) := fun w hb => (hGz.n5.below hb).cells.1
                      skip
                      clear hGz
                      go_wp2_with (first
                        | (go_at_call 7; refine (HRi.out _ (Below.refl _ _)).mono ?_; rintro e7 w7 ⟨rfl, hb⟩; have HB7 := Lib.hid hb; obtain ⟨y0, y1, y2, y3, y4, y5⟩ := HC5.out _ hb; clear hb)
                        | (go_at_call 18; refine (HAn.out _ HB7.out).mono ?_; rintro e8 w8 ⟨rfl, hb⟩; have HB8 := Lib.hid (Below.step HB7.out hb); obtain ⟨y0, y1, y2, y3, y4, y5⟩ := HC5.out _ HB8.out; clear hb))
                      go_roundw
                      case rel =>
                        refine ⟨⟨c + 1, T, Lo, _, _, _, _, _, _, _, _, rfl, by simp, by omega, ?_, HGTz.out, HGz.out.below HB8.out⟩⟩
                        intro y hy
                        refine drop_next HX.out (HSub.out y hy) ?_
                        rintro rfl
                        rw [HHb.out] at hy
                        cases hy
                      case measure => simp [intOf]; omega
        · have hce2 : n = c := by omega
          subst hce2
          have c2 : ¬ (n : Int) < (n : Int) := by omega
          have jd2 : decide (n < n) = false := decide_eq_false hab
          have hT0 : T = [] := by
            cases T with
            | nil => rfl
            | cons y l =>
              exfalso
              have h1 := HSub.out y.1 ((isIn_iff hgt.ts).2 ⟨y, by simp, rfl⟩)
              rw [List.drop_eq_nil_of_le (by rw [HN.out]; exact Nat.le_refl _)] at h1
              cases h1
          subst hT0
          have hLo := hgt.done
          subst hLo
          have N6 : NBx wr P6 2 ⟨#[112]⟩ Lo0 b6 2 f6 k6 c6 := by
            have h1 := hG.n6
            rw [show (ofK (Lo0.length : Int)).1 = 2 by decide, show Lo0.length = 2 from rfl] at h1
            exact h1
          have HN6 := Lib.hid N6
          have HLow := Lib.hid hG.low
          have KS : Hid (∀ w, Below wr.heap.size wr w → (w.cell? ⟨P6, 0, none⟩ = some (.int .i64 2) ∧ w.cell? ⟨P6, 1, none⟩ = some (.string ⟨#[]⟩) ∧ w.cell? ⟨P6, 2, none⟩ = some (.string ⟨#[]⟩) ∧ w.cell? ⟨P6, 3, none⟩ = some (.string ⟨#[112]⟩) ∧ w.cell? ⟨P6, 4, none⟩ = some (.slice b6 2 f6) ∧ w.cell? ⟨P6, 5, none⟩ = some (.slice k6 2 c6))) := fun w hb => (N6.below hb).cells.1
          clear HG HGT HSub hG hgt N6 hab hcn
          go_upto_region 41 with fail
          refine wp_region_held_drew (S := fun W' => W'.cell? ⟨P6, 0, none⟩ = some (.int .i64 2) ∧ W'.cell? ⟨P6, 1, none⟩ = some (.string ⟨#[]⟩) ∧ W'.cell? ⟨P6, 2, none⟩ = some (.string ⟨#[]⟩) ∧ W'.cell? ⟨P6, 3, none⟩ = some (.string ⟨#[112]⟩) ∧ W'.cell? ⟨P6, 4, none⟩ = some (.slice b6 2 f6) ∧ W'.cell? ⟨P6, 5, none⟩ = some (.slice k6 2 c6)) (by kernel_rfl) ?_ (fun hh => ?_)
          · (try dsimp only)
            exact KS.out _ (Below.refl _ _).drew
          refine wpAnyH_take (i := 0) (oi := ?_) (v := ?_) ?_ (by kernel_rfl) (by kernel_rfl) (by kernel_rfl) ?_ (Or.inl ⟨?_, ?_⟩) (by assumption) ?_
          rotate_left 2
          · simp only [ga, gc] <;> rfl
          · exact fun _ _ _ h => h
          · rfl
          · (intro w hs; (try dsimp only at hs); go_simp; try (with_reducible rfl))
          try simp only [Act.put, na, nc, ns]
          refine wpAnyH_take (i := 1) (oi := ?_) (v := ?_) ?_ (by kernel_rfl) (by kernel_rfl) (by kernel_rfl) ?_ (Or.inl ⟨?_, ?_⟩) (by assumption) ?_
          rotate_left 2
          · simp only [ga, gb, gc] <;> rfl
          · exact fun _ _ _ h => h
          · rfl
          · (intro w hs; (try dsimp only at hs); go_simp; try (with_reducible rfl))
          try simp only [Act.put, na, nc, ns]
          refine wpAnyH_take (i := 2) (oi := ?_) (v := ?_) ?_ (by kernel_rfl) (by kernel_rfl) (by kernel_rfl) ?_ (Or.inl ⟨?_, ?_⟩) (by assumption) ?_
          rotate_left 2
          · simp only [ga, gb, gc] <;> rfl
          · exact fun _ _ _ h => h
          · rfl
          · (intro w hs; (try dsimp only at hs); go_simp; try (with_reducible rfl))
          try simp only [Act.put, na, nc, ns]
          refine wpAnyH_take (i := 3) (oi := ?_) (v := ?_) ?_ (by kernel_rfl) (by kernel_rfl) (by kernel_rfl) ?_ (Or.inl ⟨?_, ?_⟩) (by assumption) ?_
          rotate_left 2
          · simp only [ga, gb, gc] <;> rfl
          · exact fun _ _ _ h => h
          · rfl
          · (intro w hs; (try dsimp only at hs); go_simp; try (with_reducible rfl))
          try simp only [Act.put, na, nc, ns]
          refine wpAnyH_ready (rs := [4]) (by kernel_rfl) (by simp) ?_
          refine AllReadyH.cons (o := _) (by simp only [ga, gb, gc] <;> rfl) (fun K hK => ?_) ?_
          · go_simp
            refine hK.out _ _ ?_ (fun hh => ?_)
            · (try dsimp only)
              exact KS.out _ (Below.new (Below.refl _ _).drew _)
            clear hK K
            try simp only [Act.put, na, nc, ns]
            refine wpAnyH_ready (rs := [5]) (by kernel_rfl) (by simp) ?_
            refine AllReadyH.cons (o := _) (by simp only [ga, gb, gc] <;> rfl) (fun K hK => ?_) ?_
            · go_simp
              refine (HI2.out wr.drew (Below.step HLow.out (Below.refl _ _).drew)).mono ?_
              rintro e5 w5 ⟨ba5, bc5, ka5, kc5, rfl, hb5, hn5⟩
              have HB5x := Lib.hid (Below.step (w := wr) (Below.refl _ _).drew hb5)
              have HN5 := Lib.hid hn5
              clear hb5 hn5
              go_wp2_with fail
              refine hK.out _ _ ?_ (fun hh => ?_)
              · (try dsimp only)
                exact KS.out _ HB5x.out
              clear hK K
              try simp only [Act.put, na, nc, ns]
              refine wpAnyH_ready (rs := [6]) (by kernel_rfl) (by simp) ?_
              refine AllReadyH.cons (o := _) (by simp only [ga, gb, gc] <;> rfl) (fun K hK => ?_) ?_
              · go_simp
                refine (nbSame_any (k := 2) (l := Lo0) (m := 2) rfl (HN6.out.below HB5x.out).nd HN5.out).mono ?_
                rintro e6 w6 ⟨rfl, hb6⟩
                have HB6x := Lib.hid (Below.step HB5x.out hb6)
                clear hb6
                go_wp2_with fail
                refine hK.out _ _ ?_ (fun hh => ?_)
                · (try dsimp only)
                  exact KS.out _ HB6x.out
                clear hK K
                try simp only [Act.put, na, nc, ns]
                refine wpAnyH_take (i := 7) (oi := ?_) (v := ?_) ?_ (by kernel_rfl) (by kernel_rfl) (by kernel_rfl) ?_ (Or.inl ⟨?_, ?_⟩) (by assumption) ?_
                rotate_left 2
                · simp only [ga, gb, gc] <;> rfl
                · exact fun _ _ _ h => h
                · rfl
                · (intro w hs; (try dsimp only at hs); go_simp; try (with_reducible rfl))
                try simp only [Act.put, na, nc, ns]
                refine wpAnyH_take (i := 8) (oi := ?_) (v := ?_) ?_ (by kernel_rfl) (by kernel_rfl) (by kernel_rfl) ?_ (Or.inl ⟨?_, ?_⟩) (by assumption) ?_
                rotate_left 2
                · simp only [ga, gb, gc] <;> rfl
                · exact fun _ _ _ h => h
                · rfl
                · (intro w hs; (try dsimp only at hs); go_simp; try (with_reducible rfl))
                try simp only [Act.put, na, nc, ns]
                refine wpAnyH_done (by kernel_rfl) ?_ _
                go_wp2_with fail
                go_ret
                exact ⟨by first | rfl | simp, Below.step HLow.out HB6x.out⟩
              exact AllReadyH.nil
            exact AllReadyH.nil
          exact AllReadyH.nil
end Go.Proofs.YtjaijomkdgoenaaDoor.Nd
