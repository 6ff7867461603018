/- The kids of a node in a table with room for so many. -/
import Derived.Test.YtjaijomkdgoenaaDoorGNd
import Derived.Test.YtjaijomkdgoenaaDoorNdTab
namespace Go.Proofs.YtjaijomkdgoenaaDoor.Nd
open Go.RowKit
open Mn
set_option maxRecDepth 1000000
set_option maxHeartbeats 4000000

theorem FTab.mono {W : World} {B B' p : Nat} {l : List En} {room : Nat} (h : FTab W B p l room) (hb : B' ≤ B) : FTab W B' p l room := by
  obtain ⟨q, h1, h2, h3, h4⟩ := h; exact ⟨q, h1, by omega, by omega, h4⟩
theorem MTab.mono {W : World} {B B' p : Nat} {l : List En} {room : Nat} (h : MTab W B p l room) (hb : B' ≤ B) : MTab W B' p l room := by
  obtain ⟨q, e, h1, h2, h3, h4, h5⟩ := h; exact ⟨q, e, h1, by omega, by omega, by omega, h5⟩
theorem put_next {l : List En} (hs : Srt l) {c : Nat} {b : UInt8} {s g : Int} (h : l[c]? = some (b, s, g)) {R : Nat} (hR : l.length ≤ R) : putS b s g (l.take c) R = l.take (c + 1) := by
  obtain ⟨hc, he⟩ := List.getElem?_eq_some_iff.1 h
  have hlt : ∀ j (hj : j < c), (l[j]'(by omega)).1.toNat < b.toNat := fun j hj => by
    have := List.pairwise_iff_getElem.1 hs _ _ (by omega) hc hj
    rw [he] at this
    exact this
  have hlen : (l.take c).length = c := by rw [List.length_take]; omega
  have hst : Srt (l.take c) := hs.sublist (List.take_sublist _ _)
  have hp : placeIx b (l.take c) = c := by
    have h1 := firstIx_none (fun x => decide (b.toNat ≤ x.toNat)) (l.take c) (fun j hj => by
      have := hlt j (by omega)
      rw [List.getElem_take]
      exact decide_eq_false (by omega))
    rw [hlen] at h1
    exact h1
  have hi : isIn b (l.take c) = false := by
    cases hx : isIn b (l.take c) with
    | false => rfl
    | true =>
      have := isIn_lt hx
      rw [hp, hlen] at this
      omega
  unfold putS
  rw [if_neg (by rw [hi, hlen]; simp; omega), hp]
  have e2 : (l.take c).insertIdx c (b, s, g) = l.take c ++ [(b, s, g)] := by
    have := List.insertIdx_length_self (l := l.take c) (x := (b, s, g))
    rw [hlen] at this
    exact this
  rw [e2, List.take_succ_eq_append_getElem hc, he]

/-- A method of a few, or a many, behind an interface: its pointer is none that is nil. -/
theorem nilf (k : Nat) (p : Addr) (w : World) : (nilAhead (k + 1) 69 (.pointer (some p)) "Put").run Tryd.prog w = .ok (some false) w := by kernel_rfl
theorem nilm (k : Nat) (p : Addr) (w : World) : (nilAhead (k + 1) 72 (.pointer (some p)) "Put").run Tryd.prog w = .ok (some false) w := by kernel_rfl

theorem methfPut (k : Nat) (p : Addr) (w : World) : (method (k + 1) 69 (.pointer (some p)) "Put").run Tryd.prog w = .ok (85, .pointer (some p)) w := by kernel_rfl
theorem methfTake (k : Nat) (p : Addr) (w : World) : (method (k + 1) 69 (.pointer (some p)) "Take").run Tryd.prog w = .ok (86, .pointer (some p)) w := by kernel_rfl
theorem methfTurn (k : Nat) (p : Addr) (w : World) : (method (k + 1) 69 (.pointer (some p)) "Turn").run Tryd.prog w = .ok (87, .pointer (some p)) w := by kernel_rfl
theorem methfAll (k : Nat) (p : Addr) (w : World) : (method (k + 1) 69 (.pointer (some p)) "All").run Tryd.prog w = .ok (83, .pointer (some p)) w := by kernel_rfl
theorem methmPut (k : Nat) (p : Addr) (w : World) : (method (k + 1) 72 (.pointer (some p)) "Put").run Tryd.prog w = .ok (99, .pointer (some p)) w := by kernel_rfl
theorem methmTake (k : Nat) (p : Addr) (w : World) : (method (k + 1) 72 (.pointer (some p)) "Take").run Tryd.prog w = .ok (100, .pointer (some p)) w := by kernel_rfl
theorem methmTurn (k : Nat) (p : Addr) (w : World) : (method (k + 1) 72 (.pointer (some p)) "Turn").run Tryd.prog w = .ok (101, .pointer (some p)) w := by kernel_rfl
theorem methmAll (k : Nat) (p : Addr) (w : World) : (method (k + 1) 72 (.pointer (some p)) "All").run Tryd.prog w = .ok (97, .pointer (some p)) w := by kernel_rfl

section
variable {W : World} {n : No} {ba : Option Addr} {bc : Nat} {ka : Option Addr} {kc : Nat}
theorem rowf_any (h : NdAt W n ba bc ka kc) (he : n.bs.length = n.rs.length) (hr : Ris n.bs) (m : Nat) (hm : n.bs.length ≤ m) (hm2 : m ≤ 256) (R : Nat) (hR : roomOf (ofK m).1 = (R : Int)) (hRR : R = 4 ∨ R = 16) :
    Calls Tryd.prog 26 #[n.val ba bc ka kc, .int .i64 (m : Int)] W fun e w' => ∃ p, e = .returned (.iface 69 (.pointer (some ⟨p, 0, none⟩))) ∧ Below W.heap.size W w' ∧ FTab w' W.heap.size p n.ens R := by
  obtain ⟨k, hk⟩ : ∃ k, (ofK m).1 = k := ⟨_, rfl⟩
  obtain ⟨kb, hkb⟩ : ∃ kb, (ofK m).2 = kb := ⟨_, rfl⟩
  have HO := Lib.hid (fun W h => of_any (m : Int) W h)
  rw [hk, hkb] at HO
  have HRm := Lib.hid (fun W h => room_any k W h)
  rw [hk] at hR
  rw [hR] at HRm
  have hRle : n.bs.length ≤ R := by
    have := (ofK_room hm2).2.1
    rw [hk, hR] at this
    omega
  have hN := Lib.hid (fun w (hb : Below W.heap.size W w) => fnew_any R hRR w)
  have hsrt := Lib.hid (ens_srt he hr)
  have hel := ens_len he
  obtain ⟨W1, hW1⟩ : ∃ W1, W1 = W.alloc (.cells #[.int .i64 n.k, .string n.c, .string n.v, .string n.p, .slice ba n.bs.length bc, .slice ka n.rs.length kc] 49) := ⟨_, rfl⟩
  have hs1 : W1.heap.size = W.heap.size + 1 := by rw [hW1]; simp
  have B0 : Below W.heap.size W W1 := by rw [hW1]; exact Below.new (Below.refl W.heap.size W) _
  have F0 : Hid (Fresh W1 W.heap.size #[.int .i64 n.k, .string n.c, .string n.v, .string n.p, .slice ba n.bs.length bc, .slice ka n.rs.length kc] 49) := by rw [hW1]; exact Fresh.new _ _ _ _ rfl
  have H := Lib.hid (h.below B0)
  have HB0 := Lib.hid B0
  obtain ⟨L, hL⟩ : ∃ L, n.ens = L := ⟨_, rfl⟩
  have hat : Hid (∀ (c : Nat) (x : UInt8) (r : Int × Int), n.bs[c]? = some x → n.rs[c]? = some r → L[c]? = some (x, r)) := by
    intro c x r h1 h2
    rw [← hL]
    unfold No.ens
    rw [List.getElem?_zip_eq_some]
    exact ⟨h1, h2⟩
  rw [hL] at hsrt hel ⊢
  obtain ⟨bn, hbn⟩ : ∃ bn, n.bs.length = bn := ⟨_, rfl⟩
  obtain ⟨kn, hkn⟩ : ∃ kn, n.rs.length = kn := ⟨_, rfl⟩
  have hbb := H.out.b
  have hrr := H.out.r
  obtain ⟨ao, cap, e1, hcb⟩ := hbb
  cases e1
  obtain ⟨ao2, cap2, e1, hcr⟩ := hrr
  cases e1
  have HCB := Lib.hid hcb
  have HCR := Lib.hid hcr
  clear hcb hcr h B0
  have HBL := Lib.hid H.out.bl
  have HBN := Lib.hid hbn
  have hkb2 : kn = bn := by omega
  have hgb : Hid (∀ c, c < bn → ∃ x, n.bs[c]? = some x) := fun c hc => ⟨_, List.getElem?_eq_getElem (by omega)⟩
  have hgr : Hid (∀ c, c < bn → ∃ x, n.rs[c]? = some x) := fun c hc => ⟨_, List.getElem?_eq_getElem (by omega)⟩
  have hbR : Hid (bn ≤ R) := by show _ ≤ _; omega
  have hLn : Hid (L.length = bn) := by show _ = _; omega
  have hbig : Hid (bn < 1000000) := by show _ < _; have := HBL.out; omega
  unfold No.val ndv
  rw [hbn, hkn] at hW1 F0 ⊢
  subst hkb2
  clear hbn hkn hel hm hm2 hkb hk hR hRle he hr hL
  go_enter Tryd.func26, Tryd.ntmps26
  go_upto_region 1 with fail
  rw [← hW1]
  have hrm := H.out.rm
  have h3 := hrm.cell 3 (by decide)
  simp only [roomsL, List.getD_cons_succ, List.getD_cons_zero] at h3
  have HRM := Lib.hid hrm
  have hd16 : decide ((R : Int) ≤ 16) = true := decide_eq_true (by omega)
  have hd16' : (R : Int) ≤ 16 := by omega
  have HS1 := Lib.hid hs1
  clear hW1 hrm hs1
  go_upto_region 7 with (first | (go_at_call 17; refine (HO.out _ HRM.out).mono ?_; rintro e1 w1 ⟨rfl, h1⟩; replace h1 := h1.symm; subst h1) | (go_at_call 13; refine (HRm.out _ HRM.out).mono ?_; rintro e1 w1 ⟨rfl, h1⟩; replace h1 := h1.symm; subst h1) | (go_at_call 42; refine (hN.out _ HB0.out).mono ?_; rintro e2 w2 ⟨pt, rfl, hb2, ht2⟩; have HB2 := Lib.hid hb2; have HT2 := Lib.hid ht2; clear hb2 ht2))
  have f2 := F0.out.below HB2.out
  have d4 := f2.cell 4
  have HF2 := Lib.hid f2
  simp only [List.getElem?_toArray, List.getElem?_cons_zero, List.getElem?_cons_succ] at d4
  clear f2 h3 hd16 hd16'
  go_wp2_with fail
  go_loopw [38] (fun cv wr => ∃ c : Nat, cv = .int .i64 c ∧ c ≤ kn ∧ Hid (FTab wr W1.heap.size pt (L.take c) R) ∧ Below W1.heap.size W1 wr) (fun cv _ => kn - (intOf cv).toNat)
  case atStart => exact ⟨0, rfl, Nat.zero_le _, HT2, HB2.out⟩
  case round =>
    obtain ⟨c, rfl, hcn, htab, hbw⟩ := hrel
    have n6 := hbig.out
    have HBW := Lib.hid hbw
    clear d4
    by_cases hab : c < kn
    · obtain ⟨x, hx⟩ := hgb.out c hab
      obtain ⟨⟨rs, rg⟩, hy⟩ := hgr.out c hab
      obtain ⟨blk, off, rfl, hlt, hcl⟩ := HCB.out c x hx
      obtain ⟨blk2, off2, rfl, hlt2, hcs, hcg⟩ := HCR.out c _ hy
      replace hcl := (hbw.cell (p := ⟨blk, off + c, none⟩) hlt).trans hcl
      replace hcs := (hbw.cell (p := ⟨blk2, off2 + c * 2, none⟩) hlt2).trans hcs
      replace hcg := (hbw.cell (p := ⟨blk2, off2 + c * 2 + 1, none⟩) hlt2).trans hcg
      dsimp only at hcs hcg
      have d5 := (F0.out.below hbw).cell 5
      simp only [List.getElem?_toArray, List.getElem?_cons_zero, List.getElem?_cons_succ] at d5
      have hnx := put_next hsrt.out (hat.out c x _ hx hy) (R := R) (by have := hLn.out; have := hbR.out; omega)
      have HP : Hid (∀ w, Below wr.heap.size wr w → Calls Tryd.prog 85 #[.pointer (some ⟨pt, 0, none⟩), .int .u8 (x.toNat : Int), refV rs rg] w fun e w' => (∃ r, e = .returned (.int .i64 r)) ∧ Below W1.heap.size W1 w' ∧ FTab w' W1.heap.size pt (L.take (c + 1)) R) := by
        intro w hb
        refine (fput_any (htab.out.below hb) x rs rg).mono ?_
        rw [hnx]
        rintro e w' ⟨he, hb2, ht⟩
        exact ⟨⟨_, he⟩, (HBW.out.trans (hb.mono HBW.out.size)).trans hb2, ht⟩
      have c0 : (0 : Int) ≤ (c : Int) := by omega
      have c1 : (c : Int) < (kn : Int) := by omega
      have jd : decide (c < kn) = true := decide_eq_true hab
      clear hx hy hlt hlt2 hbw hnx HCB HCR hgb hgr hat htab
      have hnil : ∀ (p : Addr) (w : World), (nilAhead 244 69 (.pointer (some p)) "Put").run Tryd.prog w = .ok (some false) w := nilf 243
      have hmeth : ∀ (p : Addr) (w : World), (method 244 69 (.pointer (some p)) "Put").run Tryd.prog w = .ok (85, .pointer (some p)) w := methfPut 243
      go_upto_region 10 with fail
      go_region_with (go_at_call 85; refine (HP.out _ (by first | exact below_drewN (Below.refl _ _) _ | exact (Below.refl _ _).drew | exact Below.refl _ _)).mono ?_; rintro e3 w3 ⟨⟨er, rfl⟩, hb3, ht3⟩; have HB3 := Lib.hid hb3; have HT3 := Lib.hid ht3; clear hb3 ht3)
      all_goals
        go_wp2_with fail
        go_roundw
        case rel => exact ⟨c + 1, by simp, by omega, HT3, HB3.out⟩
        case measure => simp [intOf]; omega
    · obtain rfl : c = kn := by omega
      have c1 : ¬ (c : Int) < (c : Int) := by omega
      have jd : decide (c < c) = false := decide_eq_false hab
      have ht : L.take c = L := List.take_of_length_le (by have := hLn.out; omega)
      rw [ht] at htab
      clear hbw HCB HCR hgb hgr hat
      go_wp2_with fail
      go_ret
      exact ⟨pt, rfl, Below.step HB0.out HBW.out, htab.out.mono (by have := HS1.out; omega)⟩
theorem rowm_any (h : NdAt W n ba bc ka kc) (he : n.bs.length = n.rs.length) (hr : Ris n.bs) (m : Nat) (hm : n.bs.length ≤ m) (hm2 : m ≤ 256) (R : Nat) (hR : roomOf (ofK m).1 = (R : Int)) (hRR : R = 48 ∨ R = 256) :
    Calls Tryd.prog 26 #[n.val ba bc ka kc, .int .i64 (m : Int)] W fun e w' => ∃ p, e = .returned (.iface 72 (.pointer (some ⟨p, 0, none⟩))) ∧ Below W.heap.size W w' ∧ MTab w' W.heap.size p n.ens R := by
  obtain ⟨k, hk⟩ : ∃ k, (ofK m).1 = k := ⟨_, rfl⟩
  obtain ⟨kb, hkb⟩ : ∃ kb, (ofK m).2 = kb := ⟨_, rfl⟩
  have HO := Lib.hid (fun W h => of_any (m : Int) W h)
  rw [hk, hkb] at HO
  have HRm := Lib.hid (fun W h => room_any k W h)
  rw [hk] at hR
  rw [hR] at HRm
  have hRle : n.bs.length ≤ R := by
    have := (ofK_room hm2).2.1
    rw [hk, hR] at this
    omega
  have hN := Lib.hid (fun w (hb : Below W.heap.size W w) => mnew_any R hRR w)
  have hsrt := Lib.hid (ens_srt he hr)
  have hel := ens_len he
  obtain ⟨W1, hW1⟩ : ∃ W1, W1 = W.alloc (.cells #[.int .i64 n.k, .string n.c, .string n.v, .string n.p, .slice ba n.bs.length bc, .slice ka n.rs.length kc] 49) := ⟨_, rfl⟩
  have hs1 : W1.heap.size = W.heap.size + 1 := by rw [hW1]; simp
  have B0 : Below W.heap.size W W1 := by rw [hW1]; exact Below.new (Below.refl W.heap.size W) _
  have F0 : Hid (Fresh W1 W.heap.size #[.int .i64 n.k, .string n.c, .string n.v, .string n.p, .slice ba n.bs.length bc, .slice ka n.rs.length kc] 49) := by rw [hW1]; exact Fresh.new _ _ _ _ rfl
  have H := Lib.hid (h.below B0)
  have HB0 := Lib.hid B0
  obtain ⟨L, hL⟩ : ∃ L, n.ens = L := ⟨_, rfl⟩
  have hat : Hid (∀ (c : Nat) (x : UInt8) (r : Int × Int), n.bs[c]? = some x → n.rs[c]? = some r → L[c]? = some (x, r)) := by
    intro c x r h1 h2
    rw [← hL]
    unfold No.ens
    rw [List.getElem?_zip_eq_some]
    exact ⟨h1, h2⟩
  rw [hL] at hsrt hel ⊢
  obtain ⟨bn, hbn⟩ : ∃ bn, n.bs.length = bn := ⟨_, rfl⟩
  obtain ⟨kn, hkn⟩ : ∃ kn, n.rs.length = kn := ⟨_, rfl⟩
  have hbb := H.out.b
  have hrr := H.out.r
  obtain ⟨ao, cap, e1, hcb⟩ := hbb
  cases e1
  obtain ⟨ao2, cap2, e1, hcr⟩ := hrr
  cases e1
  have HCB := Lib.hid hcb
  have HCR := Lib.hid hcr
  clear hcb hcr h B0
  have HBL := Lib.hid H.out.bl
  have HBN := Lib.hid hbn
  have hkb2 : kn = bn := by omega
  have hgb : Hid (∀ c, c < bn → ∃ x, n.bs[c]? = some x) := fun c hc => ⟨_, List.getElem?_eq_getElem (by omega)⟩
  have hgr : Hid (∀ c, c < bn → ∃ x, n.rs[c]? = some x) := fun c hc => ⟨_, List.getElem?_eq_getElem (by omega)⟩
  have hbR : Hid (bn ≤ R) := by show _ ≤ _; omega
  have hLn : Hid (L.length = bn) := by show _ = _; omega
  have hbig : Hid (bn < 1000000) := by show _ < _; have := HBL.out; omega
  unfold No.val ndv
  rw [hbn, hkn] at hW1 F0 ⊢
  subst hkb2
  clear hbn hkn hel hm hm2 hkb hk hR hRle he hr hL
  go_enter Tryd.func26, Tryd.ntmps26
  go_upto_region 1 with fail
  rw [← hW1]
  have hrm := H.out.rm
  have h3 := hrm.cell 3 (by decide)
  simp only [roomsL, List.getD_cons_succ, List.getD_cons_zero] at h3
  have HRM := Lib.hid hrm
  have hd16 : decide ((R : Int) ≤ 16) = false := decide_eq_false (by omega)
  have hd16' : ¬ (R : Int) ≤ 16 := by omega
  have HS1 := Lib.hid hs1
  clear hW1 hrm hs1
  go_upto_region 7 with (first | (go_at_call 17; refine (HO.out _ HRM.out).mono ?_; rintro e1 w1 ⟨rfl, h1⟩; replace h1 := h1.symm; subst h1) | (go_at_call 13; refine (HRm.out _ HRM.out).mono ?_; rintro e1 w1 ⟨rfl, h1⟩; replace h1 := h1.symm; subst h1) | (go_at_call 43; refine (hN.out _ HB0.out).mono ?_; rintro e2 w2 ⟨pt, rfl, hb2, ht2⟩; have HB2 := Lib.hid hb2; have HT2 := Lib.hid ht2; clear hb2 ht2))
  have f2 := F0.out.below HB2.out
  have d4 := f2.cell 4
  have HF2 := Lib.hid f2
  simp only [List.getElem?_toArray, List.getElem?_cons_zero, List.getElem?_cons_succ] at d4
  clear f2 h3 hd16 hd16'
  go_wp2_with fail
  go_loopw [38] (fun cv wr => ∃ c : Nat, cv = .int .i64 c ∧ c ≤ kn ∧ Hid (MTab wr W1.heap.size pt (L.take c) R) ∧ Below W1.heap.size W1 wr) (fun cv _ => kn - (intOf cv).toNat)
  case atStart => exact ⟨0, rfl, Nat.zero_le _, HT2, HB2.out⟩
  case round =>
    obtain ⟨c, rfl, hcn, htab, hbw⟩ := hrel
    have n6 := hbig.out
    have HBW := Lib.hid hbw
    clear d4
    by_cases hab : c < kn
    · obtain ⟨x, hx⟩ := hgb.out c hab
      obtain ⟨⟨rs, rg⟩, hy⟩ := hgr.out c hab
      obtain ⟨blk, off, rfl, hlt, hcl⟩ := HCB.out c x hx
      obtain ⟨blk2, off2, rfl, hlt2, hcs, hcg⟩ := HCR.out c _ hy
      replace hcl := (hbw.cell (p := ⟨blk, off + c, none⟩) hlt).trans hcl
      replace hcs := (hbw.cell (p := ⟨blk2, off2 + c * 2, none⟩) hlt2).trans hcs
      replace hcg := (hbw.cell (p := ⟨blk2, off2 + c * 2 + 1, none⟩) hlt2).trans hcg
      dsimp only at hcs hcg
      have d5 := (F0.out.below hbw).cell 5
      simp only [List.getElem?_toArray, List.getElem?_cons_zero, List.getElem?_cons_succ] at d5
      have hnx := put_next hsrt.out (hat.out c x _ hx hy) (R := R) (by have := hLn.out; have := hbR.out; omega)
      have HP : Hid (∀ w, Below wr.heap.size wr w → Calls Tryd.prog 99 #[.pointer (some ⟨pt, 0, none⟩), .int .u8 (x.toNat : Int), refV rs rg] w fun e w' => (∃ r, e = .returned (.int .i64 r)) ∧ Below W1.heap.size W1 w' ∧ MTab w' W1.heap.size pt (L.take (c + 1)) R) := by
        intro w hb
        refine (mput_any (htab.out.below hb) x rs rg).mono ?_
        rw [hnx]
        rintro e w' ⟨he, hb2, ht⟩
        exact ⟨⟨_, he⟩, (HBW.out.trans (hb.mono HBW.out.size)).trans hb2, ht⟩
      have c0 : (0 : Int) ≤ (c : Int) := by omega
      have c1 : (c : Int) < (kn : Int) := by omega
      have jd : decide (c < kn) = true := decide_eq_true hab
      clear hx hy hlt hlt2 hbw hnx HCB HCR hgb hgr hat htab
      have hnil : ∀ (p : Addr) (w : World), (nilAhead 244 72 (.pointer (some p)) "Put").run Tryd.prog w = .ok (some false) w := nilm 243
      have hmeth : ∀ (p : Addr) (w : World), (method 244 72 (.pointer (some p)) "Put").run Tryd.prog w = .ok (99, .pointer (some p)) w := methmPut 243
      go_upto_region 10 with fail
      go_region_with (go_at_call 99; refine (HP.out _ (by first | exact below_drewN (Below.refl _ _) _ | exact (Below.refl _ _).drew | exact Below.refl _ _)).mono ?_; rintro e3 w3 ⟨⟨er, rfl⟩, hb3, ht3⟩; have HB3 := Lib.hid hb3; have HT3 := Lib.hid ht3; clear hb3 ht3)
      all_goals
        go_wp2_with fail
        go_roundw
        case rel => exact ⟨c + 1, by simp, by omega, HT3, HB3.out⟩
        case measure => simp [intOf]; omega
    · obtain rfl : c = kn := by omega
      have c1 : ¬ (c : Int) < (c : Int) := by omega
      have jd : decide (c < c) = false := decide_eq_false hab
      have ht : L.take c = L := List.take_of_length_le (by have := hLn.out; omega)
      rw [ht] at htab
      clear hbw HCB HCR hgb hgr hat
      go_wp2_with fail
      go_ret
      exact ⟨pt, rfl, Below.step HB0.out HBW.out, htab.out.mono (by have := HS1.out; omega)⟩
end
end Go.Proofs.YtjaijomkdgoenaaDoor.Nd
