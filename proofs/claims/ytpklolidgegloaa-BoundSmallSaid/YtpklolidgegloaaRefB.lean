/- The walks of the reference's Beyond, Reaches, Least, Max, and of Max. -/
import Derived.Test.YtpklolidgegloaaRefs
import Derived.Test.YtpklolidgegloaaMark
namespace Go.Proofs.Ytpklolidgegloaa
open Go.RowKit
set_option maxRecDepth 100000
set_option maxHeartbeats 400000

theorem rbeyond_is (s : ByteArray) (w : World) (hs : s.size ≤ 1000000) :
    Calls Try.prog 19 #[.string s] w fun e w' => (∃ r b, e = .returned (.tuple #[.string r, .bool b]) ∧ BeyondIs s r b) ∧ Below w.heap.size w w' := by
  go_enter Try.func19, Try.ntmps19
  go_wp2
  go_loopw [4] (fun i wr => ∃ k : Nat, k ≤ s.size ∧ i = .int .i64 ((k : Int) - 1) ∧ Below w.heap.size w wr ∧ Hid (∀ j (h : j < s.size), k ≤ j → s[j] = 255)) (fun i _ => (intOf i + 1).toNat)
  case atStart => exact ⟨s.size, Nat.le_refl _, rfl, Below.refl _ _, fun j h h' => by omega⟩
  case round =>
    obtain ⟨k, hk1, rfl, hB, HE⟩ := hrel
    cases k with
    | zero =>
      go_wp2
      refine bodyPost_ret (v := .tuple #[.string ⟨#[]⟩, .bool false]) (by simp [results, Try.results19, go_sem]) rfl ⟨⟨_, _, rfl, .inl ⟨rfl, rfl, fun i h => HE.out i h (Nat.zero_le _)⟩⟩, hB⟩
    | succ k =>
      have hk : k < s.size := by omega
      by_cases he : s[k] = 255
      · have q1 : decide (((s[k]'hk).toNat : Int) < 255) = false := by rw [he]; decide
        have HE2 : Hid (∀ j (h : j < s.size), k ≤ j → s[j] = 255) := by
          intro j h h'
          by_cases e : j = k
          · subst e; exact he
          · exact HE.out j h (by omega)
        clear he
        go_wp2
        go_roundw
        case rel => exact ⟨k, by omega, rfl, hB, HE2⟩
        case measure => simp [intOf]
      · have hne : (s[k]'hk).toNat ≠ 255 := fun e => he (UInt8.toNat.inj e)
        have hlt := UInt8.toNat_lt (s[k]'hk)
        have q1 : decide (((s[k]'hk).toNat : Int) < 255) = true := by simp; omega
        have H2 : Hid (((s[k]'hk) + 1).toNat = (s[k]'hk).toNat + 1) := by show _ = _; rw [UInt8.toNat_add]; simp; omega
        have q2 : ((s[k]'hk).toNat : Int) < 255 := by omega
        have HN := Lib.hid (And.intro he (And.intro hne hlt))
        clear he hne hlt
        have z1 : (s.extract 0 k).size ≤ 1000000 := by simp; omega
        have k0 : (0 : Int) ≤ (k : Int) := Int.natCast_nonneg _
        have k1 : (k : Int) ≤ (s.size : Int) := by omega
        have k2 : (k : Int) < (s.size : Int) := by omega
        have hw : IntKind.u8.wrap (((s[k]'hk).toNat : Int) + 1) = (((s[k]'hk) + 1).toNat : Int) := by
          rw [UInt8.toNat_add]; simp [IntKind.wrap, IntKind.signed, IntKind.bits]
        have hcv : ∀ W : World, (convert 48 9 (.slice (some ⟨W.heap.size, 0, none⟩) 1 1)).run Try.prog (W.alloc (.cells #[.int .u8 (IntKind.u8.wrap (((s[k]'hk).toNat : Int) + 1))] 5)).drew = .ok (.string (one ((s[k]'hk) + 1))) (W.alloc (.cells #[.int .u8 (IntKind.u8.wrap (((s[k]'hk).toNat : Int) + 1))] 5)).drew := fun W => by
          rw [hw]
          exact run_convert_one (P := Try.prog) W.drew 48 9 5 ((s[k]'hk) + 1) Try.underlying48 Try.underlying5 Try.underlying9
        clear hw
        have hon : (one ((s[k]'hk) + 1)).size = 1 := rfl
        have hmn : ¬ 9223372036854775807 < min k s.size + 1 := by omega
        have hmi : ¬ (9223372036854775807 : Int) < min (k : Int) (s.size : Int) + 1 := by omega
        go_wp2
        go_region
        all_goals
          go_wp2
          refine bodyPost_ret (v := .tuple #[.string (s.extract 0 k ++ one ((s[k]'hk) + 1)), .bool true]) (by simp [results, Try.results19, go_sem]) rfl ⟨⟨_, _, rfl, .inr ⟨rfl, k, hk, HN.out.1, fun j hj h => HE.out j hj (by omega), ?_⟩⟩, (Below.new hB _).drew⟩
          unfold clipB
          simp

theorem rbeyond_any (s : ByteArray) (w : World) (hs : s.size ≤ 1000000) :
    Calls Try.prog 19 #[.string s] w fun e w' => e = .returned (.tuple #[.string (beyondB s), .bool (beyondOk s)]) ∧ Below w.heap.size w w' := by
  refine (rbeyond_is s w hs).mono ?_
  rintro e w' ⟨⟨r, b, rfl, h⟩, hb⟩
  obtain ⟨rfl, rfl⟩ := beyondIs_eq h
  exact ⟨rfl, hb⟩

theorem beyondB_size (s : ByteArray) : (beyondB s).size ≤ s.size := by
  unfold beyondB
  have : ((beyondL s.data.toList).getD []).length ≤ s.data.toList.length := by
    rcases beyondL_cases s.data.toList with ⟨h1, _⟩ | ⟨q, c, ff, h1, _, _, h4⟩
    · rw [h1]; simp
    · rw [h4, h1]; simp
  rw [length_list] at this
  rw [← length_list]
  exact this

theorem rreaches_any (p f : ByteArray) (w : World) (hp : p.size ≤ 1000000) (hf : f.size ≤ maxLen) :
    Calls Try.prog 22 #[.string p, .string f] w fun e w' => e = .returned (.bool (reachB p f)) ∧ Below w.heap.size w w' := by
  have HR := Lib.hid (reach_ref p f)
  have HB : Hid ((beyondB p).size ≤ maxLen) := Nat.le_trans (beyondB_size p) (Nat.le_trans hp (by decide))
  have HF := Lib.hid hf
  clear hf
  obtain ⟨u, hu⟩ : ∃ u, beyondOk p = u := ⟨_, rfl⟩
  have HU := Lib.hid hu
  clear hu
  cases u with
  | false =>
    go_enter Try.func22, Try.ntmps22
    go_wp2_with fail
    refine (rbeyond_any _ _ hp).mono ?_
    rw [HU.out]
    rintro e w1 ⟨rfl, hb1⟩
    go_wp2_with fail
    go_ret
    exact ⟨ret_bool (by rw [← HR.out, HU.out]; rfl), hb1⟩
  | true =>
    go_enter Try.func22, Try.ntmps22
    go_wp2_with fail
    refine (rbeyond_any _ _ hp).mono ?_
    rw [HU.out]
    rintro e w1 ⟨rfl, hb1⟩
    go_wp2_with fail
    refine (rless_any _ _ _ HF.out HB.out).mono ?_
    rintro e w2 ⟨rfl, hb2⟩
    go_wp2_with fail
    go_ret
    exact ⟨ret_bool (by rw [← HR.out, HU.out]; simp), Below.step hb1 hb2⟩

theorem rleast_any (p f : ByteArray) (w : World) (hp : p.size ≤ 1000000) (hf : f.size ≤ maxLen) :
    Calls Try.prog 23 #[.string p, .string f] w fun e w' => e = .returned (.string (leastB p f)) ∧ Below w.heap.size w w' := by
  have HR := Lib.hid (least_ref p f)
  have HF := Lib.hid hf
  have HP : Hid (p.size ≤ maxLen) := Nat.le_trans hp (by decide)
  clear hf
  obtain ⟨u, hu⟩ : ∃ u, reachB p f = u := ⟨_, rfl⟩
  have HU := Lib.hid hu
  obtain ⟨v, hv⟩ : ∃ v, bl p.data.toList f.data.toList = v := ⟨_, rfl⟩
  have HV := Lib.hid hv
  clear hu hv
  cases u with
  | false =>
    go_enter Try.func23, Try.ntmps23
    go_wp2_with fail
    refine (rreaches_any _ _ _ hp HF.out).mono ?_
    rw [HU.out]
    rintro e w1 ⟨rfl, hb1⟩
    go_wp2_with fail
    go_ret
    exact ⟨ret_str (by rw [HR.out, HU.out]; rfl), hb1⟩
  | true =>
    cases v
    all_goals
      go_enter Try.func23, Try.ntmps23
      go_wp2_with fail
      refine (rreaches_any _ _ _ hp HF.out).mono ?_
      rw [HU.out]
      rintro e w1 ⟨rfl, hb1⟩
      go_wp2_with fail
      refine (rless_any _ _ _ HP.out HF.out).mono ?_
      rw [HV.out]
      rintro e w2 ⟨rfl, hb2⟩
      go_wp2_with fail
      go_ret
      exact ⟨ret_str (by rw [HR.out, HU.out, HV.out]; rfl), Below.step hb1 hb2⟩

end Go.Proofs.Ytpklolidgegloaa
