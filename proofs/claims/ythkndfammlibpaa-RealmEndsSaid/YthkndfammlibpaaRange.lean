/- Range, and the reference's. -/
import Derived.Test.YthkndfammlibpaaJoins
import Derived.Test.YthkndfammlibpaaBeyond
namespace Go.Proofs.Ythkndfammlibpaa
open Go.RowKit
set_option maxRecDepth 100000
set_option maxHeartbeats 2000000

theorem pre_at (t : Nat) (ht : t ≤ 17) (i : Nat) (h : i < (pre t).size) : (pre t)[i] = if i = 7 then UInt8.ofNat t else 0 := by
  have hs := pre_size t
  match i, (show i < 8 by omega) with
  | 0, _ => rfl
  | 1, _ => rfl
  | 2, _ => rfl
  | 3, _ => rfl
  | 4, _ => rfl
  | 5, _ => rfl
  | 6, _ => rfl
  | 7, _ => rfl
theorem small_ne (t : Nat) (ht : t ≤ 17) : UInt8.ofNat t ≠ 255 := by
  intro e
  have := congrArg UInt8.toNat e
  rw [UInt8.toNat_ofNat', Nat.mod_eq_of_lt (by omega)] at this
  have h2 : (255 : UInt8).toNat = 255 := rfl
  omega
theorem beyond_pre (t : Nat) (ht : t ≤ 16) (r : ByteArray) (b : Bool) (h : Bd.BeyondIs (pre t) r b) : r = pre (t + 1) ∧ b = true := by
  have hs := pre_size t
  rcases h with ⟨_, _, h⟩ | ⟨hb, i, hi, h1, h2, h3⟩
  · have := h 0 (by omega)
    rw [pre_at t (by omega)] at this
    simp at this
  · have h7 : i = 7 := by
      rcases Nat.lt_or_ge i 7 with h | h
      · have := h2 7 (by omega) h
        rw [pre_at t (by omega), if_pos rfl] at this
        exact (small_ne t (by omega) this).elim
      · omega
    subst h7
    refine ⟨?_, hb⟩
    rw [h3, pre_at t (by omega), if_pos rfl]
    apply bytes_ext
    have e : UInt8.ofNat t + 1 = UInt8.ofNat (t + 1) := by
      apply UInt8.toNat_inj.1
      simp [UInt8.toNat_add, UInt8.toNat_ofNat']
    rw [append_list, e]
    rfl
theorem beyond_any (t : Nat) (ht : t ≤ 16) (w : World) :
    Calls Try.prog 24 #[.string (pre t)] w fun e w' => e = .returned (.tuple #[.string (pre (t + 1)), .bool true]) ∧ Below w.heap.size w w' := by
  refine ((callsIn_wide (n := 3)).1 (Bd.beyond_in 3 (by omega) (pre t) (by rw [pre_size]; omega) w)).mono ?_
  rintro e w' ⟨⟨r, b, rfl, h⟩, hb⟩
  obtain ⟨rfl, rfl⟩ := beyond_pre t ht r b h
  exact ⟨rfl, hb⟩

/-- The value of Range. -/
def rangeV (t : Int) : Value := if tenant t = true then .tuple #[.string (pre t.toNat), .string (pre (t.toNat + 1)), .int .i64 0] else .tuple #[.string ⟨#[]⟩, .string ⟨#[]⟩, .int .i64 2]
theorem range_any (t : Int) (w : World) :
    Calls Try.prog 11 #[.int .i64 t] w fun e w' => e = .returned (rangeV t) ∧ Below w.heap.size w w' := by
  have HN := Lib.hid (prefixD_any t)
  cases hv : tenant t
  · have HP : Hid (rangeV t = .tuple #[.string ⟨#[]⟩, .string ⟨#[]⟩, .int .i64 2]) := by show _ = _; rw [rangeV, hv]; rfl
    rw [show prefixV t = .tuple #[.string ⟨#[]⟩, .int .i64 2] from by rw [prefixV, hv]; rfl] at HN
    clear hv
    go_enter Try.func11, Try.ntmps11
    go_wp2_with (go_at_call 14; refine (HN.out _).mono ?_; rintro e w1 ⟨rfl, hb1⟩)
    exact bodyPost_ret (v := rangeV t) (by rw [HP.out]; simp [results, Try.results11, go_sem]) rfl ⟨rfl, hb1⟩
  · obtain ⟨k, k1, k2, rfl⟩ := tenant_some hv
    rw [show prefixV (k : Int) = .tuple #[.string (pre k), .int .i64 0] from by rw [prefixV, hv]; rfl] at HN
    have HP : Hid (rangeV (k : Int) = .tuple #[.string (pre k), .string (pre (k + 1)), .int .i64 0]) := by show _ = _; rw [rangeV, hv]; rfl
    have HB := Lib.hid (beyond_any k k2)
    clear hv
    go_enter Try.func11, Try.ntmps11
    go_wp2_with (first
      | (go_at_call 14; refine (HN.out _).mono ?_; rintro e w1 ⟨rfl, hb1⟩)
      | (go_at_call 24; refine (HB.out _).mono ?_; rintro e w2 ⟨rfl, hb2⟩))
    exact bodyPost_ret (v := rangeV k) (by rw [HP.out]; simp [results, Try.results11, go_sem]) rfl ⟨rfl, Below.step hb1 hb2⟩
theorem rrange_any (t : Int) (w : World) :
    Calls Try.prog 17 #[.int .i64 t] w fun e w' => e = .returned (rangeV t) ∧ Below w.heap.size w w' := by
  have HN := Lib.hid (rprefixD_any t)
  cases hv : tenant t
  · have HP : Hid (rangeV t = .tuple #[.string ⟨#[]⟩, .string ⟨#[]⟩, .int .i64 2]) := by show _ = _; rw [rangeV, hv]; rfl
    rw [show prefixV t = .tuple #[.string ⟨#[]⟩, .int .i64 2] from by rw [prefixV, hv]; rfl] at HN
    clear hv
    go_enter Try.func17, Try.ntmps17
    go_wp2_with (go_at_call 15; refine (HN.out _).mono ?_; rintro e w1 ⟨rfl, hb1⟩)
    exact bodyPost_ret (v := rangeV t) (by rw [HP.out]; simp [results, Try.results17, go_sem]) rfl ⟨rfl, hb1⟩
  · obtain ⟨k, k1, k2, rfl⟩ := tenant_some hv
    rw [show prefixV (k : Int) = .tuple #[.string (pre k), .int .i64 0] from by rw [prefixV, hv]; rfl] at HN
    have HP : Hid (rangeV (k : Int) = .tuple #[.string (pre k), .string (pre (k + 1)), .int .i64 0]) := by show _ = _; rw [rangeV, hv]; rfl
    have HB := Lib.hid (fun W => rprefix_any (k + 1) (by omega) W)
    have e1 : ((k + 1 : Nat) : Int) = (k : Int) + 1 := by omega
    rw [e1] at HB
    have g1 : (k : Int) ≤ 16 := by omega
    clear hv
    go_enter Try.func17, Try.ntmps17
    go_wp2_with (first
      | (go_at_call 15; refine (HN.out _).mono ?_; rintro e w1 ⟨rfl, hb1⟩)
      | (go_at_call 29; refine (HB.out _).mono ?_; rintro e w2 ⟨rfl, hb2⟩))
    exact bodyPost_ret (v := rangeV k) (by rw [HP.out]; simp [results, Try.results17, go_sem]) rfl ⟨rfl, Below.step hb1 hb2⟩
end Go.Proofs.Ythkndfammlibpaa
