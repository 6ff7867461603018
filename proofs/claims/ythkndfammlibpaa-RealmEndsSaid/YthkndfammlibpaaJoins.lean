/- The walks of Join. -/
import Derived.Test.YthkndfammlibpaaJoin
namespace Go.Proofs.Ythkndfammlibpaa
open Go.RowKit
set_option maxRecDepth 100000
set_option maxHeartbeats 2000000

theorem rencode_long (s : ByteArray) (w : World) (hs : 16 < s.size) (hm : s.size ≤ maxLen) :
    Calls Try.prog 19 #[.string s] w fun e w' => e = .returned (.tuple #[.string ⟨#[]⟩, .int .i64 3]) ∧ w' = w := by
  unfold maxLen at hm
  have h1 : (16 : Int) < (s.size : Int) := by omega
  go_enter Try.func19, Try.ntmps19
  go_wp2_with fail
  go_ret2
  exact ⟨rfl, rfl⟩

/-- The value of Join. -/
def joinV (t : Int) (s : ByteArray) : Value :=
  if tenant t = true then (if s.size ≤ 16 then .tuple #[.string (pre t.toNat ++ codeOf s), .int .i64 0] else .tuple #[.string ⟨#[]⟩, .int .i64 3]) else .tuple #[.string ⟨#[]⟩, .int .i64 2]

theorem join_any (t : Int) (s : ByteArray) (hs : s.size ≤ maxLen) (w : World) :
    Calls Try.prog 12 #[.int .i64 t, .string s] w fun e w' => e = .returned (joinV t s) ∧ Below w.heap.size w w' := by
  have HN := Lib.hid (errno_any t s hs)
  cases hv : tenant t
  · have HP : Hid (joinV t s = .tuple #[.string ⟨#[]⟩, .int .i64 2]) := by show _ = _; rw [joinV, hv]; rfl
    rw [hv] at HN
    simp only [Bool.false_eq_true, if_false] at HN
    clear hv hs
    go_enter Try.func12, Try.ntmps12
    go_wp2_with (go_at_call 25; refine (HN.out _).mono ?_; rintro e w1 ⟨rfl, hb1⟩)
    go_ret2
    exact ⟨by rw [HP.out]; rfl, Below.step ((Below.refl _ _).alloc (Nat.le_refl _) _) hb1⟩
  · obtain ⟨k, k1, k2, rfl⟩ := tenant_some hv
    rw [hv] at HN
    by_cases hl : s.size ≤ 16
    · have HP : Hid (joinV (k : Int) s = .tuple #[.string (pre k ++ codeOf s), .int .i64 0]) := by show _ = _; rw [joinV, hv, if_pos rfl, if_pos hl]; rfl
      simp only [if_pos, hl] at HN
      have HT := Lib.hid (text_any k k2 s hl)
      clear hv hl hs
      go_enter Try.func12, Try.ntmps12
      go_wp2_with (first
        | (go_at_call 25; refine (HN.out _).mono ?_; rintro e w1 ⟨rfl, hb1⟩; have c1 : w1.cell? ⟨w.heap.size, 0, none⟩ = some (.int .i64 (k : Int)) := (block_below hb1 0 _ rfl).1; have c2 : w1.cell? ⟨w.heap.size, 1, none⟩ = some (.string s) := (block_below hb1 1 _ rfl).1)
        | (go_at_call 26; refine (HT.out _).mono ?_; rintro e w2 ⟨rfl, hb2⟩))
      go_ret2
      exact ⟨by rw [HP.out]; rfl, Below.step (Below.step ((Below.refl _ _).alloc (Nat.le_refl _) _) hb1) hb2⟩
    · have HP : Hid (joinV (k : Int) s = .tuple #[.string ⟨#[]⟩, .int .i64 3]) := by show _ = _; rw [joinV, hv, if_pos rfl, if_neg hl]
      simp only [if_pos, hl, if_false] at HN
      clear hv hl hs
      go_enter Try.func12, Try.ntmps12
      go_wp2_with (go_at_call 25; refine (HN.out _).mono ?_; rintro e w1 ⟨rfl, hb1⟩)
      go_ret2
      exact ⟨by rw [HP.out]; rfl, Below.step ((Below.refl _ _).alloc (Nat.le_refl _) _) hb1⟩

theorem rjoin_any (t : Int) (s : ByteArray) (hs : s.size ≤ maxLen) (w : World) :
    Calls Try.prog 9 #[.int .i64 t, .string s] w fun e w' => e = .returned (joinV t s) ∧ Below w.heap.size w w' := by
  have HN := Lib.hid (rprefixD_any t)
  cases hv : tenant t
  · have HP : Hid (joinV t s = .tuple #[.string ⟨#[]⟩, .int .i64 2]) := by show _ = _; rw [joinV, hv]; rfl
    rw [show prefixV t = .tuple #[.string ⟨#[]⟩, .int .i64 2] from by rw [prefixV, hv]; rfl] at HN
    clear hv hs
    go_enter Try.func9, Try.ntmps9
    go_wp2_with (go_at_call 15; refine (HN.out _).mono ?_; rintro e w1 ⟨rfl, hb1⟩)
    go_ret2
    exact ⟨by rw [HP.out]; rfl, hb1⟩
  · obtain ⟨k, k1, k2, rfl⟩ := tenant_some hv
    rw [show prefixV (k : Int) = .tuple #[.string (pre k), .int .i64 0] from by rw [prefixV, hv]; rfl] at HN
    by_cases hl : s.size ≤ 16
    · have HP : Hid (joinV (k : Int) s = .tuple #[.string (pre k ++ codeOf s), .int .i64 0]) := by show _ = _; rw [joinV, hv, if_pos rfl, if_pos hl]; rfl
      have HE := Lib.hid (fun W => rencode_any s W hl)
      have z1 := encB_le s.data.toList
      have z3 := length_list s
      have z4 : (codeOf s).size = (encB s.data.toList).length + 2 := by
        rw [← length_list, show (codeOf s).data.toList = encB s.data.toList ++ [0, 0] from rfl]; simp
      have z5 := pre_size k
      obtain ⟨c, hc⟩ : ∃ c, codeOf s = c := ⟨_, rfl⟩
      have z6 : c.size ≤ 34 := by rw [← hc, z4]; omega
      rw [hc] at HE HP
      clear hv hl hs z1 z3 z4 hc
      go_enter Try.func9, Try.ntmps9
      go_wp2_with (first
        | (go_at_call 15; refine (HN.out _).mono ?_; rintro e w1 ⟨rfl, hb1⟩)
        | (go_at_call 19; refine (HE.out _).mono ?_; rintro e w2 ⟨rfl, rfl⟩))
      go_ret2
      exact ⟨by rw [HP.out]; rfl, hb1⟩
    · have HP : Hid (joinV (k : Int) s = .tuple #[.string ⟨#[]⟩, .int .i64 3]) := by show _ = _; rw [joinV, hv, if_pos rfl, if_neg hl]
      have HE := Lib.hid (fun W => rencode_long s W (by omega) hs)
      clear hv hl hs
      go_enter Try.func9, Try.ntmps9
      go_wp2_with (first
        | (go_at_call 15; refine (HN.out _).mono ?_; rintro e w1 ⟨rfl, hb1⟩)
        | (go_at_call 19; refine (HE.out _).mono ?_; rintro e w2 ⟨rfl, rfl⟩))
      go_ret2
      exact ⟨by rw [HP.out]; rfl, hb1⟩
end Go.Proofs.Ythkndfammlibpaa
