/- The walk of SlabEnds. -/
import Derived.Test.YtbbadkgmnfjfaaaFrd
namespace Go.Proofs.Ytbbadkgmnfjfaaa
open Go.RowKit
set_option maxRecDepth 100000
set_option maxHeartbeats 8000000

theorem and3_tab : ∀ a : Fin 64, ∀ b : Fin 64, bits .and .i64 (((a : Nat) * 64 + (b : Nat) : Nat) : Int) 3 = (((b : Nat) % 4 : Nat) : Int) := by decide +kernel
theorem and3 (x : Nat) (h : x < 4096) : bits .and .i64 (x : Int) 3 = ((x % 4 : Nat) : Int) := by
  have := and3_tab ⟨x / 64, by omega⟩ ⟨x % 64, by omega⟩
  dsimp only at this
  rw [show x / 64 * 64 + x % 64 = x by omega] at this
  rw [this]
  omega
theorem and3_shr (n k : Nat) (h : n < 4096) : bits .and .i64 ((n : Int) / 2 ^ (2 * k)) 3 = 0 ∨ bits .and .i64 ((n : Int) / 2 ^ (2 * k)) 3 = 1 ∨ bits .and .i64 ((n : Int) / 2 ^ (2 * k)) 3 = 2 ∨ bits .and .i64 ((n : Int) / 2 ^ (2 * k)) 3 = 3 := by
  have e : ((n : Int) / 2 ^ (2 * k)) = ((n / 2 ^ (2 * k) : Nat) : Int) := by simp
  have hl : n / 2 ^ (2 * k) < 4096 := Nat.lt_of_le_of_lt (Nat.div_le_self _ _) h
  rw [e, and3 _ hl]
  omega
/-- What holds between two rounds of the last loop. -/
def mj (j : Nat) : Nat := if j = 0 then 0 else j + 1
def EndI (w : World) (p a g q nb : Nat) (pre : List Nat) (Wc : World) : Prop := ∃ j : Nat, pre.length = j ∧ j ≤ 2 ∧ Si.At Wc p a g (frd (mj j)) ∧ Fresh Wc nb #[.int .i64 (j : Int)] 3 ∧ Fresh Wc q #[.pointer (some ⟨p, 0, none⟩)] 24 ∧ Below w.heap.size w Wc
theorem EndI.own {w : World} {p a g q nb B : Nat} (hB : w.heap.size ≤ B) : OwnFrom B (EndI w p a g q nb) := by
  rintro pre X Y row ⟨j, h1, h2, h3, h4, h5, h6⟩ hg hr
  have hr' : ∀ r, row = some r → ∃ o : Obj, X.heap[r]? = some o ∧ o.isCells = false := fun r e => (hr r e).2
  exact ⟨j, h1, h2, h3.kept hg hr', h4.kept hg hr', h5.kept hg hr', h6.grown hg h6.size (fun r e => by have := (hr r e).1; omega)⟩
def EndX (w : World) (p a g q nb : Nat) (Wc : World) : Prop := Si.At Wc p a g (frd 4) ∧ Fresh Wc nb #[.int .i64 3] 3 ∧ Fresh Wc q #[.pointer (some ⟨p, 0, none⟩)] 24 ∧ Below w.heap.size w Wc
theorem EndX.kept {w X Y : World} {p a g q nb B : Nat} {row : Option Nat} (h : EndX w p a g q nb X) (hB : w.heap.size ≤ B) (hg : X.grownBy Y row) (hr : ∀ r, row = some r → B ≤ r ∧ ∃ o : Obj, X.heap[r]? = some o ∧ o.isCells = false) : EndX w p a g q nb Y := by
  obtain ⟨h3, h4, h5, h6⟩ := h
  have hr' : ∀ r, row = some r → ∃ o : Obj, X.heap[r]? = some o ∧ o.isCells = false := fun r e => (hr r e).2
  exact ⟨h3.kept hg hr', h4.kept hg hr', h5.kept hg hr', h6.grown hg h6.size (fun r e => by have := (hr r e).1; omega)⟩
attribute [local go_sem] Oper.semAt_some
theorem ends_any (w : World) :
    Calls Try.prog 4 #[] w fun e w' => e = .returned (.bool true) ∧ Below w.heap.size w w' := by
  obtain ⟨iD, jD, jD0, jD1, jD2⟩ := infoD
  have HJD := Lib.hid (⟨jD, jD0, jD1, jD2⟩ : _ ∧ _ ∧ _ ∧ _)
  clear jD jD0 jD1 jD2
  refine (callsIn_wide (n := 10)).1 ?_
  refine callsIn_of_wp_marks Try.func4 rfl trivial ?_ rfl
  simp only [Try.ntmps4, List.size_toArray, List.length_cons, List.length_nil, Nat.reduceAdd, Nat.reduceSub, Array.replicate_succ, Array.replicate_zero, List.push_toArray, List.append_toArray, List.nil_append, List.cons_append]
  refine wpIn_wide.2 ?_
  refine wp_mono (Q := calmQ _) ?_ calmQ_out
  go_wp2_with fail
  go_loopw [1] (fun nv wr => ∃ n : Nat, n ≤ 4096 ∧ nv = .int .i64 n ∧ Below w.heap.size w wr) (fun nv _ => 4096 - (intOf nv).toNat)
  case atStart => exact ⟨0, by omega, rfl, Below.refl _ _⟩
  case round =>
    obtain ⟨n, hn, rfl, hB⟩ := hrel
    have n0 : (0 : Int) ≤ (n : Int) := by omega
    by_cases hlt : n < 4096
    · have n1 : (n : Int) < 4096 := by omega
      have HB := Lib.hid hB
      obtain ⟨V, hV⟩ : ∃ V, V = wr := ⟨_, rfl⟩
      subst hV
      clear hB
      go_wp2_with fail
      go_loopw [2, 3] (fun v kv wq => ∃ (k : Nat) (l : List Dd) (ao : Option Addr) (cap : Nat), k ≤ 6 ∧ kv = .int .i64 k ∧ v = .slice ao k cap ∧ l.length = k ∧ (∀ d ∈ l, d.ok) ∧ wq.ownsRow w.heap.size 38 5 (.slice ao k cap) k (dc l) ∧ Below w.heap.size w wq) (fun _ kv _ => 6 - (intOf kv).toNat)
      case atStart => exact ⟨0, [], none, 0, by omega, rfl, rfl, rfl, by simp, ⟨rfl, .inl ⟨rfl, rfl⟩⟩, HB.out⟩
      case round =>
        obtain ⟨k, l, ao, cap, hk, rfl, rfl, hll, hok, hrow, hB⟩ := hrel
        have k0 : (0 : Int) ≤ (k : Int) := by omega
        by_cases hlt2 : k < 6
        · have k1 : (k : Int) < 6 := by omega
          have HR := Lib.hid (⟨hll, hok, hrow, hB⟩ : _ ∧ _ ∧ _ ∧ _)
          clear hll hok hrow hB
          have step : ∀ c : Int, 0 ≤ c ∧ c ≤ 5 → Hid (Dd.ok ⟨c, (n : Int) + (k : Int), (k : Int) + 1, 0, 0⟩) := fun c hc => ok_small _ _ _ _ _ (by omega) (by omega) (by omega) (by unfold I64; omega) (by omega)
          have HST := Lib.hid step
          have kw : IntKind.i64.wrap ((k : Int) + 1) = (k : Int) + 1 := IntWalk.i64_in _ (by omega)
          clear step
          rcases and3_shr n k hlt with hx | hx | hx | hx
          · have B7 : Below wr.heap.size wr ((wr.alloc (.cells #[.int .i64 0, .int .i64 4, .int .i64 0, .int .i64 5] 3)).alloc (.cells #[.int .i64 0, .int .i64 ((n : Int) + (k : Int)), .int .i64 ((k : Int) + 1), .int .i64 0, .int .u32 0] 38)) := Below.new (Below.new (Below.refl _ _) _) _
            have o7 : Hid (((wr.alloc (.cells #[.int .i64 0, .int .i64 4, .int .i64 0, .int .i64 5] 3)).alloc (.cells #[.int .i64 0, .int .i64 ((n : Int) + (k : Int)), .int .i64 ((k : Int) + 1), .int .i64 0, .int .u32 0] 38)).ownsRow w.heap.size 38 5 (.slice ao k cap) k (dc l)) := row_keep HR.out.2.2.1 fun b hb => B7.block b (HR.out.2.2.1.lt b hb).2
            have N7 : Hid (∀ (j : Nat) q, ([.int .i64 0, .int .i64 ((n : Int) + (k : Int)), .int .i64 ((k : Int) + 1), .int .i64 0, .int .u32 0] : List Value)[j]? = some q → ((wr.alloc (.cells #[.int .i64 0, .int .i64 4, .int .i64 0, .int .i64 5] 3)).alloc (.cells #[.int .i64 0, .int .i64 ((n : Int) + (k : Int)), .int .i64 ((k : Int) + 1), .int .i64 0, .int .u32 0] 38)).cell? ((⟨wr.heap.size + 1, 0, none⟩ : Addr).add j) = some q) := by
              intro j q hj
              have D7 : Fresh ((wr.alloc (.cells #[.int .i64 0, .int .i64 4, .int .i64 0, .int .i64 5] 3)).alloc (.cells #[.int .i64 0, .int .i64 ((n : Int) + (k : Int)), .int .i64 ((k : Int) + 1), .int .i64 0, .int .u32 0] 38)) (wr.heap.size + 1) #[.int .i64 0, .int .i64 ((n : Int) + (k : Int)), .int .i64 ((k : Int) + 1), .int .i64 0, .int .u32 0] 38 := Fresh.new _ _ _ _ (by simp)
              rw [Addr.add_lit, Nat.zero_add, D7.cell j]
              simpa using hj
            have S7 : Hid (w.heap.size ≤ ((wr.alloc (.cells #[.int .i64 0, .int .i64 4, .int .i64 0, .int .i64 5] 3)).alloc (.cells #[.int .i64 0, .int .i64 ((n : Int) + (k : Int)), .int .i64 ((k : Int) + 1), .int .i64 0, .int .u32 0] 38)).heap.size) := by have := HR.out.2.2.2.size; show _ ≤ _; simp; omega
            have HB7 := Lib.hid B7
            clear B7
            go_wp2_with (at_builtin; refine wpList_append_own _ rfl (.tmp 26) (.tmp 41) 22 rfl w.heap.size 38 iD (.agg #[.int .i64 0, .int .i64 0, .int .i64 0, .int .i64 0, .int .u32 0]) 5 40 Try.underlying22 HJD.out.1 HJD.out.2.1 HJD.out.2.2.1 HJD.out.2.2.2 rfl (by omega) (.slice ao k cap) k (dc l) rfl o7.out ⟨wr.heap.size + 1, 0, none⟩ 1 1 [.int .i64 0, .int .i64 ((n : Int) + (k : Int)), .int .i64 ((k : Int) + 1), .int .i64 0, .int .u32 0] rfl rfl N7.out (by intro u hu; simp at hu; rcases hu with rfl | rfl | rfl | rfl | rfl <;> rfl) (by unfold maxLen; omega) (by omega) S7.out ?_)
            intro v8 w8 hown hgrow hnn
            obtain ⟨a8, c8, rfl⟩ := row_form hown
            have B8 : Below w.heap.size w w8 := (HR.out.2.2.2.trans (HB7.out.mono HR.out.2.2.2.size)).grown hgrow (by have := S7.out; exact this) (fun b hb => (o7.out.lt b hb).1)
            have H8 : Hid ((l ++ [(⟨0, (n : Int) + (k : Int), (k : Int) + 1, 0, 0⟩ : Dd)]).length = k + 1 ∧ (∀ d ∈ l ++ [(⟨0, (n : Int) + (k : Int), (k : Int) + 1, 0, 0⟩ : Dd)], d.ok) ∧ w8.ownsRow w.heap.size 38 5 (.slice a8 (k + 1) c8) (k + 1) (dc (l ++ [(⟨0, (n : Int) + (k : Int), (k : Int) + 1, 0, 0⟩ : Dd)])) ∧ Below w.heap.size w w8) := by
              refine ⟨by rw [List.length_append, HR.out.1]; rfl, ?_, by rw [dc_append]; exact hown, B8⟩
              intro d hd
              rcases List.mem_append.1 hd with hd | hd
              · exact HR.out.2.1 d hd
              · rw [List.mem_singleton] at hd; subst hd; exact (HST.out _ (by omega)).out
            clear hown hgrow hnn B8 hx
            go_wp2_with fail
            go_roundw
            case rel => exact ⟨k + 1, _, a8, c8, by omega, by first | rfl | go_num, rfl, H8.out.1, H8.out.2.1, H8.out.2.2.1, H8.out.2.2.2⟩
            case measure => simp [intOf]; omega
          · have B7 : Below wr.heap.size wr ((wr.alloc (.cells #[.int .i64 0, .int .i64 4, .int .i64 0, .int .i64 5] 3)).alloc (.cells #[.int .i64 4, .int .i64 ((n : Int) + (k : Int)), .int .i64 ((k : Int) + 1), .int .i64 0, .int .u32 0] 38)) := Below.new (Below.new (Below.refl _ _) _) _
            have o7 : Hid (((wr.alloc (.cells #[.int .i64 0, .int .i64 4, .int .i64 0, .int .i64 5] 3)).alloc (.cells #[.int .i64 4, .int .i64 ((n : Int) + (k : Int)), .int .i64 ((k : Int) + 1), .int .i64 0, .int .u32 0] 38)).ownsRow w.heap.size 38 5 (.slice ao k cap) k (dc l)) := row_keep HR.out.2.2.1 fun b hb => B7.block b (HR.out.2.2.1.lt b hb).2
            have N7 : Hid (∀ (j : Nat) q, ([.int .i64 4, .int .i64 ((n : Int) + (k : Int)), .int .i64 ((k : Int) + 1), .int .i64 0, .int .u32 0] : List Value)[j]? = some q → ((wr.alloc (.cells #[.int .i64 0, .int .i64 4, .int .i64 0, .int .i64 5] 3)).alloc (.cells #[.int .i64 4, .int .i64 ((n : Int) + (k : Int)), .int .i64 ((k : Int) + 1), .int .i64 0, .int .u32 0] 38)).cell? ((⟨wr.heap.size + 1, 0, none⟩ : Addr).add j) = some q) := by
              intro j q hj
              have D7 : Fresh ((wr.alloc (.cells #[.int .i64 0, .int .i64 4, .int .i64 0, .int .i64 5] 3)).alloc (.cells #[.int .i64 4, .int .i64 ((n : Int) + (k : Int)), .int .i64 ((k : Int) + 1), .int .i64 0, .int .u32 0] 38)) (wr.heap.size + 1) #[.int .i64 4, .int .i64 ((n : Int) + (k : Int)), .int .i64 ((k : Int) + 1), .int .i64 0, .int .u32 0] 38 := Fresh.new _ _ _ _ (by simp)
              rw [Addr.add_lit, Nat.zero_add, D7.cell j]
              simpa using hj
            have S7 : Hid (w.heap.size ≤ ((wr.alloc (.cells #[.int .i64 0, .int .i64 4, .int .i64 0, .int .i64 5] 3)).alloc (.cells #[.int .i64 4, .int .i64 ((n : Int) + (k : Int)), .int .i64 ((k : Int) + 1), .int .i64 0, .int .u32 0] 38)).heap.size) := by have := HR.out.2.2.2.size; show _ ≤ _; simp; omega
            have HB7 := Lib.hid B7
            clear B7
            go_wp2_with (at_builtin; refine wpList_append_own _ rfl (.tmp 26) (.tmp 41) 22 rfl w.heap.size 38 iD (.agg #[.int .i64 0, .int .i64 0, .int .i64 0, .int .i64 0, .int .u32 0]) 5 40 Try.underlying22 HJD.out.1 HJD.out.2.1 HJD.out.2.2.1 HJD.out.2.2.2 rfl (by omega) (.slice ao k cap) k (dc l) rfl o7.out ⟨wr.heap.size + 1, 0, none⟩ 1 1 [.int .i64 4, .int .i64 ((n : Int) + (k : Int)), .int .i64 ((k : Int) + 1), .int .i64 0, .int .u32 0] rfl rfl N7.out (by intro u hu; simp at hu; rcases hu with rfl | rfl | rfl | rfl | rfl <;> rfl) (by unfold maxLen; omega) (by omega) S7.out ?_)
            intro v8 w8 hown hgrow hnn
            obtain ⟨a8, c8, rfl⟩ := row_form hown
            have B8 : Below w.heap.size w w8 := (HR.out.2.2.2.trans (HB7.out.mono HR.out.2.2.2.size)).grown hgrow (by have := S7.out; exact this) (fun b hb => (o7.out.lt b hb).1)
            have H8 : Hid ((l ++ [(⟨4, (n : Int) + (k : Int), (k : Int) + 1, 0, 0⟩ : Dd)]).length = k + 1 ∧ (∀ d ∈ l ++ [(⟨4, (n : Int) + (k : Int), (k : Int) + 1, 0, 0⟩ : Dd)], d.ok) ∧ w8.ownsRow w.heap.size 38 5 (.slice a8 (k + 1) c8) (k + 1) (dc (l ++ [(⟨4, (n : Int) + (k : Int), (k : Int) + 1, 0, 0⟩ : Dd)])) ∧ Below w.heap.size w w8) := by
              refine ⟨by rw [List.length_append, HR.out.1]; rfl, ?_, by rw [dc_append]; exact hown, B8⟩
              intro d hd
              rcases List.mem_append.1 hd with hd | hd
              · exact HR.out.2.1 d hd
              · rw [List.mem_singleton] at hd; subst hd; exact (HST.out _ (by omega)).out
            clear hown hgrow hnn B8 hx
            go_wp2_with fail
            go_roundw
            case rel => exact ⟨k + 1, _, a8, c8, by omega, by first | rfl | go_num, rfl, H8.out.1, H8.out.2.1, H8.out.2.2.1, H8.out.2.2.2⟩
            case measure => simp [intOf]; omega
          · have B7 : Below wr.heap.size wr ((wr.alloc (.cells #[.int .i64 0, .int .i64 4, .int .i64 0, .int .i64 5] 3)).alloc (.cells #[.int .i64 0, .int .i64 ((n : Int) + (k : Int)), .int .i64 ((k : Int) + 1), .int .i64 0, .int .u32 0] 38)) := Below.new (Below.new (Below.refl _ _) _) _
            have o7 : Hid (((wr.alloc (.cells #[.int .i64 0, .int .i64 4, .int .i64 0, .int .i64 5] 3)).alloc (.cells #[.int .i64 0, .int .i64 ((n : Int) + (k : Int)), .int .i64 ((k : Int) + 1), .int .i64 0, .int .u32 0] 38)).ownsRow w.heap.size 38 5 (.slice ao k cap) k (dc l)) := row_keep HR.out.2.2.1 fun b hb => B7.block b (HR.out.2.2.1.lt b hb).2
            have N7 : Hid (∀ (j : Nat) q, ([.int .i64 0, .int .i64 ((n : Int) + (k : Int)), .int .i64 ((k : Int) + 1), .int .i64 0, .int .u32 0] : List Value)[j]? = some q → ((wr.alloc (.cells #[.int .i64 0, .int .i64 4, .int .i64 0, .int .i64 5] 3)).alloc (.cells #[.int .i64 0, .int .i64 ((n : Int) + (k : Int)), .int .i64 ((k : Int) + 1), .int .i64 0, .int .u32 0] 38)).cell? ((⟨wr.heap.size + 1, 0, none⟩ : Addr).add j) = some q) := by
              intro j q hj
              have D7 : Fresh ((wr.alloc (.cells #[.int .i64 0, .int .i64 4, .int .i64 0, .int .i64 5] 3)).alloc (.cells #[.int .i64 0, .int .i64 ((n : Int) + (k : Int)), .int .i64 ((k : Int) + 1), .int .i64 0, .int .u32 0] 38)) (wr.heap.size + 1) #[.int .i64 0, .int .i64 ((n : Int) + (k : Int)), .int .i64 ((k : Int) + 1), .int .i64 0, .int .u32 0] 38 := Fresh.new _ _ _ _ (by simp)
              rw [Addr.add_lit, Nat.zero_add, D7.cell j]
              simpa using hj
            have S7 : Hid (w.heap.size ≤ ((wr.alloc (.cells #[.int .i64 0, .int .i64 4, .int .i64 0, .int .i64 5] 3)).alloc (.cells #[.int .i64 0, .int .i64 ((n : Int) + (k : Int)), .int .i64 ((k : Int) + 1), .int .i64 0, .int .u32 0] 38)).heap.size) := by have := HR.out.2.2.2.size; show _ ≤ _; simp; omega
            have HB7 := Lib.hid B7
            clear B7
            go_wp2_with (at_builtin; refine wpList_append_own _ rfl (.tmp 26) (.tmp 41) 22 rfl w.heap.size 38 iD (.agg #[.int .i64 0, .int .i64 0, .int .i64 0, .int .i64 0, .int .u32 0]) 5 40 Try.underlying22 HJD.out.1 HJD.out.2.1 HJD.out.2.2.1 HJD.out.2.2.2 rfl (by omega) (.slice ao k cap) k (dc l) rfl o7.out ⟨wr.heap.size + 1, 0, none⟩ 1 1 [.int .i64 0, .int .i64 ((n : Int) + (k : Int)), .int .i64 ((k : Int) + 1), .int .i64 0, .int .u32 0] rfl rfl N7.out (by intro u hu; simp at hu; rcases hu with rfl | rfl | rfl | rfl | rfl <;> rfl) (by unfold maxLen; omega) (by omega) S7.out ?_)
            intro v8 w8 hown hgrow hnn
            obtain ⟨a8, c8, rfl⟩ := row_form hown
            have B8 : Below w.heap.size w w8 := (HR.out.2.2.2.trans (HB7.out.mono HR.out.2.2.2.size)).grown hgrow (by have := S7.out; exact this) (fun b hb => (o7.out.lt b hb).1)
            have H8 : Hid ((l ++ [(⟨0, (n : Int) + (k : Int), (k : Int) + 1, 0, 0⟩ : Dd)]).length = k + 1 ∧ (∀ d ∈ l ++ [(⟨0, (n : Int) + (k : Int), (k : Int) + 1, 0, 0⟩ : Dd)], d.ok) ∧ w8.ownsRow w.heap.size 38 5 (.slice a8 (k + 1) c8) (k + 1) (dc (l ++ [(⟨0, (n : Int) + (k : Int), (k : Int) + 1, 0, 0⟩ : Dd)])) ∧ Below w.heap.size w w8) := by
              refine ⟨by rw [List.length_append, HR.out.1]; rfl, ?_, by rw [dc_append]; exact hown, B8⟩
              intro d hd
              rcases List.mem_append.1 hd with hd | hd
              · exact HR.out.2.1 d hd
              · rw [List.mem_singleton] at hd; subst hd; exact (HST.out _ (by omega)).out
            clear hown hgrow hnn B8 hx
            go_wp2_with fail
            go_roundw
            case rel => exact ⟨k + 1, _, a8, c8, by omega, by first | rfl | go_num, rfl, H8.out.1, H8.out.2.1, H8.out.2.2.1, H8.out.2.2.2⟩
            case measure => simp [intOf]; omega
          · have B7 : Below wr.heap.size wr ((wr.alloc (.cells #[.int .i64 0, .int .i64 4, .int .i64 0, .int .i64 5] 3)).alloc (.cells #[.int .i64 5, .int .i64 ((n : Int) + (k : Int)), .int .i64 ((k : Int) + 1), .int .i64 0, .int .u32 0] 38)) := Below.new (Below.new (Below.refl _ _) _) _
            have o7 : Hid (((wr.alloc (.cells #[.int .i64 0, .int .i64 4, .int .i64 0, .int .i64 5] 3)).alloc (.cells #[.int .i64 5, .int .i64 ((n : Int) + (k : Int)), .int .i64 ((k : Int) + 1), .int .i64 0, .int .u32 0] 38)).ownsRow w.heap.size 38 5 (.slice ao k cap) k (dc l)) := row_keep HR.out.2.2.1 fun b hb => B7.block b (HR.out.2.2.1.lt b hb).2
            have N7 : Hid (∀ (j : Nat) q, ([.int .i64 5, .int .i64 ((n : Int) + (k : Int)), .int .i64 ((k : Int) + 1), .int .i64 0, .int .u32 0] : List Value)[j]? = some q → ((wr.alloc (.cells #[.int .i64 0, .int .i64 4, .int .i64 0, .int .i64 5] 3)).alloc (.cells #[.int .i64 5, .int .i64 ((n : Int) + (k : Int)), .int .i64 ((k : Int) + 1), .int .i64 0, .int .u32 0] 38)).cell? ((⟨wr.heap.size + 1, 0, none⟩ : Addr).add j) = some q) := by
              intro j q hj
              have D7 : Fresh ((wr.alloc (.cells #[.int .i64 0, .int .i64 4, .int .i64 0, .int .i64 5] 3)).alloc (.cells #[.int .i64 5, .int .i64 ((n : Int) + (k : Int)), .int .i64 ((k : Int) + 1), .int .i64 0, .int .u32 0] 38)) (wr.heap.size + 1) #[.int .i64 5, .int .i64 ((n : Int) + (k : Int)), .int .i64 ((k : Int) + 1), .int .i64 0, .int .u32 0] 38 := Fresh.new _ _ _ _ (by simp)
              rw [Addr.add_lit, Nat.zero_add, D7.cell j]
              simpa using hj
            have S7 : Hid (w.heap.size ≤ ((wr.alloc (.cells #[.int .i64 0, .int .i64 4, .int .i64 0, .int .i64 5] 3)).alloc (.cells #[.int .i64 5, .int .i64 ((n : Int) + (k : Int)), .int .i64 ((k : Int) + 1), .int .i64 0, .int .u32 0] 38)).heap.size) := by have := HR.out.2.2.2.size; show _ ≤ _; simp; omega
            have HB7 := Lib.hid B7
            clear B7
            go_wp2_with (at_builtin; refine wpList_append_own _ rfl (.tmp 26) (.tmp 41) 22 rfl w.heap.size 38 iD (.agg #[.int .i64 0, .int .i64 0, .int .i64 0, .int .i64 0, .int .u32 0]) 5 40 Try.underlying22 HJD.out.1 HJD.out.2.1 HJD.out.2.2.1 HJD.out.2.2.2 rfl (by omega) (.slice ao k cap) k (dc l) rfl o7.out ⟨wr.heap.size + 1, 0, none⟩ 1 1 [.int .i64 5, .int .i64 ((n : Int) + (k : Int)), .int .i64 ((k : Int) + 1), .int .i64 0, .int .u32 0] rfl rfl N7.out (by intro u hu; simp at hu; rcases hu with rfl | rfl | rfl | rfl | rfl <;> rfl) (by unfold maxLen; omega) (by omega) S7.out ?_)
            intro v8 w8 hown hgrow hnn
            obtain ⟨a8, c8, rfl⟩ := row_form hown
            have B8 : Below w.heap.size w w8 := (HR.out.2.2.2.trans (HB7.out.mono HR.out.2.2.2.size)).grown hgrow (by have := S7.out; exact this) (fun b hb => (o7.out.lt b hb).1)
            have H8 : Hid ((l ++ [(⟨5, (n : Int) + (k : Int), (k : Int) + 1, 0, 0⟩ : Dd)]).length = k + 1 ∧ (∀ d ∈ l ++ [(⟨5, (n : Int) + (k : Int), (k : Int) + 1, 0, 0⟩ : Dd)], d.ok) ∧ w8.ownsRow w.heap.size 38 5 (.slice a8 (k + 1) c8) (k + 1) (dc (l ++ [(⟨5, (n : Int) + (k : Int), (k : Int) + 1, 0, 0⟩ : Dd)])) ∧ Below w.heap.size w w8) := by
              refine ⟨by rw [List.length_append, HR.out.1]; rfl, ?_, by rw [dc_append]; exact hown, B8⟩
              intro d hd
              rcases List.mem_append.1 hd with hd | hd
              · exact HR.out.2.1 d hd
              · rw [List.mem_singleton] at hd; subst hd; exact (HST.out _ (by omega)).out
            clear hown hgrow hnn B8 hx
            go_wp2_with fail
            go_roundw
            case rel => exact ⟨k + 1, _, a8, c8, by omega, by first | rfl | go_num, rfl, H8.out.1, H8.out.2.1, H8.out.2.2.1, H8.out.2.2.2⟩
            case measure => simp [intOf]; omega
        · obtain rfl : k = 6 := by omega
          have k1 : ¬ ((6 : Nat) : Int) < 6 := by decide
          have HR := Lib.hid (⟨hll, hok, hrow, hB⟩ : _ ∧ _ ∧ _ ∧ _)
          clear hll hok hrow hB hlt2 hk
          have B7 : Below wr.heap.size wr (wr.alloc (.cells #[.int .i64 6, .int .i64 0, .int .i64 0, .int .i64 0, .int .u32 0] 38)) := Below.new (Below.refl _ _) _
          have o7 : Hid ((wr.alloc (.cells #[.int .i64 6, .int .i64 0, .int .i64 0, .int .i64 0, .int .u32 0] 38)).ownsRow w.heap.size 38 5 (.slice ao 6 cap) 6 (dc l)) := row_keep HR.out.2.2.1 fun b hb => B7.block b (HR.out.2.2.1.lt b hb).2
          have N7 : Hid (∀ (j : Nat) q, ([.int .i64 6, .int .i64 0, .int .i64 0, .int .i64 0, .int .u32 0] : List Value)[j]? = some q → (wr.alloc (.cells #[.int .i64 6, .int .i64 0, .int .i64 0, .int .i64 0, .int .u32 0] 38)).cell? ((⟨wr.heap.size, 0, none⟩ : Addr).add j) = some q) := by
            intro j q hj
            have D7 : Fresh (wr.alloc (.cells #[.int .i64 6, .int .i64 0, .int .i64 0, .int .i64 0, .int .u32 0] 38)) (wr.heap.size) #[.int .i64 6, .int .i64 0, .int .i64 0, .int .i64 0, .int .u32 0] 38 := Fresh.new _ _ _ _ (by simp)
            rw [Addr.add_lit, Nat.zero_add, D7.cell j]
            simpa using hj
          have S7 : Hid (w.heap.size ≤ (wr.alloc (.cells #[.int .i64 6, .int .i64 0, .int .i64 0, .int .i64 0, .int .u32 0] 38)).heap.size) := by have := HR.out.2.2.2.size; show _ ≤ _; simp; omega
          have HB7 := Lib.hid B7
          clear B7
          go_wp2_with (at_builtin; refine wpList_append_own _ rfl (.tmp 43) (.tmp 45) 22 rfl w.heap.size 38 iD (.agg #[.int .i64 0, .int .i64 0, .int .i64 0, .int .i64 0, .int .u32 0]) 5 40 Try.underlying22 HJD.out.1 HJD.out.2.1 HJD.out.2.2.1 HJD.out.2.2.2 rfl (by omega) (.slice ao 6 cap) 6 (dc l) rfl o7.out ⟨wr.heap.size, 0, none⟩ 1 1 [.int .i64 6, .int .i64 0, .int .i64 0, .int .i64 0, .int .u32 0] rfl rfl N7.out (by intro u hu; simp at hu; rcases hu with rfl | rfl | rfl | rfl | rfl <;> rfl) (by unfold maxLen; omega) (by omega) S7.out ?_)
          intro v8 w8 hown hgrow hnn
          obtain ⟨a8, c8, rfl⟩ := row_form hown
          have B8 : Below w.heap.size w w8 := (HR.out.2.2.2.trans (HB7.out.mono HR.out.2.2.2.size)).grown hgrow (by have := S7.out; exact this) (fun b hb => (o7.out.lt b hb).1)
          have HID : Hid (IsDeeds w8 a8 7) := deeds_of_row (l := l ++ [(⟨6, 0, 0, 0, 0⟩ : Dd)]) (by rw [dc_append]; exact hown) (by rw [List.length_append, HR.out.1]; rfl) (by
            intro d hd
            rcases List.mem_append.1 hd with hd | hd
            · exact HR.out.2.1 d hd
            · rw [List.mem_singleton] at hd; subst hd; exact ok_small _ _ _ _ _ (by omega) (by omega) (by omega) (by unfold I64; omega) (by omega)) (by omega)
          have HB8 := Lib.hid B8
          clear hown hgrow hnn B8
          go_wp2_with fail
          refine (slabDoes_any 2 a8 7 c8 w8 (by unfold I64; omega) HID.out).mono ?_
          rintro e w9 ⟨rfl, hb9⟩
          have HB9 := Lib.hid (HB8.out.trans (hb9.mono HB8.out.size))
          clear hb9
          go_wp2_with fail
          go_roundw
          case rel => exact ⟨n + 1, by omega, by first | rfl | go_num, HB9.out⟩
          case measure => simp [intOf]; omega
    · obtain rfl : n = 4096 := by omega
      have n1 : ¬ ((4096 : Nat) : Int) < 4096 := by decide
      have HB := Lib.hid hB
      clear hB hlt hn
      go_wp2_with fail
      obtain ⟨V, hV⟩ : ∃ V, V = wr.alloc (.cells #[.int .i64 (-9223372036854775808), .int .i64 (-1), .int .i64 0, .int .i64 1, .int .i64 2, .int .i64 3, .int .i64 9223372036854775807] 3) := ⟨_, rfl⟩
      rw [← hV]
      obtain ⟨g7, hg7⟩ : ∃ g7, g7 = wr.heap.size := ⟨_, rfl⟩
      rw [← hg7]
      have HF7 : Hid (Fresh V g7 #[.int .i64 (-9223372036854775808), .int .i64 (-1), .int .i64 0, .int .i64 1, .int .i64 2, .int .i64 3, .int .i64 9223372036854775807] 3) := by show Fresh _ _ _ _; rw [hV]; exact Fresh.new _ _ _ _ hg7.symm
      have HBV : Hid (Below w.heap.size w V) := by show Below _ _ _; rw [hV]; exact HB.out.alloc HB.out.size _
      have HEND : Hid (∀ i : Nat, i < 7 → ∃ e : Int, I64 e ∧ ∀ W', Below V.heap.size V W' → W'.cell? ⟨g7, i, none⟩ = some (.int .i64 e)) := by
        intro i hi
        rcases (show i = 0 ∨ i = 1 ∨ i = 2 ∨ i = 3 ∨ i = 4 ∨ i = 5 ∨ i = 6 by omega) with rfl | rfl | rfl | rfl | rfl | rfl | rfl
        all_goals exact ⟨_, by unfold I64; omega, fun W' hb => (HF7.out.below hb).cell _⟩
      clear hV hg7 n1 n0
      go_loopw [5] (fun iv wq => ∃ i : Nat, i ≤ 7 ∧ iv = .int .i64 i ∧ Below V.heap.size V wq) (fun iv _ => 7 - (intOf iv).toNat)
      case atStart => exact ⟨0, by omega, rfl, Below.refl _ _⟩
      case round =>
        obtain ⟨i, hi, rfl, hBi⟩ := hrel
        have i0 : (0 : Int) ≤ (i : Int) := by omega
        by_cases hlt : i < 7
        · have i1 : (i : Int) < 7 := by omega
          obtain ⟨ei, hei, hce⟩ := HEND.out i hlt
          have HI := Lib.hid (⟨hlt, hei, hce⟩ : _ ∧ _ ∧ _)
          have HBi := Lib.hid hBi
          obtain ⟨Vi, hVi⟩ : ∃ V, V = wr := ⟨_, rfl⟩
          clear hlt hei hce hBi
          subst hVi
          go_wp2_with fail
          go_loopw [6] (fun kv wq => ∃ k : Nat, k ≤ 7 ∧ kv = .int .i64 k ∧ Below V.heap.size V wq) (fun kv _ => 7 - (intOf kv).toNat)
          case atStart => exact ⟨0, by omega, rfl, HBi.out⟩
          case round =>
            obtain ⟨k, hk, rfl, hBk⟩ := hrel
            have k0 : (0 : Int) ≤ (k : Int) := by omega
            by_cases hlt : k < 7
            · have k1 : (k : Int) < 7 := by omega
              obtain ⟨ek, hek, hck⟩ := HEND.out k hlt
              have ci := HI.out.2.2 _ hBk
              have ck := hck _ hBk
              have i9 : decide (i < 7) = true := decide_eq_true HI.out.1
              have k9 : decide (k < 7) = true := decide_eq_true hlt
              have kw : IntKind.u32.wrap (k : Int) = (k : Int) := IntWalk.u32_in _ (by omega)
              have HK := Lib.hid (⟨hlt, hek, hck, hBk⟩ : _ ∧ _ ∧ _ ∧ _)
              clear hlt hek hck hBk
              go_wp2_with fail
              obtain ⟨X, hX⟩ : ∃ X, X = wr.alloc (.cells #[.int .i64 ei, .int .u32 (k : Int)] 36) := ⟨_, rfl⟩
              rw [← hX]
              have FX : Fresh X wr.heap.size #[.int .i64 ei, .int .u32 (k : Int)] 36 := by rw [hX]; exact Fresh.new _ _ _ _ rfl
              have BX : Below wr.heap.size wr X := by rw [hX]; exact Below.new (Below.refl _ _) _
              have HBX : Hid (Below V.heap.size V X) := by show Below _ _ _; exact HK.out.2.2.2.trans (BX.mono HK.out.2.2.2.size)
              have x0 := FX.cell 0
              have x1 := FX.cell 1
              simp only [List.getElem?_toArray, List.getElem?_cons_zero, List.getElem?_cons_succ] at x0 x1
              have xk := HK.out.2.2.1 _ HBX.out
              have HID : Hid (IsDeeds (X.drew.alloc (.cells #[.int .i64 0, .int .i64 0, .int .i64 1, .int .i64 0, .int .u32 0, .int .i64 0, .int .i64 0, .int .i64 2, .int .i64 0, .int .u32 0, .int .i64 2, .int .i64 0, .int .i64 0, .int .i64 ei, .int .u32 (k : Int), .int .i64 3, .int .i64 0, .int .i64 5, .int .i64 ei, .int .u32 (k : Int), .int .i64 0, .int .i64 0, .int .i64 3, .int .i64 0, .int .u32 0, .int .i64 2, .int .i64 0, .int .i64 0, .int .i64 ei, .int .u32 (k : Int)] 38)) (some ⟨X.heap.size, 0, none⟩) 6) := by
                have hf : Fresh (X.drew.alloc (.cells #[.int .i64 0, .int .i64 0, .int .i64 1, .int .i64 0, .int .u32 0, .int .i64 0, .int .i64 0, .int .i64 2, .int .i64 0, .int .u32 0, .int .i64 2, .int .i64 0, .int .i64 0, .int .i64 ei, .int .u32 (k : Int), .int .i64 3, .int .i64 0, .int .i64 5, .int .i64 ei, .int .u32 (k : Int), .int .i64 0, .int .i64 0, .int .i64 3, .int .i64 0, .int .u32 0, .int .i64 2, .int .i64 0, .int .i64 0, .int .i64 ei, .int .u32 (k : Int)] 38)) X.heap.size #[.int .i64 0, .int .i64 0, .int .i64 1, .int .i64 0, .int .u32 0, .int .i64 0, .int .i64 0, .int .i64 2, .int .i64 0, .int .u32 0, .int .i64 2, .int .i64 0, .int .i64 0, .int .i64 ei, .int .u32 (k : Int), .int .i64 3, .int .i64 0, .int .i64 5, .int .i64 ei, .int .u32 (k : Int), .int .i64 0, .int .i64 0, .int .i64 3, .int .i64 0, .int .u32 0, .int .i64 2, .int .i64 0, .int .i64 0, .int .i64 ei, .int .u32 (k : Int)] 38 := Fresh.new _ _ _ _ rfl
                refine deeds_of_cells (l := [(⟨0, 0, 1, 0, 0⟩ : Dd), ⟨0, 0, 2, 0, 0⟩, ⟨2, 0, 0, ei, (k : Int)⟩, ⟨3, 0, 5, ei, (k : Int)⟩, ⟨0, 0, 3, 0, 0⟩, ⟨2, 0, 0, ei, (k : Int)⟩]) rfl ?_ (by omega) hf.lt (fun j v hj => (hf.cell j).trans (by simpa [dc] using hj))
                intro d hd
                have hk := HK.out.1
                simp only [List.mem_cons, List.not_mem_nil, or_false] at hd
                rcases hd with rfl | rfl | rfl | rfl | rfl | rfl
                all_goals exact ok_small _ _ _ _ _ (by omega) (by omega) (by omega) (by first | exact HI.out.2.1 | (unfold I64; omega)) (by omega)
              have HBD : Hid (Below V.heap.size V (X.drew.alloc (.cells #[.int .i64 0, .int .i64 0, .int .i64 1, .int .i64 0, .int .u32 0, .int .i64 0, .int .i64 0, .int .i64 2, .int .i64 0, .int .u32 0, .int .i64 2, .int .i64 0, .int .i64 0, .int .i64 ei, .int .u32 (k : Int), .int .i64 3, .int .i64 0, .int .i64 5, .int .i64 ei, .int .u32 (k : Int), .int .i64 0, .int .i64 0, .int .i64 3, .int .i64 0, .int .u32 0, .int .i64 2, .int .i64 0, .int .i64 0, .int .i64 ei, .int .u32 (k : Int)] 38))) := by show Below _ _ _; exact (HBX.out.drew).alloc HBX.out.size _
              have HEK : Hid (I64 ek) := HK.out.2.1
              have LX : Hid (wr.heap.size < X.heap.size) := FX.lt
              clear hX FX BX ci ck
              have y0 : (X.drew.alloc (.cells #[.int .i64 0, .int .i64 0, .int .i64 1, .int .i64 0, .int .u32 0, .int .i64 0, .int .i64 0, .int .i64 2, .int .i64 0, .int .u32 0, .int .i64 2, .int .i64 0, .int .i64 0, .int .i64 ei, .int .u32 (k : Int), .int .i64 3, .int .i64 0, .int .i64 5, .int .i64 ei, .int .u32 (k : Int), .int .i64 0, .int .i64 0, .int .i64 3, .int .i64 0, .int .u32 0, .int .i64 2, .int .i64 0, .int .i64 0, .int .i64 ei, .int .u32 (k : Int)] 38)).cell? ⟨g7, k, none⟩ = some (.int .i64 ek) := HK.out.2.2.1 _ HBD.out
              have hbx : Below X.heap.size X (X.drew.alloc (.cells #[.int .i64 0, .int .i64 0, .int .i64 1, .int .i64 0, .int .u32 0, .int .i64 0, .int .i64 0, .int .i64 2, .int .i64 0, .int .u32 0, .int .i64 2, .int .i64 0, .int .i64 0, .int .i64 ei, .int .u32 (k : Int), .int .i64 3, .int .i64 0, .int .i64 5, .int .i64 ei, .int .u32 (k : Int), .int .i64 0, .int .i64 0, .int .i64 3, .int .i64 0, .int .u32 0, .int .i64 2, .int .i64 0, .int .i64 0, .int .i64 ei, .int .u32 (k : Int)] 38)) := ((Below.refl _ X).drew).alloc (Nat.le_refl _) _
              have lx : wr.heap.size < X.heap.size := LX.out
              have y1 : (X.drew.alloc (.cells #[.int .i64 0, .int .i64 0, .int .i64 1, .int .i64 0, .int .u32 0, .int .i64 0, .int .i64 0, .int .i64 2, .int .i64 0, .int .u32 0, .int .i64 2, .int .i64 0, .int .i64 0, .int .i64 ei, .int .u32 (k : Int), .int .i64 3, .int .i64 0, .int .i64 5, .int .i64 ei, .int .u32 (k : Int), .int .i64 0, .int .i64 0, .int .i64 3, .int .i64 0, .int .u32 0, .int .i64 2, .int .i64 0, .int .i64 0, .int .i64 ei, .int .u32 (k : Int)] 38)).cell? ⟨wr.heap.size, 0, none⟩ = some (.int .i64 ei) := (hbx.cell (p := ⟨wr.heap.size, 0, none⟩) lx).trans x0
              have y2 : (X.drew.alloc (.cells #[.int .i64 0, .int .i64 0, .int .i64 1, .int .i64 0, .int .u32 0, .int .i64 0, .int .i64 0, .int .i64 2, .int .i64 0, .int .u32 0, .int .i64 2, .int .i64 0, .int .i64 0, .int .i64 ei, .int .u32 (k : Int), .int .i64 3, .int .i64 0, .int .i64 5, .int .i64 ei, .int .u32 (k : Int), .int .i64 0, .int .i64 0, .int .i64 3, .int .i64 0, .int .u32 0, .int .i64 2, .int .i64 0, .int .i64 0, .int .i64 ei, .int .u32 (k : Int)] 38)).cell? ⟨wr.heap.size, 1, none⟩ = some (.int .u32 (k : Int)) := (hbx.cell (p := ⟨wr.heap.size, 1, none⟩) lx).trans x1
              have lw : wr.heap.size < (X.drew.alloc (.cells #[.int .i64 0, .int .i64 0, .int .i64 1, .int .i64 0, .int .u32 0, .int .i64 0, .int .i64 0, .int .i64 2, .int .i64 0, .int .u32 0, .int .i64 2, .int .i64 0, .int .i64 0, .int .i64 ei, .int .u32 (k : Int), .int .i64 3, .int .i64 0, .int .i64 5, .int .i64 ei, .int .u32 (k : Int), .int .i64 0, .int .i64 0, .int .i64 3, .int .i64 0, .int .u32 0, .int .i64 2, .int .i64 0, .int .i64 0, .int .i64 ei, .int .u32 (k : Int)] 38)).heap.size := by simp; omega
              have ly : g7 < (X.drew.alloc (.cells #[.int .i64 0, .int .i64 0, .int .i64 1, .int .i64 0, .int .u32 0, .int .i64 0, .int .i64 0, .int .i64 2, .int .i64 0, .int .u32 0, .int .i64 2, .int .i64 0, .int .i64 0, .int .i64 ei, .int .u32 (k : Int), .int .i64 3, .int .i64 0, .int .i64 5, .int .i64 ei, .int .u32 (k : Int), .int .i64 0, .int .i64 0, .int .i64 3, .int .i64 0, .int .u32 0, .int .i64 2, .int .i64 0, .int .i64 0, .int .i64 ei, .int .u32 (k : Int)] 38)).heap.size := by have h1 := HF7.out.lt; have h2 := HBD.out.size; omega
              clear hbx lx
              refine wp_region_held_drew (S := fun W' => W'.cell? ⟨g7, k, none⟩ = some (.int .i64 ek) ∧ W'.cell? ⟨wr.heap.size, 0, none⟩ = some (.int .i64 ei) ∧ W'.cell? ⟨wr.heap.size, 1, none⟩ = some (.int .u32 (k : Int))) (by kernel_rfl) ?_ (fun hHeld => ?_)
              · (try dsimp only)
                exact ⟨xk, x0, x1⟩
              refine wpAnyH_take (i := 0) (oi := ?_) (v := ?_) ?_ (by kernel_rfl) (by kernel_rfl) (by kernel_rfl) ?_ (Or.inl ⟨?_, ?_⟩) (by assumption) ?_
              rotate_left 2
              · simp only [List.getElem?_toArray, List.getElem?_cons_succ, List.getElem?_cons_zero] <;> rfl
              · exact fun _ _ _ h => h
              · rfl
              · (intro w hSw; (try dsimp only at hSw); go_simp; try (with_reducible rfl))
              try simp only [Act.put, List.setIfInBounds_toArray, List.set_cons_zero, List.set_cons_succ]
              refine wpAnyH_take (i := 1) (oi := ?_) (v := ?_) ?_ (by kernel_rfl) (by kernel_rfl) (by kernel_rfl) ?_ (Or.inl ⟨?_, ?_⟩) (by assumption) ?_
              rotate_left 2
              · simp only [List.getElem?_toArray, List.getElem?_cons_succ, List.getElem?_cons_zero] <;> rfl
              · exact fun _ _ _ h => h
              · rfl
              · (intro w hSw; (try dsimp only at hSw); go_simp; try (with_reducible rfl))
              try simp only [Act.put, List.setIfInBounds_toArray, List.set_cons_zero, List.set_cons_succ]
              refine wpAnyH_take (i := 2) (oi := ?_) (v := ?_) ?_ (by kernel_rfl) (by kernel_rfl) (by kernel_rfl) ?_ (Or.inl ⟨?_, ?_⟩) (by assumption) ?_
              rotate_left 2
              · simp only [List.getElem?_toArray, List.getElem?_cons_succ, List.getElem?_cons_zero] <;> rfl
              · exact fun _ _ _ h => h
              · rfl
              · (intro w hSw; (try dsimp only at hSw); go_simp; try (with_reducible rfl))
              try simp only [Act.put, List.setIfInBounds_toArray, List.set_cons_zero, List.set_cons_succ]
              refine wpAnyH_take (i := 3) (oi := ?_) (v := ?_) ?_ (by kernel_rfl) (by kernel_rfl) (by kernel_rfl) ?_ (Or.inl ⟨?_, ?_⟩) (by assumption) ?_
              rotate_left 2
              · simp only [List.getElem?_toArray, List.getElem?_cons_succ, List.getElem?_cons_zero] <;> rfl
              · exact fun _ _ _ h => h
              · rfl
              · (intro w hSw; (try dsimp only at hSw); go_simp; try (with_reducible rfl))
              try simp only [Act.put, List.setIfInBounds_toArray, List.set_cons_zero, List.set_cons_succ]
              refine wpAnyH_take (i := 4) (oi := ?_) (v := ?_) ?_ (by kernel_rfl) (by kernel_rfl) (by kernel_rfl) ?_ (Or.inl ⟨?_, ?_⟩) (by assumption) ?_
              rotate_left 2
              · simp only [List.getElem?_toArray, List.getElem?_cons_succ, List.getElem?_cons_zero] <;> rfl
              · exact fun _ _ _ h => h
              · rfl
              · (intro w hSw; (try dsimp only at hSw); go_simp; try (with_reducible rfl))
              try simp only [Act.put, List.setIfInBounds_toArray, List.set_cons_zero, List.set_cons_succ]
              refine wpAnyH_take (i := 5) (oi := ?_) (v := ?_) ?_ (by kernel_rfl) (by kernel_rfl) (by kernel_rfl) ?_ (Or.inl ⟨?_, ?_⟩) (by assumption) ?_
              rotate_left 2
              · simp only [List.getElem?_toArray, List.getElem?_cons_succ, List.getElem?_cons_zero] <;> rfl
              · exact fun _ _ _ h => h
              · rfl
              · (intro w hSw; (try dsimp only at hSw); go_simp; try (with_reducible rfl))
              try simp only [Act.put, List.setIfInBounds_toArray, List.set_cons_zero, List.set_cons_succ]
              refine wpAnyH_take (i := 6) (oi := ?_) (v := ?_) ?_ (by kernel_rfl) (by kernel_rfl) (by kernel_rfl) ?_ (Or.inl ⟨?_, ?_⟩) (by assumption) ?_
              rotate_left 2
              · simp only [List.getElem?_toArray, List.getElem?_cons_succ, List.getElem?_cons_zero] <;> rfl
              · exact fun _ _ _ h => h
              · rfl
              · (intro w hSw; (try dsimp only at hSw); go_simp; try (with_reducible rfl))
              try simp only [Act.put, List.setIfInBounds_toArray, List.set_cons_zero, List.set_cons_succ]
              refine wpAnyH_take (i := 7) (oi := ?_) (v := ?_) ?_ (by kernel_rfl) (by kernel_rfl) (by kernel_rfl) ?_ (Or.inl ⟨?_, ?_⟩) (by assumption) ?_
              rotate_left 2
              · simp only [List.getElem?_toArray, List.getElem?_cons_succ, List.getElem?_cons_zero] <;> rfl
              · exact fun _ _ _ h => h
              · rfl
              · (intro w hSw; (try dsimp only at hSw); go_simp; try (with_reducible rfl))
              try simp only [Act.put, List.setIfInBounds_toArray, List.set_cons_zero, List.set_cons_succ]
              refine wpAnyH_take (i := 8) (oi := ?_) (v := ?_) ?_ (by kernel_rfl) (by kernel_rfl) (by kernel_rfl) ?_ (Or.inl ⟨?_, ?_⟩) (by assumption) ?_
              rotate_left 2
              · simp only [List.getElem?_toArray, List.getElem?_cons_succ, List.getElem?_cons_zero] <;> rfl
              · exact fun _ _ _ h => h
              · rfl
              · (intro w hSw; (try dsimp only at hSw); go_simp; try (with_reducible rfl))
              try simp only [Act.put, List.setIfInBounds_toArray, List.set_cons_zero, List.set_cons_succ]
              refine wpAnyH_take (i := 9) (oi := ?_) (v := ?_) ?_ (by kernel_rfl) (by kernel_rfl) (by kernel_rfl) ?_ (Or.inl ⟨?_, ?_⟩) (by assumption) ?_
              rotate_left 2
              · simp only [List.getElem?_toArray, List.getElem?_cons_succ, List.getElem?_cons_zero] <;> rfl
              · exact fun _ _ _ h => h
              · rfl
              · (intro w hSw; (try dsimp only at hSw); go_simp; try (with_reducible rfl))
              try simp only [Act.put, List.setIfInBounds_toArray, List.set_cons_zero, List.set_cons_succ]
              refine wpAnyH_take (i := 10) (oi := ?_) (v := ?_) ?_ (by kernel_rfl) (by kernel_rfl) (by kernel_rfl) ?_ (Or.inl ⟨?_, ?_⟩) (by assumption) ?_
              rotate_left 2
              · simp only [List.getElem?_toArray, List.getElem?_cons_succ, List.getElem?_cons_zero] <;> rfl
              · exact fun _ _ _ h => h
              · rfl
              · (intro w hSw; (try dsimp only at hSw); go_simp; try (with_reducible rfl))
              try simp only [Act.put, List.setIfInBounds_toArray, List.set_cons_zero, List.set_cons_succ]
              refine wpAnyH_take (i := 11) (oi := ?_) (v := ?_) ?_ (by kernel_rfl) (by kernel_rfl) (by kernel_rfl) ?_ (Or.inl ⟨?_, ?_⟩) (by assumption) ?_
              rotate_left 2
              · simp only [List.getElem?_toArray, List.getElem?_cons_succ, List.getElem?_cons_zero] <;> rfl
              · exact fun _ _ _ h => h
              · rfl
              · (intro w hSw; (try dsimp only at hSw); go_simp; try (with_reducible rfl))
              try simp only [Act.put, List.setIfInBounds_toArray, List.set_cons_zero, List.set_cons_succ]
              refine wpAnyH_take (i := 12) (oi := ?_) (v := ?_) ?_ (by kernel_rfl) (by kernel_rfl) (by kernel_rfl) ?_ (Or.inl ⟨?_, ?_⟩) (by assumption) ?_
              rotate_left 2
              · simp only [List.getElem?_toArray, List.getElem?_cons_succ, List.getElem?_cons_zero] <;> rfl
              · exact fun _ _ _ h => h
              · rfl
              · (intro w hSw; (try dsimp only at hSw); go_simp; try (with_reducible rfl))
              try simp only [Act.put, List.setIfInBounds_toArray, List.set_cons_zero, List.set_cons_succ]
              refine wpAnyH_ready (rs := [13]) (by kernel_rfl) (by simp) ?_
              refine AllReadyH.cons (o := _) (by simp only [List.getElem?_toArray, List.getElem?_cons_succ, List.getElem?_cons_zero] <;> rfl) (fun K hK => ?_) ?_
              · go_simp
                refine hK.out _ _ ?_ (fun hHeld => ?_)
                · (try dsimp only)
                  exact ⟨y0, y1, y2⟩
                clear hK K
                try simp only [Act.put, List.setIfInBounds_toArray, List.set_cons_zero, List.set_cons_succ]
                refine wpAnyH_ready (rs := [14]) (by kernel_rfl) (by simp) ?_
                refine AllReadyH.cons (o := _) (by simp only [List.getElem?_toArray, List.getElem?_cons_succ, List.getElem?_cons_zero] <;> rfl) (fun K hK => ?_) ?_
                · go_simp
                  go_at_call 3
                  refine (slabDoes_any ek _ 6 6 _ HEK.out HID.out).mono ?_
                  rintro e w9 ⟨rfl, hb9⟩
                  have z0 := (hb9.cell (p := ⟨g7, k, none⟩) ly).trans y0
                  have z1 := (hb9.cell (p := ⟨wr.heap.size, 0, none⟩) lw).trans y1
                  have z2 := (hb9.cell (p := ⟨wr.heap.size, 1, none⟩) lw).trans y2
                  have HB9 := Lib.hid (HBD.out.trans (hb9.mono HBD.out.size))
                  clear hb9
                  go_wp2_with fail
                  refine hK.out _ _ ?_ (fun hHeld => ?_)
                  · (try dsimp only)
                    exact ⟨z0, z1, z2⟩
                  clear hK K
                  try simp only [Act.put, List.setIfInBounds_toArray, List.set_cons_zero, List.set_cons_succ]
                  refine wpAnyH_take (i := 15) (oi := ?_) (v := ?_) ?_ (by kernel_rfl) (by kernel_rfl) (by kernel_rfl) ?_ (Or.inl ⟨?_, ?_⟩) (by assumption) ?_
                  rotate_left 2
                  · simp only [List.getElem?_toArray, List.getElem?_cons_succ, List.getElem?_cons_zero] <;> rfl
                  · exact fun _ _ _ h => h
                  · rfl
                  · (intro w hSw; (try dsimp only at hSw); go_simp; try (with_reducible rfl))
                  try simp only [Act.put, List.setIfInBounds_toArray, List.set_cons_zero, List.set_cons_succ]
                  refine wpAnyH_done (by kernel_rfl) ?_ _
                  go_wp2_with fail
                  go_roundw
                  case rel => exact ⟨k + 1, by omega, by first | rfl | go_num, HB9.out⟩
                  case measure => simp [intOf]; omega
                exact AllReadyH.nil
              exact AllReadyH.nil
            · obtain rfl : k = 7 := by omega
              have k1 : ¬ ((7 : Nat) : Int) < 7 := by decide
              have HBk := Lib.hid hBk
              clear hBk hlt hk
              go_wp2_with fail
              go_roundw
              case rel => exact ⟨i + 1, by have := HI.out.1; omega, by first | rfl | go_num, HBk.out⟩
              case measure => have := HI.out.1; simp [intOf]; omega
        · obtain rfl : i = 7 := by omega
          have i1 : ¬ ((7 : Nat) : Int) < 7 := by decide
          have HBi := Lib.hid (HBV.out.trans (hBi.mono HBV.out.size))
          clear hBi hlt hi HEND HF7 HBV HB
          go_wp2_with fail
          refine (Si.new_no 4097 (by omega) _).mono ?_
          rintro e w2 ⟨rfl, hw2⟩
          replace hw2 := hw2.symm
          subst hw2
          go_wp2_with fail
          refine (Si.new_yes 4096 (by omega) (by omega) _).mono ?_
          rintro e w2 ⟨p, a, g, hp, ha, hg, rfl, hb2, h2⟩
          rw [new_filled _ intF] at h2
          have z1 := HBi.out.size
          have hp' : w.heap.size ≤ p := by omega
          have ha' : w.heap.size ≤ a := by omega
          have hg' : w.heap.size ≤ g := by omega
          obtain ⟨q, hq⟩ : ∃ q, q = w2.heap.size := ⟨_, rfl⟩
          obtain ⟨W3, hW3⟩ : ∃ W, W = w2.alloc (.cells #[.pointer (some ⟨p, 0, none⟩)] 24) := ⟨_, rfl⟩
          have B3 : Below w2.heap.size w2 W3 := by rw [hW3]; exact Below.new (Below.refl _ _) _
          have HF3 : Hid (Fresh W3 q #[.pointer (some ⟨p, 0, none⟩)] 24) := by show Fresh _ _ _ _; rw [hW3, hq]; exact Fresh.new _ _ _ _ rfl
          have HA3 := Lib.hid (h2.below B3)
          have HB3 : Hid (Below w.heap.size w W3) := by show Below _ _ _; exact (HBi.out.trans (hb2.mono HBi.out.size)).trans (B3.mono (by have := hb2.size; have := HBi.out.size; omega))
          have HW3 := Lib.hid hW3
          have HQ := Lib.hid hq
          have HQ0 : Hid (w.heap.size ≤ q) := by have := hb2.size; show _ ≤ _; omega
          clear hW3 B3 h2 hb2 hp ha hg z1
          go_wp2_with fail
          rw [← HW3.out]
          rw [← hq]
          clear hq
          go_loopw [12] (fun iv wq => ∃ k : Nat, k ≤ 4096 ∧ iv = .int .i64 k ∧ Si.At wq p a g (filled (.int .i64 0) intF 4096 k) ∧ Fresh wq q #[.pointer (some ⟨p, 0, none⟩)] 24 ∧ Below w.heap.size w wq) (fun iv _ => 4096 - (intOf iv).toNat)
          case atStart => exact ⟨0, by omega, rfl, HA3.out, HF3.out, HB3.out⟩
          case round =>
            obtain ⟨k, hk, rfl, hA, hF, hB⟩ := hrel
            have k0 : (0 : Int) ≤ (k : Int) := by omega
            obtain ⟨Wk, hWk⟩ : ∃ V, V = wr := ⟨_, rfl⟩
            subst hWk
            have c0 := hF.cell 0
            simp only [List.getElem?_toArray, List.getElem?_cons_zero] at c0
            have hne : q ∉ [a, g] := by simp; exact ⟨hF.apart hA.ha (by decide), hF.apart hA.hg (by decide)⟩
            have HA := Lib.hid hA
            have HF := Lib.hid hF
            have HB := Lib.hid hB
            by_cases hlt : k < 4096
            · have k1 : (k : Int) < 4096 := by omega
              have hL : (filled (.int .i64 0) intF 4096 k).l.length = 4096 := filled_len _ _ _ _ (by omega)
              have HL := Lib.hid hL
              clear hA hF hB hL
              go_wp2_with fail
              refine (Si.Take_ok HA.out (k : Int) k (by have := HL.out; omega) rfl (by have := HL.out; omega) (filled_u _ _ _ _) (by show -10000 ≤ (k : Int) ∧ (k : Int) ≤ 10000; omega) (by show -10000 ≤ ((4096 : Nat) : Int) - (k : Int) ∧ ((4096 : Nat) : Int) - (k : Int) ≤ 10000; omega) (take_filled _ intF 4096 k hlt)).mono ?_
              rintro e w4 ⟨rfl, ht4, ha4⟩
              have HR : Hid (Si.At w4 p a g (filled (.int .i64 0) intF 4096 (k + 1)) ∧ Fresh w4 q #[.pointer (some ⟨p, 0, none⟩)] 24 ∧ Below w.heap.size w w4) := ⟨ha4, ht4.other HF.out hne, Turned.below HB.out ht4 (by simp; omega) HB.out.size⟩
              clear ht4 ha4
              go_wp2_with fail
              go_roundw
              case rel => exact ⟨k + 1, by omega, by first | rfl | go_num, HR.out.1, HR.out.2.1, HR.out.2.2⟩
              case measure => simp [intOf]; omega
            · obtain rfl : k = 4096 := by omega
              have k1 : ¬ ((4096 : Nat) : Int) < 4096 := by decide
              have hL : (filled (.int .i64 0) intF 4096 4096).l.length = 4096 := filled_len _ _ _ _ (Nat.le_refl _)
              have HL := Lib.hid hL
              clear hA hF hB hL hlt hk
              go_wp2_with fail
              refine (Si.Take_no HA.out 1 4096 (by have := HL.out; omega) rfl (by have := HL.out; omega) (filled_u _ _ _ _) (by show -10000 ≤ ((4096 : Nat) : Int) ∧ ((4096 : Nat) : Int) ≤ 10000; omega) (by show -10000 ≤ ((4096 : Nat) : Int) - ((4096 : Nat) : Int) ∧ ((4096 : Nat) : Int) - ((4096 : Nat) : Int) ≤ 10000; omega) (take_full _ _ _ _)).mono ?_
              rintro e w5 ⟨rfl, ht5, ha5⟩
              have HA5 : Hid (Si.At w5 p a g (frd 0)) := ha5
              have HF5 := Lib.hid (ht5.other HF.out hne)
              have HB5 := Lib.hid (Turned.below HB.out ht5 (by simp; omega) HB.out.size)
              have c5 := HF5.out.cell 0
              have l5 := HF5.out.lt
              simp only [List.getElem?_toArray, List.getElem?_cons_zero] at c5
              clear ht5 ha5 c0 k1 k0
              go_wp2_with (go_at_call 13; refine (all_any _ _).mono ?_; rintro e WL ⟨rfl, hWL⟩; have HWL := Lib.hid hWL; clear hWL)
              refine (wpIn_wide (n := 10)).1 ?_
              have szL : WL.heap.size = w5.heap.size + 3 := by rw [HWL.out]; simp
              have BL : Below w5.heap.size w5 WL := by rw [HWL.out]; exact Below.new (Below.new (Below.new (Below.refl _ _) _) _) _
              have fn : Fresh WL (w5.heap.size + 1) #[.int .i64 0] 3 := by rw [HWL.out]; exact (Fresh.new _ _ _ _ (by simp)).alloc _
              have fs : Fresh WL (w5.heap.size + 1 + 1) #[.pointer (some ⟨p, 0, none⟩)] 24 := by rw [HWL.out]; exact Fresh.new _ _ _ _ (by simp)
              have fq := HF5.out.below BL
              have AL := HA5.out.below BL
              have BWL : Below w.heap.size w WL := HB5.out.trans (BL.mono HB5.out.size)
              have la := AL.ha.lt
              have lg := AL.hg.lt
              have z5 := HB5.out.size
              have la5 := HA5.out.ha.lt
              have lg5 := HA5.out.hg.lt
              refine range_box rfl (by omega) (gf := 35) (lb := #[.pointer (some ⟨w5.heap.size + 1 + 1, 0, none⟩)]) rfl trivial (enters_of Try.func35 (by kernel_rfl) rfl)
                (Si.all_own 9 (by omega) (w5.heap.size + 1 + 1) [a, g, w5.heap.size + 1, WL.heap.size + 1] (frd 0) (by rw [frd_len]; omega) frd_ints WL p a g AL (fs.cell 0) (by omega) (by intro k hk; simp at hk; omega))
                (fun h k => h.trans k) (fun Wc o _ => Turned.put (by simp) o) (Below.refl _ _) (fun _ => rfl)
                (EndI w p a g q (w5.heap.size + 1)) (fun c _ Wc => c = .exit 10 ∧ EndX w p a g q (w5.heap.size + 1) Wc)
                (EndI.own (by omega)) (fun c _ X Y row h hg hr => ⟨h.1, h.2.kept (B := WL.heap.size) (by omega) hg hr⟩)
                ⟨0, rfl, by omega, AL, fn, fq, BWL⟩
                (fun x a1 Wc => ∃ qx, a1 = { tmps := #[u0, .int .i64 4096, u2, u3, .slice (some ⟨g7, 0, none⟩) 7 7, .int .i64 7, u6, u7, .pointer none, .int .i64 2, .pointer (some ⟨q, 0, none⟩), .int .i64 0, .int .i64 4096, .pointer (some ⟨w5.heap.size, 0, none⟩), .int .i64 14, .pointer (some ⟨w5.heap.size + 1, 0, none⟩), .pointer (some ⟨qx, 0, none⟩), (Si.at0 (frd 0) x).x, .int .i64 4096, .bool false, u20, u21, u22, u23, u24, u25, u26, u27, u28, u29, u30, u31, u32, u33, u34, u35, u36, u37, u38, u39, u40, u41, u42, u43, u44, u45, u46, u47, u48, .slice (some ⟨g7, 0, none⟩) 7 7, .int .i64 7, .bool false, u52, u53, u54, u55, u56, u57, u58, u59, u60, u61, u62, u63, u64, u65, u66, u67, u68, u69, u70, u71, u72, u73, u74, u75, u76, u77, u78, u79, u80, .tuple #[.pointer none, .int .i64 2], .tuple #[.pointer none, .int .i64 2], .pointer none, .int .i64 2, .tuple #[.pointer (some ⟨p, 0, none⟩), .int .i64 0], .tuple #[.pointer (some ⟨p, 0, none⟩), .int .i64 0], .pointer (some ⟨p, 0, none⟩), .int .i64 0, .int .i64 4096, .bool false, u91, u92, u93, u94, u95, .tuple #[refV 0 0, .int .i64 14], .pointer (some ⟨p, 0, none⟩), .tuple #[refV 0 0, .int .i64 14], refV 0 0, .int .i64 14, .pointer (some ⟨p, 0, none⟩), .func (.func 35) #[] #[.pointer (some ⟨w5.heap.size + 1 + 1, 0, none⟩)], refV (x : Int) (Si.at0 (frd 0) x).u, (Si.at0 (frd 0) x).x, undef, undef, undef, undef, undef, undef, undef, undef, undef, undef, undef, undef, undef, undef, undef, undef, undef, undef, undef, undef, undef, undef, undef, undef, undef, undef, undef, undef, undef, undef, undef, undef, undef, undef, undef, undef, undef], defers := [] } ∧ Fresh Wc qx #[.int .i64 (x : Int), .int .u32 (Si.at0 (frd 0) x).u] 36)
                (fun x a1 _ X Y row ⟨qx, h1, h2⟩ hg hr => ⟨qx, h1, h2.kept hg (fun r e => (hr r e).2)⟩)
                ?assignment ?round ?done ?stop
              case assignment =>
                rintro l' pre x Wc K hG hI hK
                have HK := Lib.hid (hK _ (Wc.alloc (.cells #[.int .i64 (x : Int), .int .u32 (Si.at0 (frd 0) x).u] 36)) ((KeepsOthers.alloc _ _).from _) ((Turned.refl _ Wc).alloc _) (OwnFrom.alloc (EndI.own (B := WL.heap.size) (by omega)) _ hI) ⟨Wc.heap.size, rfl, Fresh.new _ _ _ _ rfl⟩)
                clear hK hI hG
                unfold Si.elemV
                gi_wp2
                exact HK.out
              case round =>
                rintro l' pre x a1 W5 hG ⟨j, hj, hj2, hA, hn, hq5, hB⟩ ⟨qx, rfl, cq⟩ hz
                obtain ⟨hx, _, hat⟩ := next_full hG
                have n1 : q ∉ [a, g] := by simp; exact ⟨hq5.apart hA.ha (by decide), hq5.apart hA.hg (by decide)⟩
                have n2 : w5.heap.size + 1 ∉ [a, g] := by simp; exact ⟨hn.apart hA.ha (by decide), hn.apart hA.hg (by decide)⟩
                have n3 : qx ∉ [a, g] := by simp; exact ⟨cq.apart hA.ha (by decide), cq.apart hA.hg (by decide)⟩
                have n4 : q ≠ w5.heap.size + 1 := hq5.apart hn (by decide)
                have n5 : a ≠ w5.heap.size + 1 := by omega
                have n6 : g ≠ w5.heap.size + 1 := by omega
                have n7 : p ≠ w5.heap.size + 1 := hA.hp.apart hn (by decide)
                have HN := Lib.hid (⟨n1, n2, n3, n4, n5, n6, n7⟩ : _ ∧ _ ∧ _ ∧ _ ∧ _ ∧ _ ∧ _)
                clear n1 n2 n3 n4 n5 n6 n7 fn fs fq AL hG
                have hlen : (pre ++ [x]).length = j + 1 := by rw [List.length_append, hj]; rfl
                obtain rfl : x = j := by omega
                clear hx hj
                have HLN := Lib.hid hlen
                clear hlen
                rcases (show x = 0 ∨ x = 1 ∨ x = 2 by omega) with rfl | rfl | rfl
                · have hx9 : (Si.at0 (frd 0) 0).x = .int .i64 0 := by rw [hat]; rfl
                  have hu9 : (Si.at0 (frd 0) 0).u = 1 := by rw [hat]
                  rw [show mj 0 = 0 from rfl] at hA
                  have hA9 := hA
                  rw [show ((0 : Nat) : Int) = 0 from rfl] at hn cq
                  have hn9 := hn
                  rw [hx9]
                  rw [hu9] at cq ⊢
                  have cq9 := cq
                  obtain ⟨v1, K1⟩ := frd_free' 0 0 1 0 rfl rfl (by omega) (by omega) hA9
                  have HK1 := Lib.hid K1
                  have HQ5 := Lib.hid (⟨hq5, hn9, cq9, hB⟩ : _ ∧ _ ∧ _ ∧ _)
                  have k50 := hq5.cell 0
                  have k51 := cq9.cell 0
                  have k52 := cq9.cell 1
                  simp only [List.getElem?_toArray, List.getElem?_cons_zero, List.getElem?_cons_succ] at k50 k51 k52
                  clear K1 hA hA9 hn hn9 cq cq9 hq5 hB hx9 hu9 hat hj2
                  gi_wp2_with (refine ⟨trivial, ?_⟩; gi_at_call 14; first
                    | ((with_reducible refine (callsIn_round HK1.out).mono ?_); rintro e W6 ⟨rfl, hT6, hA6⟩; obtain ⟨v2, K2⟩ := frd_free' 1 1 2 1 rfl rfl (by omega) (by omega) hA6; have HK2 := Lib.hid K2; have HT6 := Lib.hid hT6; have k60 := (hT6.other HQ5.out.1 HN.out.1).cell 0; simp only [List.getElem?_toArray, List.getElem?_cons_zero, List.getElem?_cons_succ] at k60; clear K2 hT6 hA6)
                    | ((with_reducible refine (callsIn_round HK2.out).mono ?_); rintro e W7 ⟨rfl, hT7, hA7⟩; have T7 := HT6.out.trans hT7; have f7 := T7.other HQ5.out.2.1 HN.out.2.1; have k70 := f7.cell 0; have k71 := f7.thawed 0; simp only [List.getElem?_toArray, List.getElem?_cons_zero, List.getElem?_cons_succ] at k70; have H7 := Lib.hid (⟨T7, hA7, f7⟩ : _ ∧ _ ∧ _); clear hT7 hA7 T7 f7))
                  have T7 := H7.out.1
                  have T8 : Turned [a, g, w5.heap.size + 1] W5 (W7.setCell ⟨w5.heap.size + 1, 0, none⟩ (.int .i64 1)) := (T7.wide (S' := [a, g, w5.heap.size + 1]) (by intro k hk; simp at hk; simp; omega)).setCell (p := w5.heap.size + 1) (.inl (by simp)) 0 _
                  have F8 : Fresh (W7.setCell ⟨w5.heap.size + 1, 0, none⟩ (.int .i64 1)) (w5.heap.size + 1) #[.int .i64 1] 3 := by have := H7.out.2.2.set 0 (.int .i64 1); simpa using this
                  have A8 : Si.At (W7.setCell ⟨w5.heap.size + 1, 0, none⟩ (.int .i64 1)) p a g (frd 2) := H7.out.2.1.off HN.out.2.2.2.2.2.2 HN.out.2.2.2.2.1 HN.out.2.2.2.2.2.1 _ _
                  have Q8 : Fresh (W7.setCell ⟨w5.heap.size + 1, 0, none⟩ (.int .i64 1)) q #[.pointer (some ⟨p, 0, none⟩)] 24 := (T7.other HQ5.out.1 HN.out.1).other HN.out.2.2.2.1 _ _
                  have B8 : Below w.heap.size w (W7.setCell ⟨w5.heap.size + 1, 0, none⟩ (.int .i64 1)) := Turned.below HQ5.out.2.2.2 T8 (by intro k hk; simp at hk; omega) HQ5.out.2.2.2.size
                  have KF8 : KeepsFrom WL.heap.size W5 (W7.setCell ⟨w5.heap.size + 1, 0, none⟩ (.int .i64 1)) := KeepsFrom.of_turned T8 (by intro k hk; simp at hk; omega)
                  have KP8 : Turned [a, g, w5.heap.size + 1, WL.heap.size + 1] W5 (W7.setCell ⟨w5.heap.size + 1, 0, none⟩ (.int .i64 1)) := T8.wide (by intro k hk; simp at hk; simp; omega)
                  exact ⟨KF8, KP8, 1, HLN.out, by omega, A8, F8, Q8, B8⟩
                · have hx9 : (Si.at0 (frd 0) 1).x = .int .i64 1 := by rw [hat]; rfl
                  have hu9 : (Si.at0 (frd 0) 1).u = 1 := by rw [hat]
                  rw [show mj 1 = 2 from rfl] at hA
                  have hA9 := hA
                  rw [show ((1 : Nat) : Int) = 1 from rfl] at hn cq
                  have hn9 := hn
                  rw [hx9]
                  rw [hu9] at cq ⊢
                  have cq9 := cq
                  obtain ⟨v1, K1⟩ := frd_free' 2 1 2 1 rfl rfl (by omega) (by omega) hA9
                  have HK1 := Lib.hid K1
                  have HQ5 := Lib.hid (⟨hq5, hn9, cq9, hB⟩ : _ ∧ _ ∧ _ ∧ _)
                  have k50 := hq5.cell 0
                  have k51 := cq9.cell 0
                  have k52 := cq9.cell 1
                  simp only [List.getElem?_toArray, List.getElem?_cons_zero, List.getElem?_cons_succ] at k50 k51 k52
                  clear K1 hA hA9 hn hn9 cq cq9 hq5 hB hx9 hu9 hat hj2
                  gi_wp2_with (refine ⟨trivial, ?_⟩; gi_at_call 14; first
                    | ((with_reducible refine (callsIn_round HK1.out).mono ?_); rintro e W6 ⟨rfl, hT6, hA6⟩; obtain ⟨v2, K2⟩ := frd_free' 2 2 3 2 rfl rfl (by omega) (by omega) hA6; have HK2 := Lib.hid K2; have HT6 := Lib.hid hT6; have k60 := (hT6.other HQ5.out.1 HN.out.1).cell 0; simp only [List.getElem?_toArray, List.getElem?_cons_zero, List.getElem?_cons_succ] at k60; clear K2 hT6 hA6)
                    | ((with_reducible refine (callsIn_round HK2.out).mono ?_); rintro e W7 ⟨rfl, hT7, hA7⟩; have T7 := HT6.out.trans hT7; have f7 := T7.other HQ5.out.2.1 HN.out.2.1; have k70 := f7.cell 0; have k71 := f7.thawed 0; simp only [List.getElem?_toArray, List.getElem?_cons_zero, List.getElem?_cons_succ] at k70; have H7 := Lib.hid (⟨T7, hA7, f7⟩ : _ ∧ _ ∧ _); clear hT7 hA7 T7 f7))
                  have T7 := H7.out.1
                  have T8 : Turned [a, g, w5.heap.size + 1] W5 (W7.setCell ⟨w5.heap.size + 1, 0, none⟩ (.int .i64 2)) := (T7.wide (S' := [a, g, w5.heap.size + 1]) (by intro k hk; simp at hk; simp; omega)).setCell (p := w5.heap.size + 1) (.inl (by simp)) 0 _
                  have F8 : Fresh (W7.setCell ⟨w5.heap.size + 1, 0, none⟩ (.int .i64 2)) (w5.heap.size + 1) #[.int .i64 2] 3 := by have := H7.out.2.2.set 0 (.int .i64 2); simpa using this
                  have A8 : Si.At (W7.setCell ⟨w5.heap.size + 1, 0, none⟩ (.int .i64 2)) p a g (frd 3) := H7.out.2.1.off HN.out.2.2.2.2.2.2 HN.out.2.2.2.2.1 HN.out.2.2.2.2.2.1 _ _
                  have Q8 : Fresh (W7.setCell ⟨w5.heap.size + 1, 0, none⟩ (.int .i64 2)) q #[.pointer (some ⟨p, 0, none⟩)] 24 := (T7.other HQ5.out.1 HN.out.1).other HN.out.2.2.2.1 _ _
                  have B8 : Below w.heap.size w (W7.setCell ⟨w5.heap.size + 1, 0, none⟩ (.int .i64 2)) := Turned.below HQ5.out.2.2.2 T8 (by intro k hk; simp at hk; omega) HQ5.out.2.2.2.size
                  have KF8 : KeepsFrom WL.heap.size W5 (W7.setCell ⟨w5.heap.size + 1, 0, none⟩ (.int .i64 2)) := KeepsFrom.of_turned T8 (by intro k hk; simp at hk; omega)
                  have KP8 : Turned [a, g, w5.heap.size + 1, WL.heap.size + 1] W5 (W7.setCell ⟨w5.heap.size + 1, 0, none⟩ (.int .i64 2)) := T8.wide (by intro k hk; simp at hk; simp; omega)
                  exact ⟨KF8, KP8, 2, HLN.out, by omega, A8, F8, Q8, B8⟩
                · have hx9 : (Si.at0 (frd 0) 2).x = .int .i64 2 := by rw [hat]; rfl
                  have hu9 : (Si.at0 (frd 0) 2).u = 1 := by rw [hat]
                  rw [show mj 2 = 3 from rfl] at hA
                  have hA9 := hA
                  rw [show ((2 : Nat) : Int) = 2 from rfl] at hn cq
                  have hn9 := hn
                  rw [hx9]
                  rw [hu9] at cq ⊢
                  have cq9 := cq
                  obtain ⟨v1, K1⟩ := frd_free' 3 2 3 2 rfl rfl (by omega) (by omega) hA9
                  have HK1 := Lib.hid K1
                  have HQ5 := Lib.hid (⟨hq5, hn9, cq9, hB⟩ : _ ∧ _ ∧ _ ∧ _)
                  have k50 := hq5.cell 0
                  have k51 := cq9.cell 0
                  have k52 := cq9.cell 1
                  simp only [List.getElem?_toArray, List.getElem?_cons_zero, List.getElem?_cons_succ] at k50 k51 k52
                  clear K1 hA hA9 hn hn9 cq cq9 hq5 hB hx9 hu9 hat hj2
                  gi_wp2_with (refine ⟨trivial, ?_⟩; gi_at_call 14; first
                    | ((with_reducible refine (callsIn_round HK1.out).mono ?_); rintro e W6 ⟨rfl, hT6, hA6⟩; obtain ⟨v2, K2⟩ := frd_free' 3 3 4 3 rfl rfl (by omega) (by omega) hA6; have HK2 := Lib.hid K2; have HT6 := Lib.hid hT6; have k60 := (hT6.other HQ5.out.1 HN.out.1).cell 0; simp only [List.getElem?_toArray, List.getElem?_cons_zero, List.getElem?_cons_succ] at k60; clear K2 hT6 hA6)
                    | ((with_reducible refine (callsIn_round HK2.out).mono ?_); rintro e W7 ⟨rfl, hT7, hA7⟩; have T7 := HT6.out.trans hT7; have f7 := T7.other HQ5.out.2.1 HN.out.2.1; have k70 := f7.cell 0; have k71 := f7.thawed 0; simp only [List.getElem?_toArray, List.getElem?_cons_zero, List.getElem?_cons_succ] at k70; have H7 := Lib.hid (⟨T7, hA7, f7⟩ : _ ∧ _ ∧ _); clear hT7 hA7 T7 f7))
                  have T7 := H7.out.1
                  have T8 : Turned [a, g, w5.heap.size + 1] W5 (W7.setCell ⟨w5.heap.size + 1, 0, none⟩ (.int .i64 3)) := (T7.wide (S' := [a, g, w5.heap.size + 1]) (by intro k hk; simp at hk; simp; omega)).setCell (p := w5.heap.size + 1) (.inl (by simp)) 0 _
                  have F8 : Fresh (W7.setCell ⟨w5.heap.size + 1, 0, none⟩ (.int .i64 3)) (w5.heap.size + 1) #[.int .i64 3] 3 := by have := H7.out.2.2.set 0 (.int .i64 3); simpa using this
                  have A8 : Si.At (W7.setCell ⟨w5.heap.size + 1, 0, none⟩ (.int .i64 3)) p a g (frd 4) := H7.out.2.1.off HN.out.2.2.2.2.2.2 HN.out.2.2.2.2.1 HN.out.2.2.2.2.2.1 _ _
                  have Q8 : Fresh (W7.setCell ⟨w5.heap.size + 1, 0, none⟩ (.int .i64 3)) q #[.pointer (some ⟨p, 0, none⟩)] 24 := (T7.other HQ5.out.1 HN.out.1).other HN.out.2.2.2.1 _ _
                  have B8 : Below w.heap.size w (W7.setCell ⟨w5.heap.size + 1, 0, none⟩ (.int .i64 3)) := Turned.below HQ5.out.2.2.2 T8 (by intro k hk; simp at hk; omega) HQ5.out.2.2.2.size
                  have KF8 : KeepsFrom WL.heap.size W5 (W7.setCell ⟨w5.heap.size + 1, 0, none⟩ (.int .i64 3)) := KeepsFrom.of_turned T8 (by intro k hk; simp at hk; omega)
                  have KP8 : Turned [a, g, w5.heap.size + 1, WL.heap.size + 1] W5 (W7.setCell ⟨w5.heap.size + 1, 0, none⟩ (.int .i64 3)) := T8.wide (by intro k hk; simp at hk; simp; omega)
                  exact ⟨KF8, KP8, rfl, A8, F8, Q8, B8⟩
              case done =>
                rintro D xs Wd hD hxs ⟨j, hj, hj2, _⟩ hD0
                exfalso
                have h1 := ut_all hxs
                omega
              case stop =>
                rintro D c pre Wd hD _ ⟨rfl, hA, hn, hq5, hB⟩ hD0
                have HD0 := Lib.hid hD0
                have HA := Lib.hid hA
                have HB := Lib.hid hB
                have k50 := hq5.cell 0
                have k51 := hn.cell 0
                simp only [List.getElem?_toArray, List.getElem?_cons_zero, List.getElem?_cons_succ] at k50 k51
                have KL := Si.len_any hA
                rw [show (frd 4).len = 4092 from (frd_num 4).1] at KL
                have HKL := Lib.hid KL
                clear KL hA hn hq5 hB hD0 fn fs fq AL
                gi_wp2
                go_wp2_with fail
                refine HKL.out.mono ?_
                rintro e w7 ⟨rfl, hw7⟩
                replace hw7 := hw7.symm
                subst hw7
                go_wp2_with fail
                refine (none_any _).mono ?_
                rintro e w8 ⟨rfl, hb8⟩
                have HB8 := Lib.hid hb8
                clear hb8
                go_wp2_with fail
                refine (awake_any _).mono ?_
                rintro e w9 ⟨rfl, hb9⟩
                have HB9 := Lib.hid (Below.step HB8.out hb9)
                clear hb9
                go_wp2_with fail
                have hlt : D < Wd.heap.size := (Array.getElem?_eq_some_iff.1 HD0.out).1
                have hD9 : w9.heap[D]? = some (.deferred (some [])) := (HB9.out.block D hlt).trans HD0.out
                have b9 : Below w.heap.size w w9 := HB.out.trans (HB9.out.mono HB.out.size)
                exact calm_ret1 (v := .bool true) rfl hD9 (by simp [results, Try.f4, go_sem]) ⟨rfl, b9.grown (grownBy_putObj' w9 D (.deferred none)) (by have := b9.size; exact this) (fun r e => by cases e; omega)⟩
end Go.Proofs.Ytbbadkgmnfjfaaa
