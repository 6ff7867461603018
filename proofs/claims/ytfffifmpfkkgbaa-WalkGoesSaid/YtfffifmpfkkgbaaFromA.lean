/- From of an art: the least pair from a bound on. -/
import Derived.Test.YtfffifmpfkkgbaaGAr
import Derived.Test.YtfffifmpfkkgbaaKLawB
import Derived.Test.YtfffifmpfkkgbaaWkM
import Derived.Deep.RegionHeld3
import Derived.Deep.DeepCutAuto
import Derived.Deep.RegionLaw
import Derived.Laws.Cover1
namespace Go.Proofs.Ytfffifmpfkkgbaa
open Go.RowKit
set_option maxRecDepth 1000000
set_option maxHeartbeats 4000000

theorem sfrom_any {W : World} {e : Nat} {ks : List ByteArray} {v : Value} (h : RowS W e ks v) (hs : SrtK ks) (hn : ks.length < 1000000) (x : ByteArray) :
    Calls Try.prog 76 #[v, .string x] W fun e' w' => e' = .returned (.int .i64 (atK x ks : Nat)) ∧ Below W.heap.size W w' := by
  have HH := Lib.hid (search_any h hs hn x)
  obtain ⟨ao, cap, rfl, _⟩ := h.slice
  clear h hs hn
  go_enter Try.func76, Try.ntmps76
  go_wp2_with (go_at_call 61; refine HH.out.mono ?_; rintro e1 w1 ⟨rfl, hb1⟩)
  go_ret
  exact ⟨rfl, hb1⟩
def fromV (o : Option Pr) : Value := match o with | some z => .tuple #[.string z.1, .string z.2, .bool true] | none => .tuple #[.string ⟨#[]⟩, .string ⟨#[]⟩, .bool false]
theorem from_art {W : World} {p q e m : Nat} {l : List Pr} (h : ArtAt W p q e m l) (hn : l.length < 100000) (x : ByteArray) :
    Calls Try.prog 65 #[.pointer (some ⟨p, 0, none⟩), .string x] W fun e' w' => e' = .returned (fromV (nextP x l)) ∧ Below W.heap.size W w' := by
  have HN := Lib.hid (isNil_any h)
  obtain ⟨v, hst⟩ := h.st
  have HS := Lib.hid hst
  have HF := Lib.hid (sfrom_any hst.key.row hst.srt (by rw [keys_len]; omega) x)
  obtain ⟨ao, cap, hv, hcap⟩ := hst.key.row.slice
  rw [keys_len] at hv
  have c0 := h.cells.1
  have c1 := hst.cells.1
  have c2 := hst.cells.2.1
  have hrow : Hid (∀ (j : Nat) (k : ByteArray), (keys l)[j]? = some k → ∃ b, ao = some ⟨b, 0, none⟩ ∧ b < W.heap.size ∧ W.cell? ⟨b, j, none⟩ = some (.string k)) := by
    intro j k hj
    rcases hst.key.row.form with ⟨_, h2⟩ | ⟨cap', cur, h2, hf, _, _, _, h6⟩
    · rw [h2] at hj; simp at hj
    · rw [keys_len] at h2
      have h3 := hv.symm.trans h2
      cases h3
      exact ⟨e, rfl, hf.lt, by rw [hf.cell]; exact h6 j k hj⟩
  have hAl : atK x (keys l) ≤ l.length := by rw [← keys_len]; exact atK_le _ _
  obtain ⟨A, hA⟩ : ∃ A, atK x (keys l) = A := ⟨_, rfl⟩
  obtain ⟨n, hnn⟩ : ∃ n, l.length = n := ⟨_, rfl⟩
  unfold nextP
  rw [hA] at HF hAl ⊢
  rw [hnn] at hAl hv
  subst hv
  have HNN := Lib.hid hnn
  have hA0 : (0 : Int) ≤ (A : Int) := by omega
  clear h hst hcap hA hn hnn
  by_cases hlt : A < n
  · have hx : ∃ z, l[A]? = some z := ⟨_, List.getElem?_eq_getElem (by rw [HNN.out]; exact hlt)⟩
    obtain ⟨⟨k, y⟩, hz⟩ := hx
    rw [hz]
    obtain ⟨b, rfl, hb, hc⟩ := hrow.out A k (by simp [keys, hz])
    have hget := (get_mem (x := k) (l := l) (t := (k, y)))
    have hg : getT l k = some (k, y) := get_of_mem (srt_uniq HS.out.srt) (List.mem_of_getElem? hz)
    have hlk := Lib.hid (fun (w : World) (hb : Below W.heap.size W w) => (HS.out.below hb).look1 k y hg)
    have jl : (A : Int) < (n : Int) := by omega
    have je : ((A : Int) == (n : Int)) = false := by rw [beq_eq_false_iff_ne]; omega
    have jd : decide (A < n) = true := decide_eq_true hlt
    clear hz hget hg hrow hb hlt
    unfold fromV
    go_enter Try.func65, Try.ntmps65
    go_upto_region 7 with (first
      | (go_at_call 36; refine HN.out.mono ?_; rintro e1 w1 ⟨rfl, h1⟩; replace h1 := h1.symm; subst h1)
      | (go_at_call 76; refine HF.out.mono ?_; rintro e1 w1 ⟨rfl, hb1⟩; have c0 := (hb1.cell (cell_lt' c0)).trans c0; have c1 := (hb1.cell (cell_lt' c1)).trans c1; have c2 := (hb1.cell (cell_lt' c2)).trans c2; have hc := (hb1.cell (cell_lt' hc)).trans hc; have HB1 := Lib.hid hb1; clear hb1))
    have hlk1 := hlk.out w1.drew (HB1.out.drew)
    go_region_held3 (fun W' => W'.cell? ⟨p, 0, none⟩ = some (.pointer (some ⟨q, 0, none⟩)) ∧ W'.cell? ⟨q, 1, none⟩ = some (.map (some m))) (go_keep) (fail)
    all_goals
      go_wp2_with fail
      refine bodyPost_ret (v := .tuple #[.string k, .string y, .bool true]) (by simp [results, Try.results65, go_sem]) rfl ?_
      exact ⟨rfl, HB1.out.drew⟩
  · have hx : l[A]? = none := List.getElem?_eq_none (by rw [HNN.out]; omega)
    rw [hx]
    obtain rfl : A = n := by omega
    unfold fromV
    clear hrow hlt hx
    go_enter Try.func65, Try.ntmps65
    go_wp2_with (first
      | (go_at_call 36; refine HN.out.mono ?_; rintro e1 w1 ⟨rfl, h1⟩; replace h1 := h1.symm; subst h1)
      | (go_at_call 76; refine HF.out.mono ?_; rintro e1 w1 ⟨rfl, hb1⟩; have c0 := (hb1.cell (cell_lt' c0)).trans c0; have c1 := (hb1.cell (cell_lt' c1)).trans c1; have HB1 := Lib.hid hb1; clear hb1))
    refine bodyPost_ret (v := .tuple #[.string ⟨#[]⟩, .string ⟨#[]⟩, .bool false]) (by simp [results, Try.results65, go_sem]) rfl ?_
    exact ⟨rfl, HB1.out⟩
end Go.Proofs.Ytfffifmpfkkgbaa
