/- The law's operation on a table and on the reference model. -/
import Derived.Test.YthhmbmeajgjhcaaSame
namespace Go.Proofs.Ythhmbmeajgjhcaa
open Go.RowKit
set_option maxRecDepth 100000
set_option maxHeartbeats 8000000

/-- Of what lies below B nothing has turned but some blocks. -/
structure Keep (K : List Nat) (B : Nat) (W W' : World) : Prop where
  os : W'.os = W.os
  tape : W'.tape = W.tape
  output : W'.output = W.output
  size : W.heap.size ≤ W'.heap.size
  block : ∀ k, k < B → k ∉ K → W'.heap[k]? = W.heap[k]?
theorem Keep.refl (K : List Nat) (B : Nat) (W : World) : Keep K B W W := ⟨rfl, rfl, rfl, Nat.le_refl _, fun _ _ _ => rfl⟩
theorem Keep.trans {K : List Nat} {B : Nat} {W W' W'' : World} (h : Keep K B W W') (k : Keep K B W' W'') : Keep K B W W'' :=
  ⟨k.os.trans h.os, k.tape.trans h.tape, k.output.trans h.output, Nat.le_trans h.size k.size, fun j hj hn => (k.block j hj hn).trans (h.block j hj hn)⟩
theorem Keep.of_below {K : List Nat} {B : Nat} {W W' : World} (hB : B ≤ W.heap.size) (h : Below W.heap.size W W') : Keep K B W W' := ⟨h.os, h.tape, h.output, h.size, fun k hk _ => h.block k (by omega)⟩
theorem Keep.of_turned {K : List Nat} {B a m : Nat} {W W' : World} (hB : B ≤ W.heap.size) (ha : a ∈ K ∨ B ≤ a) (hm : m ∈ K ∨ B ≤ m) (h : Turned [a, m] W W') : Keep K B W W' := by
  refine ⟨h.os, h.tape, h.output, h.size, fun k hk hn => h.block k (by omega) fun e => ?_⟩
  simp at e
  rcases e with rfl | rfl
  · rcases ha with ha | ha
    · exact hn ha
    · omega
  · rcases hm with hm | hm
    · exact hn hm
    · omega
theorem Keep.of_mod {K : List Nat} {B r : Nat} {W W' : World} (hB : B ≤ W.heap.size) (hr : r ∈ K) (h : Mod B r W W') : Keep K B W W' :=
  ⟨h.os, h.tape, h.output, h.size, fun k hk hn => h.block k (by omega) (by rintro rfl; exact hn hr) (.inl hk)⟩

/-- A table and the model. -/
structure St (K : List Nat) (B : Nat) (W : World) (p a m r : Nat) (t u : Lk) : Prop where
  at' : At W p a m t
  rat : RAt W B r u.l u.taken
  ka : a ∈ K ∨ B ≤ a
  km : m ∈ K ∨ B ≤ m
  kr : r ∈ K
  rB : r < B
  low : B ≤ W.heap.size
theorem St.below {K : List Nat} {B : Nat} {W W' : World} {p a m r : Nat} {t u : Lk} (h : St K B W p a m r t u) (hb : Below W.heap.size W W') : St K B W' p a m r t u :=
  ⟨h.at'.below hb, h.rat.below hb, h.ka, h.km, h.kr, h.rB, Nat.le_trans h.low hb.size⟩
theorem St.turned {K : List Nat} {B : Nat} {W W' : World} {p a m r : Nat} {t t' u : Lk} (h : St K B W p a m r t u) (ht : Turned [a, m] W W') (ha : At W' p a m t') : St K B W' p a m r t' u :=
  ⟨ha, h.rat.turned h.at' ht, h.ka, h.km, h.kr, h.rB, Nat.le_trans h.low ht.size⟩
theorem St.mod {K : List Nat} {B : Nat} {W W' : World} {p a m r : Nat} {t u u' : Lk} (h : St K B W p a m r t u) (hm : Mod B r W W') (hr : RAt W' B r u'.l u'.taken) : St K B W' p a m r t u' := by
  obtain ⟨cs, hf⟩ := h.rat.box
  exact ⟨hm.at' h.at' hf, hr, h.ka, h.km, h.kr, h.rB, Nat.le_trans h.low hm.size⟩

abbrev deedC (c x g v : Int) : Array Value := #[.int .i64 c, .int .i64 x, .int .u32 g, .int .u64 v]
/-- Both, the operation in its box, and what was kept since. -/
structure Pr (K : List Nat) (B : Nat) (W W' : World) (p a m r q : Nat) (c x g v : Int) (t u : Lk) : Prop where
  st : St K B W' p a m r t u
  keep : Keep K B W W'
  box : Fresh W' q (deedC c x g v) 37
theorem Pr.below {K : List Nat} {B : Nat} {W W' W'' : World} {p a m r q : Nat} {c x g v : Int} {t u : Lk} (h : Pr K B W W' p a m r q c x g v t u) (hb : Below W'.heap.size W' W'') : Pr K B W W'' p a m r q c x g v t u :=
  ⟨h.st.below hb, h.keep.trans (.of_below h.st.low hb), h.box.below hb⟩
theorem Pr.drew {K : List Nat} {B : Nat} {W W' : World} {p a m r q : Nat} {c x g v : Int} {t u : Lk} (h : Pr K B W W' p a m r q c x g v t u) : Pr K B W W'.drew p a m r q c x g v t u := h.below (Below.refl _ _).drew
theorem Pr.turned {K : List Nat} {B : Nat} {W W' W'' : World} {p a m r q : Nat} {c x g v : Int} {t t' u : Lk} (h : Pr K B W W' p a m r q c x g v t u) (ht : Turned [a, m] W' W'') (ha : At W'' p a m t') : Pr K B W W'' p a m r q c x g v t' u := by
  refine ⟨h.st.turned ht ha, h.keep.trans (.of_turned h.st.low h.st.ka h.st.km ht), ht.other h.box fun e => ?_⟩
  simp at e
  rcases e with rfl | rfl
  · have h1 := h.st.at'.ha
    have h2 := h.box
    unfold Fresh at h1 h2
    rw [h1] at h2
    simp at h2
  · exact absurd rfl (h.st.at'.hm.ne h.box)
theorem Pr.mod {K : List Nat} {B : Nat} {W W' W'' : World} {p a m r q : Nat} {c x g v : Int} {t u u' : Lk} (h : Pr K B W W' p a m r q c x g v t u) (hm : Mod B r W' W'') (hr : RAt W'' B r u'.l u'.taken) : Pr K B W W'' p a m r q c x g v t u' := by
  refine ⟨h.st.mod hm hr, h.keep.trans (.of_mod h.st.low h.st.kr hm), hm.fresh h.box ?_ (.inr (by decide))⟩
  rintro rfl
  obtain ⟨cs, hf⟩ := h.st.rat.box
  have h2 := h.box
  unfold Fresh at hf h2
  rw [hf] at h2
  injection h2 with h2
  injection h2 with _ h2 _
  exact absurd h2 (by decide)
theorem Pr.cells {K : List Nat} {B : Nat} {W W' : World} {p a m r q : Nat} {c x g v : Int} {t u : Lk} (h : Pr K B W W' p a m r q c x g v t u) : W'.cell? ⟨q, 1, none⟩ = some (.int .i64 x) ∧ W'.cell? ⟨q, 2, none⟩ = some (.int .u32 g) ∧ W'.cell? ⟨q, 3, none⟩ = some (.int .u64 v) := ⟨h.box.cell 1, h.box.cell 2, h.box.cell 3⟩
theorem Pr.cell0 {K : List Nat} {B : Nat} {W W' : World} {p a m r q : Nat} {c x g v : Int} {t u : Lk} (h : Pr K B W W' p a m r q c x g v t u) : W'.cell? ⟨q, 0, none⟩ = some (.int .i64 c) := h.box.cell 0
theorem Pr.start {K : List Nat} {B : Nat} {W : World} {p a m r : Nat} (c x g v : Int) {t u : Lk} (h : St K B W p a m r t u) : Pr K B W (W.alloc (.cells (deedC c x g v) 37)) p a m r W.heap.size c x g v t u :=
  ⟨h.below (Below.new (Below.refl _ _) _), .of_below h.low (Below.new (Below.refl _ _) _), Fresh.new _ _ _ _ rfl⟩

/-- What comes of an operation. -/
def DoesP (K : List Nat) (B : Nat) (W : World) (r : Nat) (N : Int) (e : Ending) (w' : World) : Prop :=
  ∃ p' a' m' s', e = .returned (.tuple #[.pointer (some ⟨p', 0, none⟩), .bool true]) ∧ Keep K B W w' ∧ St K B w' p' a' m' r s' s' ∧ s'.Ok (N + 1)

abbrev deedV (c x g v : Int) : Value := .agg (deedC c x g v)
theorem ref_ok {W : World} {p a m : Nat} {s : Lk} (h : At W p a m s) : ∀ u ∈ s.l, RefOk u.s u.g := by
  obtain ⟨es, c, hb, hi⟩ := h.hm
  exact hi.2
theorem get_w64 {s : Lk} {N : Int} (h : s.Ok N) (x g : Int) : W64 (zeroW (getW s.l x g)) := by
  cases hg : getW s.l x g with
  | none => exact ⟨by decide, by decide⟩
  | some t => exact h.w t (mem_get hg).1

theorem does_add {K : List Nat} {B : Nat} {W : World} {p a m r : Nat} {s : Lk} {N : Int} (h : St K B W p a m r s s) (hk : s.Ok N) (hN : N ≤ 1000000) (c x g v : Int) (hr : RefOk x g) (hv : W64 v) (hc : c % 8 = 0) :
    Calls Try.prog 9 #[.pointer (some ⟨p, 0, none⟩), .pointer (some ⟨r, 0, none⟩), deedV c x g v] W (DoesP K B W r N) := by
  have HP := Lib.hid (Pr.start c x g v h)
  have HQ : Hid (W.alloc (.cells (deedC c x g v) 37) = W.alloc (.cells (deedC c x g v) 37)) := rfl
  have HPK := Lib.hid (pick_any c 8 (by decide) (by decide))
  rw [hc] at HPK
  have ho := ref_ok h.at'
  have hl : s.l.length ≤ 1000000 := by have := hk.len; omega
  have hok : (addS s x g).1.Ok (N + 1) := add_ok hk x g
  have LA : Hid (∀ W', At W' p a m s → Calls Try.prog 13 #[.pointer (some ⟨p, 0, none⟩), refV x g] W' fun e w' => e = .returned (.int .i64 (addS s x g).2) ∧ Turned [a, m] W' w' ∧ At w' p a m (addS s x g).1) := fun W' hA => add_any hA x g hr
  have MA : Hid (∀ W', RAt W' B r s.l s.taken → B ≤ W'.heap.size → Calls Try.prog 26 #[.pointer (some ⟨r, 0, none⟩), refV x g] W' fun e w' => e = .returned (.int .i64 (addS s x g).2) ∧ Mod B r W' w' ∧ RAt w' B r (addS s x g).1.l (addS s x g).1.taken) := fun W' hA hB => radd_any hA hB h.rB ho hl x g hr
  obtain ⟨⟨s', k⟩, hs'⟩ : ∃ q, addS s x g = q := ⟨_, rfl⟩
  rw [hs'] at LA MA hok
  dsimp only at LA MA hok
  have HO := Lib.hid hok
  have kk : (k == k) = true := by simp
  clear h hk ho hl hok hs' hc hr hv hN
  go_enter Try.func9, Try.ntmps9
  go_upto_region 1 with fail
  obtain ⟨W1, hW1⟩ : ∃ W1, W1 = W.alloc (.cells (deedC c x g v) 37) := ⟨_, rfl⟩
  change Code.wp _ _ _ _ (W.alloc (.cells (deedC c x g v) 37))
  rw [← hW1] at HP ⊢
  clear hW1 HQ
  obtain ⟨q, hq⟩ : ∃ q, W.heap.size = q := ⟨_, rfl⟩
  rw [hq] at HP ⊢
  clear hq
  obtain ⟨y1, y2, y3⟩ := HP.out.cells
  have y0 := HP.out.cell0
  go_wp2_with fail
  refine (HPK.out _).mono ?_
  rintro e w2 ⟨rfl, hw2⟩
  subst hw2
  go_wp2_with fail
  go_region_held3 (fun W' => W'.cell? ⟨q, 1, none⟩ = some (.int .i64 x) ∧ W'.cell? ⟨q, 2, none⟩ = some (.int .u32 g) ∧ W'.cell? ⟨q, 3, none⟩ = some (.int .u64 v))
    (first | exact HZ.out.cells | exact HX.out.cells | exact HY.out.cells | exact HP.out.drew.cells | go_keep)
    (first
      | (go_at_call 13
         have _t := HY
         refine (LA.out _ HY.out.st.at').mono ?_
         rintro e w6 ⟨rfl, ht, ha⟩
         have HZ := Lib.hid (HY.out.turned ht ha)
         clear ht ha _t)
      | (go_at_call 13
         refine (LA.out _ HP.out.drew.st.at').mono ?_
         rintro e w5 ⟨rfl, ht, ha⟩
         have HX := Lib.hid (HP.out.drew.turned ht ha)
         clear ht ha)
      | (go_at_call 26
         have _t := HX
         refine (MA.out _ HX.out.st.rat HX.out.st.low).mono ?_
         rintro e w6 ⟨rfl, hm, hr6⟩
         have HZ := Lib.hid (HX.out.mod hm hr6)
         clear hm hr6 _t)
      | (go_at_call 26
         refine (MA.out _ HP.out.drew.st.rat HP.out.drew.st.low).mono ?_
         rintro e w5 ⟨rfl, hm, hr6⟩
         have HY := Lib.hid (HP.out.drew.mod hm hr6)
         clear hm hr6))
  all_goals
    clear y1 y2 y3
    go_wp2_with fail
    go_ret2
    exact ⟨p, a, m, s', rfl, HZ.out.keep, HZ.out.st, HO.out⟩

theorem does_gone {K : List Nat} {B : Nat} {W : World} {p a m r : Nat} {s : Lk} {N : Int} (h : St K B W p a m r s s) (hk : s.Ok N) (hN : N ≤ 1000000) (c x g v : Int) (hr : RefOk x g) (hv : W64 v) (hc : c % 8 = 1) :
    Calls Try.prog 9 #[.pointer (some ⟨p, 0, none⟩), .pointer (some ⟨r, 0, none⟩), deedV c x g v] W (DoesP K B W r N) := by
  have HP := Lib.hid (Pr.start c x g v h)
  have HQ : Hid (W.alloc (.cells (deedC c x g v) 37) = W.alloc (.cells (deedC c x g v) 37)) := rfl
  have HPK := Lib.hid (pick_any c 8 (by decide) (by decide))
  rw [hc] at HPK
  have ho := ref_ok h.at'
  have hl : s.l.length ≤ 1000000 := by have := hk.len; omega
  have hok : (goneS s x g).1.Ok (N + 1) := (gone_ok hk x g).more (by omega)
  have LA : Hid (∀ W', At W' p a m s → Calls Try.prog 14 #[.pointer (some ⟨p, 0, none⟩), refV x g] W' fun e w' => e = .returned (.int .i64 (goneS s x g).2) ∧ Turned [a, m] W' w' ∧ At w' p a m (goneS s x g).1) := fun W' hA => gone_any hA hk hN x g hr
  have MA : Hid (∀ W', RAt W' B r s.l s.taken → B ≤ W'.heap.size → Calls Try.prog 27 #[.pointer (some ⟨r, 0, none⟩), refV x g] W' fun e w' => e = .returned (.int .i64 (goneS s x g).2) ∧ Mod B r W' w' ∧ RAt w' B r (goneS s x g).1.l (goneS s x g).1.taken) := fun W' hA hB => rgone_any hA hk.uniq hB ho hl x g hr
  obtain ⟨⟨s', k⟩, hs'⟩ : ∃ q, goneS s x g = q := ⟨_, rfl⟩
  rw [hs'] at LA MA hok
  dsimp only at LA MA hok
  have HO := Lib.hid hok
  have kk : (k == k) = true := by simp
  clear h hk ho hl hok hs' hc hr hv hN
  go_enter Try.func9, Try.ntmps9
  go_upto_region 1 with fail
  obtain ⟨W1, hW1⟩ : ∃ W1, W1 = W.alloc (.cells (deedC c x g v) 37) := ⟨_, rfl⟩
  change Code.wp _ _ _ _ (W.alloc (.cells (deedC c x g v) 37))
  rw [← hW1] at HP ⊢
  clear hW1 HQ
  obtain ⟨q, hq⟩ : ∃ q, W.heap.size = q := ⟨_, rfl⟩
  rw [hq] at HP ⊢
  clear hq
  obtain ⟨y1, y2, y3⟩ := HP.out.cells
  have y0 := HP.out.cell0
  go_wp2_with fail
  refine (HPK.out _).mono ?_
  rintro e w2 ⟨rfl, hw2⟩
  subst hw2
  go_wp2_with fail
  go_region_held3 (fun W' => W'.cell? ⟨q, 1, none⟩ = some (.int .i64 x) ∧ W'.cell? ⟨q, 2, none⟩ = some (.int .u32 g) ∧ W'.cell? ⟨q, 3, none⟩ = some (.int .u64 v))
    (first | exact HZ.out.cells | exact HX.out.cells | exact HY.out.cells | exact HP.out.drew.cells | go_keep)
    (first
      | (go_at_call 14
         have _t := HY
         refine (LA.out _ HY.out.st.at').mono ?_
         rintro e w6 ⟨rfl, ht, ha⟩
         have HZ := Lib.hid (HY.out.turned ht ha)
         clear ht ha _t)
      | (go_at_call 14
         refine (LA.out _ HP.out.drew.st.at').mono ?_
         rintro e w5 ⟨rfl, ht, ha⟩
         have HX := Lib.hid (HP.out.drew.turned ht ha)
         clear ht ha)
      | (go_at_call 27
         have _t := HX
         refine (MA.out _ HX.out.st.rat HX.out.st.low).mono ?_
         rintro e w6 ⟨rfl, hm, hr6⟩
         have HZ := Lib.hid (HX.out.mod hm hr6)
         clear hm hr6 _t)
      | (go_at_call 27
         refine (MA.out _ HP.out.drew.st.rat HP.out.drew.st.low).mono ?_
         rintro e w5 ⟨rfl, hm, hr6⟩
         have HY := Lib.hid (HP.out.drew.mod hm hr6)
         clear hm hr6))
  all_goals
    clear y1 y2 y3
    go_wp2_with fail
    go_ret2
    exact ⟨p, a, m, s', rfl, HZ.out.keep, HZ.out.st, HO.out⟩

theorem does_lock2 {K : List Nat} {B : Nat} {W : World} {p a m r : Nat} {s : Lk} {N : Int} (h : St K B W p a m r s s) (hk : s.Ok N) (hN : N ≤ 1000000) (c x g v : Int) (hr : RefOk x g) (hv : W64 v) (hc : c % 8 = 2) :
    Calls Try.prog 9 #[.pointer (some ⟨p, 0, none⟩), .pointer (some ⟨r, 0, none⟩), deedV c x g v] W (DoesP K B W r N) := by
  have HP := Lib.hid (Pr.start c x g v h)
  have HQ : Hid (W.alloc (.cells (deedC c x g v) 37) = W.alloc (.cells (deedC c x g v) 37)) := rfl
  have HPK := Lib.hid (pick_any c 8 (by decide) (by decide))
  rw [hc] at HPK
  have ho := ref_ok h.at'
  have hl : s.l.length ≤ 1000000 := by have := hk.len; omega
  have h64 : W64 v := hv
  have hok := lock_ok hk x g v
  have LA : Hid (∀ W', At W' p a m s → Calls Try.prog 16 #[.pointer (some ⟨p, 0, none⟩), refV x g, .int .u64 v] W' fun e w' => e = .returned (.bool (lockB s x g v)) ∧ Turned [a, m] W' w' ∧ At w' p a m (lockS s x g v)) := fun W' hA => lock_any hA hk hN x g _ hr
  have MA : Hid (∀ W', RAt W' B r s.l s.taken → B ≤ W'.heap.size → Calls Try.prog 28 #[.pointer (some ⟨r, 0, none⟩), refV x g, .int .u64 v] W' fun e w' => e = .returned (.bool (lockB s x g v)) ∧ Mod B r W' w' ∧ RAt w' B r (lockS s x g v).l (lockS s x g v).taken) := fun W' hA _ => rlock_any hA hk hN ho x g _ hr h64
  obtain ⟨k, hk'⟩ : ∃ k, lockB s x g v = k := ⟨_, rfl⟩
  obtain ⟨s', hs'⟩ : ∃ s', lockS s x g v = s' := ⟨_, rfl⟩
  rw [hk', hs'] at LA MA
  rw [hs'] at hok
  have HO := Lib.hid hok
  have kk : (k == k) = true := by simp
  clear h hk ho hl h64 hok hk' hs' hc hr hv hN
  go_enter Try.func9, Try.ntmps9
  go_upto_region 1 with fail
  obtain ⟨W1, hW1⟩ : ∃ W1, W1 = W.alloc (.cells (deedC c x g v) 37) := ⟨_, rfl⟩
  change Code.wp _ _ _ _ (W.alloc (.cells (deedC c x g v) 37))
  rw [← hW1] at HP ⊢
  clear hW1 HQ
  obtain ⟨q, hq⟩ : ∃ q, W.heap.size = q := ⟨_, rfl⟩
  rw [hq] at HP ⊢
  clear hq
  obtain ⟨y1, y2, y3⟩ := HP.out.cells
  have y0 := HP.out.cell0
  go_wp2_with fail
  refine (HPK.out _).mono ?_
  rintro e w2 ⟨rfl, hw2⟩
  subst hw2
  go_wp2_with fail
  go_region_held3 (fun W' => W'.cell? ⟨q, 1, none⟩ = some (.int .i64 x) ∧ W'.cell? ⟨q, 2, none⟩ = some (.int .u32 g) ∧ W'.cell? ⟨q, 3, none⟩ = some (.int .u64 v))
    (first | exact HZ.out.cells | exact HX.out.cells | exact HY.out.cells | exact HP.out.drew.cells | go_keep)
    (first
      | (go_at_call 16
         have _t := HY
         refine (LA.out _ HY.out.st.at').mono ?_
         rintro e w6 ⟨rfl, ht, ha⟩
         have HZ := Lib.hid (HY.out.turned ht ha)
         clear ht ha _t)
      | (go_at_call 16
         refine (LA.out _ HP.out.drew.st.at').mono ?_
         rintro e w5 ⟨rfl, ht, ha⟩
         have HX := Lib.hid (HP.out.drew.turned ht ha)
         clear ht ha)
      | (go_at_call 28
         have _t := HX
         refine (MA.out _ HX.out.st.rat HX.out.st.low).mono ?_
         rintro e w6 ⟨rfl, hm, hr6⟩
         have HZ := Lib.hid (HX.out.mod hm hr6)
         clear hm hr6 _t)
      | (go_at_call 28
         refine (MA.out _ HP.out.drew.st.rat HP.out.drew.st.low).mono ?_
         rintro e w5 ⟨rfl, hm, hr6⟩
         have HY := Lib.hid (HP.out.drew.mod hm hr6)
         clear hm hr6))
  all_goals
    clear y1 y2 y3
    go_wp2_with fail
    go_ret2
    exact ⟨p, a, m, s', rfl, HZ.out.keep, HZ.out.st, HO.out⟩

theorem does_lock3 {K : List Nat} {B : Nat} {W : World} {p a m r : Nat} {s : Lk} {N : Int} (h : St K B W p a m r s s) (hk : s.Ok N) (hN : N ≤ 1000000) (c x g v : Int) (hr : RefOk x g) (hv : W64 v) (hc : c % 8 = 3) :
    Calls Try.prog 9 #[.pointer (some ⟨p, 0, none⟩), .pointer (some ⟨r, 0, none⟩), deedV c x g v] W (DoesP K B W r N) := by
  have HP := Lib.hid (Pr.start c x g v h)
  have HQ : Hid (W.alloc (.cells (deedC c x g v) 37) = W.alloc (.cells (deedC c x g v) 37)) := rfl
  have HPK := Lib.hid (pick_any c 8 (by decide) (by decide))
  rw [hc] at HPK
  have ho := ref_ok h.at'
  have hl : s.l.length ≤ 1000000 := by have := hk.len; omega
  have h64 : W64 (zeroW (getW s.l x g)) := get_w64 hk x g
  have hok := lock_ok hk x g (zeroW (getW s.l x g))
  have LA : Hid (∀ W', At W' p a m s → Calls Try.prog 16 #[.pointer (some ⟨p, 0, none⟩), refV x g, .int .u64 (zeroW (getW s.l x g))] W' fun e w' => e = .returned (.bool (lockB s x g (zeroW (getW s.l x g)))) ∧ Turned [a, m] W' w' ∧ At w' p a m (lockS s x g (zeroW (getW s.l x g)))) := fun W' hA => lock_any hA hk hN x g _ hr
  have MA : Hid (∀ W', RAt W' B r s.l s.taken → B ≤ W'.heap.size → Calls Try.prog 28 #[.pointer (some ⟨r, 0, none⟩), refV x g, .int .u64 (zeroW (getW s.l x g))] W' fun e w' => e = .returned (.bool (lockB s x g (zeroW (getW s.l x g)))) ∧ Mod B r W' w' ∧ RAt w' B r (lockS s x g (zeroW (getW s.l x g))).l (lockS s x g (zeroW (getW s.l x g))).taken) := fun W' hA _ => rlock_any hA hk hN ho x g _ hr h64
  have BA : Hid (∀ W', RAt W' B r s.l s.taken → Calls Try.prog 29 #[.pointer (some ⟨r, 0, none⟩), refV x g] W' fun e w' => e = .returned (.tuple #[.int .u64 (zeroW (getW s.l x g)), .int .i64 (stOf (getW s.l x g))]) ∧ Below W'.heap.size W' w') := fun W' hA => rbegin_any hA ho hk.w hl x g hr
  obtain ⟨z, hz⟩ : ∃ z, zeroW (getW s.l x g) = z := ⟨_, rfl⟩
  obtain ⟨st, hst⟩ : ∃ z, stOf (getW s.l x g) = z := ⟨_, rfl⟩
  rw [hz] at LA MA BA hok
  rw [hst] at BA
  obtain ⟨k, hk'⟩ : ∃ k, lockB s x g z = k := ⟨_, rfl⟩
  obtain ⟨s', hs'⟩ : ∃ s', lockS s x g z = s' := ⟨_, rfl⟩
  rw [hk', hs'] at LA MA
  rw [hs'] at hok
  have HO := Lib.hid hok
  have kk : (k == k) = true := by simp
  clear h hk ho hl h64 hok hk' hs' hc hr hv hN hz hst
  go_enter Try.func9, Try.ntmps9
  go_upto_region 1 with fail
  obtain ⟨W1, hW1⟩ : ∃ W1, W1 = W.alloc (.cells (deedC c x g v) 37) := ⟨_, rfl⟩
  change Code.wp _ _ _ _ (W.alloc (.cells (deedC c x g v) 37))
  rw [← hW1] at HP ⊢
  clear hW1 HQ
  obtain ⟨q, hq⟩ : ∃ q, W.heap.size = q := ⟨_, rfl⟩
  rw [hq] at HP ⊢
  clear hq
  obtain ⟨y1, y2, y3⟩ := HP.out.cells
  have y0 := HP.out.cell0
  go_wp2_with fail
  refine (HPK.out _).mono ?_
  rintro e w2 ⟨rfl, hw2⟩
  subst hw2
  go_wp2_with fail
  refine (BA.out _ HP.out.st.rat).mono ?_
  rintro e w2 ⟨rfl, hb2⟩
  have HP2 := Lib.hid (HP.out.below hb2)
  clear hb2 y0 y1 y2 y3
  obtain ⟨y1, y2, y3⟩ := HP2.out.cells
  go_wp2_with fail
  go_region_held3 (fun W' => W'.cell? ⟨q, 1, none⟩ = some (.int .i64 x) ∧ W'.cell? ⟨q, 2, none⟩ = some (.int .u32 g) ∧ W'.cell? ⟨q, 3, none⟩ = some (.int .u64 v))
    (first | exact HZ.out.cells | exact HX.out.cells | exact HY.out.cells | exact HP2.out.drew.cells | go_keep)
    (first
      | (go_at_call 16
         have _t := HY
         refine (LA.out _ HY.out.st.at').mono ?_
         rintro e w6 ⟨rfl, ht, ha⟩
         have HZ := Lib.hid (HY.out.turned ht ha)
         clear ht ha _t)
      | (go_at_call 16
         refine (LA.out _ HP2.out.drew.st.at').mono ?_
         rintro e w5 ⟨rfl, ht, ha⟩
         have HX := Lib.hid (HP2.out.drew.turned ht ha)
         clear ht ha)
      | (go_at_call 28
         have _t := HX
         refine (MA.out _ HX.out.st.rat HX.out.st.low).mono ?_
         rintro e w6 ⟨rfl, hm, hr6⟩
         have HZ := Lib.hid (HX.out.mod hm hr6)
         clear hm hr6 _t)
      | (go_at_call 28
         refine (MA.out _ HP2.out.drew.st.rat HP2.out.drew.st.low).mono ?_
         rintro e w5 ⟨rfl, hm, hr6⟩
         have HY := Lib.hid (HP2.out.drew.mod hm hr6)
         clear hm hr6))
  all_goals
    clear y1 y2 y3
    go_wp2_with fail
    go_ret2
    exact ⟨p, a, m, s', rfl, HZ.out.keep, HZ.out.st, HO.out⟩

theorem does_drop {K : List Nat} {B : Nat} {W : World} {p a m r : Nat} {s : Lk} {N : Int} (h : St K B W p a m r s s) (hk : s.Ok N) (hN : N ≤ 1000000) (c x g v : Int) (hr : RefOk x g) (hv : W64 v) (hc : c % 8 = 4) :
    Calls Try.prog 9 #[.pointer (some ⟨p, 0, none⟩), .pointer (some ⟨r, 0, none⟩), deedV c x g v] W (DoesP K B W r N) := by
  have HP := Lib.hid (Pr.start c x g v h)
  have HQ : Hid (W.alloc (.cells (deedC c x g v) 37) = W.alloc (.cells (deedC c x g v) 37)) := rfl
  have HPK := Lib.hid (pick_any c 8 (by decide) (by decide))
  rw [hc] at HPK
  have ho := ref_ok h.at'
  have hl : s.l.length ≤ 1000000 := by have := hk.len; omega
  have hok : (relS (fun n => n - 1) s x g).1.Ok (N + 1) := (rel_ok hk _ drop_rel x g).more (by omega)
  have LA : Hid (∀ W', At W' p a m s → Calls Try.prog 17 #[.pointer (some ⟨p, 0, none⟩), refV x g] W' fun e w' => e = .returned (.int .i64 (relS (fun n => n - 1) s x g).2) ∧ Turned [a, m] W' w' ∧ At w' p a m (relS (fun n => n - 1) s x g).1) := fun W' hA => drop_any hA hk hN x g hr
  have MA : Hid (∀ W', RAt W' B r s.l s.taken → B ≤ W'.heap.size → Calls Try.prog 30 #[.pointer (some ⟨r, 0, none⟩), refV x g, .int .i64 0] W' fun e w' => e = .returned (.int .i64 (relS (fun n => n - 1) s x g).2) ∧ Mod B r W' w' ∧ RAt w' B r (relS (fun n => n - 1) s x g).1.l (relS (fun n => n - 1) s x g).1.taken) := fun W' hA hB => rturn_any hA hk hN ho x g hr 0 (by decide)
  obtain ⟨⟨s', k⟩, hs'⟩ : ∃ q, relS (fun n => n - 1) s x g = q := ⟨_, rfl⟩
  rw [hs'] at LA MA hok
  dsimp only at LA MA hok
  have HO := Lib.hid hok
  have kk : (k == k) = true := by simp
  clear h hk ho hl hok hs' hc hr hv hN
  go_enter Try.func9, Try.ntmps9
  go_upto_region 1 with fail
  obtain ⟨W1, hW1⟩ : ∃ W1, W1 = W.alloc (.cells (deedC c x g v) 37) := ⟨_, rfl⟩
  change Code.wp _ _ _ _ (W.alloc (.cells (deedC c x g v) 37))
  rw [← hW1] at HP ⊢
  clear hW1 HQ
  obtain ⟨q, hq⟩ : ∃ q, W.heap.size = q := ⟨_, rfl⟩
  rw [hq] at HP ⊢
  clear hq
  obtain ⟨y1, y2, y3⟩ := HP.out.cells
  have y0 := HP.out.cell0
  go_wp2_with fail
  refine (HPK.out _).mono ?_
  rintro e w2 ⟨rfl, hw2⟩
  subst hw2
  go_wp2_with fail
  go_region_held3 (fun W' => W'.cell? ⟨q, 1, none⟩ = some (.int .i64 x) ∧ W'.cell? ⟨q, 2, none⟩ = some (.int .u32 g) ∧ W'.cell? ⟨q, 3, none⟩ = some (.int .u64 v))
    (first | exact HZ.out.cells | exact HX.out.cells | exact HY.out.cells | exact HP.out.drew.cells | go_keep)
    (first
      | (go_at_call 17
         have _t := HY
         refine (LA.out _ HY.out.st.at').mono ?_
         rintro e w6 ⟨rfl, ht, ha⟩
         have HZ := Lib.hid (HY.out.turned ht ha)
         clear ht ha _t)
      | (go_at_call 17
         refine (LA.out _ HP.out.drew.st.at').mono ?_
         rintro e w5 ⟨rfl, ht, ha⟩
         have HX := Lib.hid (HP.out.drew.turned ht ha)
         clear ht ha)
      | (go_at_call 30
         have _t := HX
         refine (MA.out _ HX.out.st.rat HX.out.st.low).mono ?_
         rintro e w6 ⟨rfl, hm, hr6⟩
         have HZ := Lib.hid (HX.out.mod hm hr6)
         clear hm hr6 _t)
      | (go_at_call 30
         refine (MA.out _ HP.out.drew.st.rat HP.out.drew.st.low).mono ?_
         rintro e w5 ⟨rfl, hm, hr6⟩
         have HY := Lib.hid (HP.out.drew.mod hm hr6)
         clear hm hr6))
  all_goals
    clear y1 y2 y3
    go_wp2_with fail
    go_ret2
    exact ⟨p, a, m, s', rfl, HZ.out.keep, HZ.out.st, HO.out⟩

theorem does_done {K : List Nat} {B : Nat} {W : World} {p a m r : Nat} {s : Lk} {N : Int} (h : St K B W p a m r s s) (hk : s.Ok N) (hN : N ≤ 1000000) (c x g v : Int) (hr : RefOk x g) (hv : W64 v) (hc : c % 8 = 5) :
    Calls Try.prog 9 #[.pointer (some ⟨p, 0, none⟩), .pointer (some ⟨r, 0, none⟩), deedV c x g v] W (DoesP K B W r N) := by
  have HP := Lib.hid (Pr.start c x g v h)
  have HQ : Hid (W.alloc (.cells (deedC c x g v) 37) = W.alloc (.cells (deedC c x g v) 37)) := rfl
  have HPK := Lib.hid (pick_any c 8 (by decide) (by decide))
  rw [hc] at HPK
  have ho := ref_ok h.at'
  have hl : s.l.length ≤ 1000000 := by have := hk.len; omega
  have hok : (relS doneV s x g).1.Ok (N + 1) := (rel_ok hk _ done_rel x g).more (by omega)
  have LA : Hid (∀ W', At W' p a m s → Calls Try.prog 18 #[.pointer (some ⟨p, 0, none⟩), refV x g] W' fun e w' => e = .returned (.int .i64 (relS doneV s x g).2) ∧ Turned [a, m] W' w' ∧ At w' p a m (relS doneV s x g).1) := fun W' hA => done_any hA hk hN x g hr
  have MA : Hid (∀ W', RAt W' B r s.l s.taken → B ≤ W'.heap.size → Calls Try.prog 30 #[.pointer (some ⟨r, 0, none⟩), refV x g, .int .i64 1] W' fun e w' => e = .returned (.int .i64 (relS doneV s x g).2) ∧ Mod B r W' w' ∧ RAt w' B r (relS doneV s x g).1.l (relS doneV s x g).1.taken) := fun W' hA hB => rturn_any hA hk hN ho x g hr 1 (by decide)
  obtain ⟨⟨s', k⟩, hs'⟩ : ∃ q, relS doneV s x g = q := ⟨_, rfl⟩
  rw [hs'] at LA MA hok
  dsimp only at LA MA hok
  have HO := Lib.hid hok
  have kk : (k == k) = true := by simp
  clear h hk ho hl hok hs' hc hr hv hN
  go_enter Try.func9, Try.ntmps9
  go_upto_region 1 with fail
  obtain ⟨W1, hW1⟩ : ∃ W1, W1 = W.alloc (.cells (deedC c x g v) 37) := ⟨_, rfl⟩
  change Code.wp _ _ _ _ (W.alloc (.cells (deedC c x g v) 37))
  rw [← hW1] at HP ⊢
  clear hW1 HQ
  obtain ⟨q, hq⟩ : ∃ q, W.heap.size = q := ⟨_, rfl⟩
  rw [hq] at HP ⊢
  clear hq
  obtain ⟨y1, y2, y3⟩ := HP.out.cells
  have y0 := HP.out.cell0
  go_wp2_with fail
  refine (HPK.out _).mono ?_
  rintro e w2 ⟨rfl, hw2⟩
  subst hw2
  go_wp2_with fail
  go_region_held3 (fun W' => W'.cell? ⟨q, 1, none⟩ = some (.int .i64 x) ∧ W'.cell? ⟨q, 2, none⟩ = some (.int .u32 g) ∧ W'.cell? ⟨q, 3, none⟩ = some (.int .u64 v))
    (first | exact HZ.out.cells | exact HX.out.cells | exact HY.out.cells | exact HP.out.drew.cells | go_keep)
    (first
      | (go_at_call 18
         have _t := HY
         refine (LA.out _ HY.out.st.at').mono ?_
         rintro e w6 ⟨rfl, ht, ha⟩
         have HZ := Lib.hid (HY.out.turned ht ha)
         clear ht ha _t)
      | (go_at_call 18
         refine (LA.out _ HP.out.drew.st.at').mono ?_
         rintro e w5 ⟨rfl, ht, ha⟩
         have HX := Lib.hid (HP.out.drew.turned ht ha)
         clear ht ha)
      | (go_at_call 30
         have _t := HX
         refine (MA.out _ HX.out.st.rat HX.out.st.low).mono ?_
         rintro e w6 ⟨rfl, hm, hr6⟩
         have HZ := Lib.hid (HX.out.mod hm hr6)
         clear hm hr6 _t)
      | (go_at_call 30
         refine (MA.out _ HP.out.drew.st.rat HP.out.drew.st.low).mono ?_
         rintro e w5 ⟨rfl, hm, hr6⟩
         have HY := Lib.hid (HP.out.drew.mod hm hr6)
         clear hm hr6))
  all_goals
    clear y1 y2 y3
    go_wp2_with fail
    go_ret2
    exact ⟨p, a, m, s', rfl, HZ.out.keep, HZ.out.st, HO.out⟩

theorem does_kill {K : List Nat} {B : Nat} {W : World} {p a m r : Nat} {s : Lk} {N : Int} (h : St K B W p a m r s s) (hk : s.Ok N) (hN : N ≤ 1000000) (c x g v : Int) (hr : RefOk x g) (hv : W64 v) (hc : c % 8 = 6) :
    Calls Try.prog 9 #[.pointer (some ⟨p, 0, none⟩), .pointer (some ⟨r, 0, none⟩), deedV c x g v] W (DoesP K B W r N) := by
  have HP := Lib.hid (Pr.start c x g v h)
  have HQ : Hid (W.alloc (.cells (deedC c x g v) 37) = W.alloc (.cells (deedC c x g v) 37)) := rfl
  have HPK := Lib.hid (pick_any c 8 (by decide) (by decide))
  rw [hc] at HPK
  have ho := ref_ok h.at'
  have hl : s.l.length ≤ 1000000 := by have := hk.len; omega
  have hok : (relS killV s x g).1.Ok (N + 1) := (rel_ok hk _ kill_rel x g).more (by omega)
  have LA : Hid (∀ W', At W' p a m s → Calls Try.prog 19 #[.pointer (some ⟨p, 0, none⟩), refV x g] W' fun e w' => e = .returned (.int .i64 (relS killV s x g).2) ∧ Turned [a, m] W' w' ∧ At w' p a m (relS killV s x g).1) := fun W' hA => kill_any hA hk hN x g hr
  have MA : Hid (∀ W', RAt W' B r s.l s.taken → B ≤ W'.heap.size → Calls Try.prog 30 #[.pointer (some ⟨r, 0, none⟩), refV x g, .int .i64 2] W' fun e w' => e = .returned (.int .i64 (relS killV s x g).2) ∧ Mod B r W' w' ∧ RAt w' B r (relS killV s x g).1.l (relS killV s x g).1.taken) := fun W' hA hB => rturn_any hA hk hN ho x g hr 2 (by decide)
  obtain ⟨⟨s', k⟩, hs'⟩ : ∃ q, relS killV s x g = q := ⟨_, rfl⟩
  rw [hs'] at LA MA hok
  dsimp only at LA MA hok
  have HO := Lib.hid hok
  have kk : (k == k) = true := by simp
  clear h hk ho hl hok hs' hc hr hv hN
  go_enter Try.func9, Try.ntmps9
  go_upto_region 1 with fail
  obtain ⟨W1, hW1⟩ : ∃ W1, W1 = W.alloc (.cells (deedC c x g v) 37) := ⟨_, rfl⟩
  change Code.wp _ _ _ _ (W.alloc (.cells (deedC c x g v) 37))
  rw [← hW1] at HP ⊢
  clear hW1 HQ
  obtain ⟨q, hq⟩ : ∃ q, W.heap.size = q := ⟨_, rfl⟩
  rw [hq] at HP ⊢
  clear hq
  obtain ⟨y1, y2, y3⟩ := HP.out.cells
  have y0 := HP.out.cell0
  go_wp2_with fail
  refine (HPK.out _).mono ?_
  rintro e w2 ⟨rfl, hw2⟩
  subst hw2
  go_wp2_with fail
  go_region_held3 (fun W' => W'.cell? ⟨q, 1, none⟩ = some (.int .i64 x) ∧ W'.cell? ⟨q, 2, none⟩ = some (.int .u32 g) ∧ W'.cell? ⟨q, 3, none⟩ = some (.int .u64 v))
    (first | exact HZ.out.cells | exact HX.out.cells | exact HY.out.cells | exact HP.out.drew.cells | go_keep)
    (first
      | (go_at_call 19
         have _t := HY
         refine (LA.out _ HY.out.st.at').mono ?_
         rintro e w6 ⟨rfl, ht, ha⟩
         have HZ := Lib.hid (HY.out.turned ht ha)
         clear ht ha _t)
      | (go_at_call 19
         refine (LA.out _ HP.out.drew.st.at').mono ?_
         rintro e w5 ⟨rfl, ht, ha⟩
         have HX := Lib.hid (HP.out.drew.turned ht ha)
         clear ht ha)
      | (go_at_call 30
         have _t := HX
         refine (MA.out _ HX.out.st.rat HX.out.st.low).mono ?_
         rintro e w6 ⟨rfl, hm, hr6⟩
         have HZ := Lib.hid (HX.out.mod hm hr6)
         clear hm hr6 _t)
      | (go_at_call 30
         refine (MA.out _ HP.out.drew.st.rat HP.out.drew.st.low).mono ?_
         rintro e w5 ⟨rfl, hm, hr6⟩
         have HY := Lib.hid (HP.out.drew.mod hm hr6)
         clear hm hr6))
  all_goals
    clear y1 y2 y3
    go_wp2_with fail
    go_ret2
    exact ⟨p, a, m, s', rfl, HZ.out.keep, HZ.out.st, HO.out⟩

theorem At.other {W W' : World} {p a m : Nat} {s : Lk} {S : List Nat} (h : At W p a m s) (ht : Turned S W W') (h1 : p ∉ S) (h2 : a ∉ S) (h3 : m ∉ S) : At W' p a m s :=
  ⟨ht.other h.hp h1, ht.other h.ha h2, h.hm.turned ht h3, h.uniq⟩
/-- A copy beside the table that is copied. -/
structure Cp (K : List Nat) (B : Nat) (W W' : World) (p a m p' a' m' r q : Nat) (c x g v : Int) (t s : Lk) : Prop where
  pr : Pr K B W W' p a m r q c x g v t s
  cp : At W' p' a' m' s
  np : p' ∉ [a, m]
  na : a' ∉ [a, m]
  nm : m' ∉ [a, m]
theorem Cp.turned {K : List Nat} {B : Nat} {W W' W'' : World} {p a m p' a' m' r q : Nat} {c x g v : Int} {t t' s : Lk} (h : Cp K B W W' p a m p' a' m' r q c x g v t s) (ht : Turned [a, m] W' W'') (ha : At W'' p a m t') : Cp K B W W'' p a m p' a' m' r q c x g v t' s :=
  ⟨h.pr.turned ht ha, h.cp.other ht h.np h.na h.nm, h.np, h.na, h.nm⟩
theorem Cp.below {K : List Nat} {B : Nat} {W W' W'' : World} {p a m p' a' m' r q : Nat} {c x g v : Int} {t s : Lk} (h : Cp K B W W' p a m p' a' m' r q c x g v t s) (hb : Below W'.heap.size W' W'') : Cp K B W W'' p a m p' a' m' r q c x g v t s :=
  ⟨h.pr.below hb, h.cp.below hb, h.np, h.na, h.nm⟩
theorem ref4000 : RefOk 4000 9 := by constructor <;> decide

theorem does_copy {K : List Nat} {B : Nat} {W : World} {p a m r : Nat} {s : Lk} {N : Int} (h : St K B W p a m r s s) (hk : s.Ok N) (hN : N ≤ 900000) (c x g v : Int) (hr : RefOk x g) (hc : c % 8 = 7) :
    Calls Try.prog 9 #[.pointer (some ⟨p, 0, none⟩), .pointer (some ⟨r, 0, none⟩), deedV c x g v] W (DoesP K B W r N) := by
  have HP := Lib.hid (Pr.start c x g v h)
  have HPK := Lib.hid (pick_any c 8 (by decide) (by decide))
  rw [hc] at HPK
  have hk1 := add_ok hk 4000 9
  obtain ⟨s1, hs1⟩ : ∃ y, (addS s 4000 9).1 = y := ⟨_, rfl⟩
  obtain ⟨r1, hr1⟩ : ∃ y, (addS s 4000 9).2 = y := ⟨_, rfl⟩
  have L1 : Hid (∀ W', At W' p a m s → Calls Try.prog 13 #[.pointer (some ⟨p, 0, none⟩), refV 4000 9] W' fun e w' => e = .returned (.int .i64 r1) ∧ Turned [a, m] W' w' ∧ At w' p a m s1) := fun W' hA => by rw [← hs1, ← hr1]; exact add_any hA 4000 9 ref4000
  rw [hs1] at hk1
  have L2 : Hid (∀ W', At W' p a m s1 → Calls Try.prog 12 #[.pointer (some ⟨p, 0, none⟩), refV x g] W' fun e w' => e = .returned (.tuple #[.int .u64 (zeroW (getW s1.l x g)), .int .i64 (stOf (getW s1.l x g))]) ∧ Below W'.heap.size W' w') := fun W' hA => begin_any hA x g hr hk1.w
  obtain ⟨z, hz⟩ : ∃ z, zeroW (getW s1.l x g) = z := ⟨_, rfl⟩
  obtain ⟨st, hst⟩ : ∃ z, stOf (getW s1.l x g) = z := ⟨_, rfl⟩
  rw [hz, hst] at L2
  have hk2 := lock_ok hk1 x g z
  obtain ⟨s2, hs2⟩ : ∃ y, lockS s1 x g z = y := ⟨_, rfl⟩
  obtain ⟨b2, hb2⟩ : ∃ y, lockB s1 x g z = y := ⟨_, rfl⟩
  have L3 : Hid (∀ W', At W' p a m s1 → Calls Try.prog 16 #[.pointer (some ⟨p, 0, none⟩), refV x g, .int .u64 z] W' fun e w' => e = .returned (.bool b2) ∧ Turned [a, m] W' w' ∧ At w' p a m s2) := fun W' hA => by rw [← hs2, ← hb2]; exact lock_any hA hk1 (by omega) x g z hr
  rw [hs2] at hk2
  have hk3 := rel_ok hk2 _ done_rel x g
  obtain ⟨s3, hs3⟩ : ∃ y, (relS doneV s2 x g).1 = y := ⟨_, rfl⟩
  obtain ⟨r3, hr3⟩ : ∃ y, (relS doneV s2 x g).2 = y := ⟨_, rfl⟩
  have L4 : Hid (∀ W', At W' p a m s2 → Calls Try.prog 18 #[.pointer (some ⟨p, 0, none⟩), refV x g] W' fun e w' => e = .returned (.int .i64 r3) ∧ Turned [a, m] W' w' ∧ At w' p a m s3) := fun W' hA => by rw [← hs3, ← hr3]; exact done_any hA hk2 (by omega) x g hr
  rw [hs3] at hk3
  obtain ⟨s4, hs4⟩ : ∃ y, (goneS s3 x g).1 = y := ⟨_, rfl⟩
  obtain ⟨r4, hr4⟩ : ∃ y, (goneS s3 x g).2 = y := ⟨_, rfl⟩
  have L5 : Hid (∀ W', At W' p a m s3 → Calls Try.prog 14 #[.pointer (some ⟨p, 0, none⟩), refV x g] W' fun e w' => e = .returned (.int .i64 r4) ∧ Turned [a, m] W' w' ∧ At w' p a m s4) := fun W' hA => by rw [← hs4, ← hr4]; exact gone_any hA hk3 (by omega) x g hr
  have HO := Lib.hid (hk.more (show N ≤ N + 1 by omega))
  clear h hk hN hr hc hk1 hs1 hr1 hz hst hk2 hs2 hb2 hk3 hs3 hr3 hs4 hr4
  go_enter Try.func9, Try.ntmps9
  go_upto_region 1 with fail
  obtain ⟨W1, hW1⟩ : ∃ W1, W1 = W.alloc (.cells (deedC c x g v) 37) := ⟨_, rfl⟩
  change Code.wp _ _ _ _ (W.alloc (.cells (deedC c x g v) 37))
  rw [← hW1] at HP ⊢
  clear hW1
  obtain ⟨q, hq⟩ : ∃ q, W.heap.size = q := ⟨_, rfl⟩
  rw [hq] at HP ⊢
  clear hq
  have y0 := HP.out.cell0
  go_wp2_with fail
  refine (HPK.out _).mono ?_
  rintro e w2 ⟨rfl, hw2⟩
  subst hw2
  clear y0
  go_wp2_with fail
  refine (copy_any HP.out.st.at').mono ?_
  rintro e w3 ⟨p', a', m', h1, h2, h3, rfl, hb3, ha3⟩
  have HC : Hid (Cp K B W w3 p a m p' a' m' r q c x g v s s) := by
    have e1 := HP.out.st.at'.ha.lt
    have e2 := HP.out.st.at'.hm.lt
    exact ⟨HP.out.below hb3, ha3, by simp; omega, by simp; omega, by simp; omega⟩
  have HL : Hid (B ≤ a' ∧ B ≤ m') := ⟨Nat.le_trans HP.out.st.low h2, Nat.le_trans HP.out.st.low h3⟩
  clear h1 h2 h3 hb3 ha3
  go_wp2_with fail
  refine (L1.out _ HC.out.pr.st.at').mono ?_
  rintro e w4 ⟨rfl, ht, ha⟩
  have HC4 := Lib.hid (HC.out.turned ht ha)
  clear ht ha
  obtain ⟨y1, y2, y3⟩ := HC4.out.pr.cells
  go_wp2_with fail
  refine (L2.out _ HC4.out.pr.st.at').mono ?_
  rintro e w5 ⟨rfl, hb⟩
  have HC5 := Lib.hid (HC4.out.below hb)
  clear hb y1 y2 y3
  obtain ⟨y1, y2, y3⟩ := HC5.out.pr.cells
  go_wp2_with fail
  refine (L3.out _ HC5.out.pr.st.at').mono ?_
  rintro e w6 ⟨rfl, ht, ha⟩
  have HC6 := Lib.hid (HC5.out.turned ht ha)
  clear ht ha y1 y2 y3
  obtain ⟨y1, y2, y3⟩ := HC6.out.pr.cells
  go_wp2_with fail
  refine (L4.out _ HC6.out.pr.st.at').mono ?_
  rintro e w7 ⟨rfl, ht, ha⟩
  have HC7 := Lib.hid (HC6.out.turned ht ha)
  clear ht ha y1 y2 y3
  obtain ⟨y1, y2, y3⟩ := HC7.out.pr.cells
  go_wp2_with fail
  refine (L5.out _ HC7.out.pr.st.at').mono ?_
  rintro e w8 ⟨rfl, ht, ha⟩
  have HC8 := Lib.hid (HC7.out.turned ht ha)
  clear ht ha y1 y2 y3
  go_wp2_with fail
  go_ret2
  exact ⟨p', a', m', s, rfl, HC8.out.pr.keep, ⟨HC8.out.cp, HC8.out.pr.st.rat, .inr HL.out.1, .inr HL.out.2, HC8.out.pr.st.kr, HC8.out.pr.st.rB, HC8.out.pr.st.low⟩, HO.out⟩

theorem does_any {K : List Nat} {B : Nat} {W : World} {p a m r : Nat} {s : Lk} {N : Int} (h : St K B W p a m r s s) (hk : s.Ok N) (hN : N ≤ 900000) (c x g v : Int) (hr : RefOk x g) (hv : W64 v) :
    Calls Try.prog 9 #[.pointer (some ⟨p, 0, none⟩), .pointer (some ⟨r, 0, none⟩), deedV c x g v] W (DoesP K B W r N) := by
  rcases (show c % 8 = 0 ∨ c % 8 = 1 ∨ c % 8 = 2 ∨ c % 8 = 3 ∨ c % 8 = 4 ∨ c % 8 = 5 ∨ c % 8 = 6 ∨ c % 8 = 7 from by omega) with e | e | e | e | e | e | e | e
  · exact does_add h hk (by omega) c x g v hr hv e
  · exact does_gone h hk (by omega) c x g v hr hv e
  · exact does_lock2 h hk (by omega) c x g v hr hv e
  · exact does_lock3 h hk (by omega) c x g v hr hv e
  · exact does_drop h hk (by omega) c x g v hr hv e
  · exact does_done h hk (by omega) c x g v hr hv e
  · exact does_kill h hk (by omega) c x g v hr hv e
  · exact does_copy h hk hN c x g v hr e
end Go.Proofs.Ythhmbmeajgjhcaa
