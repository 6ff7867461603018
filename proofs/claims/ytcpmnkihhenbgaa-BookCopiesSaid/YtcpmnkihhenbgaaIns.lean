/- Laying keys into a row of strings; slices.Insert of one key, behind the last one and before another one. -/
import Derived.Test.YtcpmnkihhenbgaaRowS
import Derived.Lib.Overlaps
import Derived.Laws.Externs
import Derived.Lib.AppendZeros
import Derived.Lib.AppendZerosOnto
import Derived.Deep.AppendSrc
import Derived.Shelf.Spec.SlicesInsert
namespace Go.Proofs.Ytcpmnkihhenbgaa
open Go.RowKit
set_option maxRecDepth 1000000
set_option maxHeartbeats 4000000

def strs (ks : List ByteArray) : List Value := ks.map .string
theorem strs_len (ks : List ByteArray) : (strs ks).length = ks.length := by simp [strs]
theorem strs_get (ks : List ByteArray) (j : Nat) : (strs ks)[j]? = ks[j]?.map .string := by simp [strs]
theorem strs_at {ks : List ByteArray} {j : Nat} {v : Value} (h : (strs ks)[j]? = some v) : ∃ k, ks[j]? = some k ∧ v = .string k := by
  rw [strs_get] at h
  obtain ⟨k, h1, h2⟩ := Option.map_eq_some_iff.1 h
  exact ⟨k, h1, h2.symm⟩
theorem strs_small {ks : List ByteArray} {v : Value} (h : v ∈ strs ks) : v.oneCell' = true := by
  obtain ⟨k, _, rfl⟩ := List.mem_map.1 h
  rfl
theorem Fresh.shape {W : World} {p : Nat} {cs : Array Value} {t : TypeId} (h : Fresh W p cs t) : W.shape? p = some (t, cs.size) := by
  unfold Fresh at h
  simp [World.shape?, h]
theorem infoS : ∃ i0 : TypeInfo, Try.prog.info? 9 = some i0 ∧ i0.zero = some (.string ⟨#[]⟩) ∧ i0.size = 1 ∧ i0.bytes = 16 := by
  have h : (Try.prog.info? 9).map (fun i => (i.zero, i.size, i.bytes)) = some (some (.string ⟨#[]⟩), 1, 16) := by kernel_rfl
  obtain ⟨i0, h1, h2⟩ := Option.map_eq_some_iff.1 h
  simp only [Prod.mk.injEq] at h2
  exact ⟨i0, h1, h2.1, h2.2.1, h2.2.2⟩

/-- A row of cells into which keys were laid from a place on. -/
structure Laid (o : Nat) (xs : List ByteArray) (cs cs' : Array Value) : Prop where
  size : cs'.size = cs.size
  here : ∀ (j : Nat) (k : ByteArray), xs[j]? = some k → o + j < cs.size → cs'[o + j]? = some (.string k)
  else_ : ∀ j, (j < o ∨ o + xs.length ≤ j) → cs'[j]? = cs[j]?
theorem lay_cells {W : World} {b : Nat} {cs : Array Value} (hf : Fresh W b cs 9) (o : Nat) (xs : List ByteArray) :
    ∃ cs', Fresh (W.setCells b o (strs xs)) b cs' 9 ∧ Laid o xs cs cs' ∧ Turned [b] W (W.setCells b o (strs xs)) := by
  obtain ⟨cs', h1, h2, h3, h4⟩ := Fresh.setCells (strs xs) hf o
  refine ⟨cs', h1, ⟨h2, fun j k hj hlt => ?_, fun j hj => h4 j (by rw [strs_len]; exact hj)⟩, Turned.setCells _ (Turned.refl _ _) (.inl (by simp)) _⟩
  have hjl := (List.getElem?_eq_some_iff.1 hj).1
  rw [h3 _ (by omega) (by rw [strs_len]; omega) hlt, show o + j - o = j from by omega, strs_get, hj]
  rfl
/-- The builtin copy of keys into a row. -/
theorem lay_copy {W : World} {b : Nat} {cs : Array Value} (hf : Fresh W b cs 9) (tx : TypeId) (o k : Nat) (a : Addr) (m : Nat) (xs : List ByteArray) (hl : xs.length = Nat.min m k) (hfit : o + xs.length ≤ cs.size)
    (hsrc : ∀ (j : Nat) (x : ByteArray), xs[j]? = some x → W.cell? (a.add j) = some (.string x)) :
    ∃ W' cs', (∀ ty kc mc, (Builtin.copy_ #[70, tx] ty #[.slice (some ⟨b, o, none⟩) k kc, .slice (some a) m mc]).run Try.prog W = .ok (goInt xs.length) W') ∧ Fresh W' b cs' 9 ∧ Laid o xs cs cs' ∧ Turned [b] W W' := by
  obtain ⟨i0, hi0, _, hz, _⟩ := infoS
  obtain ⟨cs', h1, h2, h3⟩ := lay_cells hf o xs
  refine ⟨_, cs', fun ty kc mc => ?_, h1, h2, h3⟩
  rw [← strs_len xs]
  refine run_copy_cells W _ tx ty 9 b o k kc a m mc (strs xs) Try.underlying70 (by rw [hi0]; simp [hz]) (by rw [strs_len]; exact hl) (fun j v hj => ?_) (fun j hj => ?_) (fun j _ => hf.thawed _) (fun v hv => strs_small hv)
  · obtain ⟨x, hx, rfl⟩ := strs_at hj
    exact hsrc j x hx
  · rw [strs_len] at hj
    rw [hf.cell, Array.getElem?_eq_getElem (by omega)]
    rfl
/-- The key appended to a row: with room or without. -/
theorem lay_append {W : World} {e : Nat} {ks : List ByteArray} {v : Value} (h : RowS W e ks v) (x : ByteArray) (hn : ks.length < 1000000) {vb : Nat} (hv : Fresh W vb #[.string x] 9) :
    ∃ v' W' e2, (∀ ty, (Builtin.append_ #[70, 69] ty #[v, .slice (some ⟨vb, 0, none⟩) 1 1]).run Try.prog W = .ok v' W') ∧ (e2 = e ∨ W.heap.size ≤ e2) ∧ Turned [e] W W' ∧ RowS W' e2 (ks ++ [x]) v' ∧ (v = .slice none 0 0 → Turned [] W W') ∧ ∃ cur, Fresh W' e2 cur 9 := by
  obtain ⟨i0, hi0, hz0, hzs, hzb⟩ := infoS
  have hsrc : Src Try.prog i0.size 69 (.slice (some ⟨vb, 0, none⟩) 1 1) 1 [.string x] W := by
    refine Src.ofSlice W Try.underlying69 ⟨vb, 0, none⟩ 1 1 [.string x] (by rw [hzs]; rfl) (fun j u hj => ?_) (by intro u hu; simp at hu; subst hu; rfl)
    rw [Addr.add_lit, Nat.zero_add, hv.cell]
    simpa using hj
  -- without room, over whatever stands there
  have grow : ∀ (a : Option Addr) c, v = .slice a ks.length c → ks.length ≤ c → c < ks.length + 1 → (Builtin.firstCells i0.size ks.length (.slice a ks.length c)).run Try.prog W.drew = .ok (strs ks).toArray W.drew →
      ∃ v' W' e2, (∀ ty, (Builtin.append_ #[70, 69] ty #[v, .slice (some ⟨vb, 0, none⟩) 1 1]).run Try.prog W = .ok v' W') ∧ (e2 = e ∨ W.heap.size ≤ e2) ∧ Turned [e] W W' ∧ RowS W' e2 (ks ++ [x]) v' ∧ (v = .slice none 0 0 → Turned [] W W') ∧ ∃ cur, Fresh W' e2 cur 9 := by
    rintro a c rfl h1 h2 h3
    obtain ⟨G, hG⟩ : ∃ G, grownCap W (ks.length + 1) c 9 = G := ⟨_, rfl⟩
    have g1 : ks.length + 1 ≤ G := by rw [← hG]; exact grownCap_ge W _ _ _
    have g2 : G ≤ maxLen := by rw [← hG]; exact grownCap_le_maxLen W _ c _ (by unfold maxLen; omega)
    have hF := Fresh.new W.drew W.heap.size ((strs ks ++ [Value.string x]).toArray ++ Builtin.zeroCells (Value.string ⟨#[]⟩).cells (G - (ks.length + 1))) 9 rfl
    refine ⟨.slice (some ⟨W.heap.size, 0, none⟩) (ks.length + 1) G, _, W.heap.size, fun ty => ?_, .inr (Nat.le_refl _), ((Turned.refl [e] W).drew).alloc _, ⟨.inr ⟨G, _, ?_, hF, by simpa using g1, by unfold maxLen at g2; omega, ?_, fun j k hk => ?_⟩⟩, fun _ => ((Turned.refl [] W).drew).alloc _, _, hF⟩
    · have := run_append_grow_src W 70 69 ty 9 i0 _ Try.underlying70 hi0 hz0 a ks.length c (strs ks) h3 _ 1 [.string x] hsrc (by omega) (by omega) (by rw [hzb]; exact growslice_fits (by omega) (by omega))
      rw [hG] at this
      exact this
    · simp
    · simp [Builtin.zeroCells, Value.cells, strs]; omega
    · have hj := (List.getElem?_eq_some_iff.1 hk).1
      simp at hj
      rw [Array.getElem?_append_left (by simp [strs]; omega)]
      have e1 : strs ks ++ [Value.string x] = strs (ks ++ [x]) := by simp [strs]
      rw [e1, List.getElem?_toArray, strs_get, hk]
      rfl
  rcases h.form with ⟨rfl, rfl⟩ | ⟨cap, cur, rfl, hf, h3, h4, h5, h6⟩
  · refine grow none 0 rfl (Nat.le_refl _) (by simp) ?_
    rw [hzs]
    exact run_firstCells_none W.drew 1 0 0 0
  · by_cases hr : cap < ks.length + 1
    · refine grow (some ⟨e, 0, none⟩) cap rfl h3 hr ?_
      rw [hzs]
      refine run_firstCells_some W.drew 1 ks.length ⟨e, 0, none⟩ ks.length cap (strs ks) (by rw [strs_len, Nat.mul_one]) (fun j u hu => ?_)
      obtain ⟨k, hk, rfl⟩ := strs_at hu
      rw [Addr.add_lit, Nat.zero_add, hf.drew.cell]
      exact h6 j k hk
    · obtain ⟨cs', k1, k2, k3⟩ := lay_cells hf ks.length [x]
      refine ⟨.slice (some ⟨e, 0, none⟩) (ks.length + 1) cap, _, e, fun ty => ?_, .inl rfl, k3, ⟨.inr ⟨cap, cs', by simp, k1, by simp; omega, h4, by rw [k2.size]; exact h5, fun j k hk => ?_⟩⟩, (fun hx => by cases hx), _, k1⟩
      · have := run_append_room_src (w := W) 70 69 ty 9 i0 Try.underlying70 hi0 e 0 ks.length cap _ 1 [.string x] hsrc (by omega) (fun j hj => by rw [hf.cell, hzs, Array.getElem?_eq_getElem (by simp at hj; omega)]; rfl) (fun j _ => hf.thawed _)
        rw [hzs, Nat.mul_one, Nat.zero_add] at this
        exact this
      · by_cases hj : j < ks.length
        · rw [k2.else_ j (.inl hj)]
          rw [List.getElem?_append_left hj] at hk
          exact h6 j k hk
        · have hj2 := (List.getElem?_eq_some_iff.1 hk).1
          simp at hj2
          obtain rfl : j = ks.length := by omega
          have := k2.here 0 x rfl (by omega)
          simp at hk this
          rw [this, hk]
/-- What Insert leaves. -/
def Inserted (W : World) (e : Nat) (ks2 : List ByteArray) (v : Value) (e' : Ending) (w' : World) : Prop :=
  ∃ v' e2, e' = .returned v' ∧ (e2 = e ∨ W.heap.size ≤ e2) ∧ Turned [e] W w' ∧ RowS w' e2 ks2 v' ∧ (v = .slice none 0 0 → Turned [] W w') ∧ ∃ cur, Fresh w' e2 cur 9
theorem insert_end {W : World} {e : Nat} {ks : List ByteArray} {v : Value} (h : RowS W e ks v) (x : ByteArray) (hn : ks.length < 1000000) {vb : Nat} (hv : Fresh W vb #[.string x] 9) :
    Calls Try.prog 101 #[v, .int .i64 ks.length, .slice (some ⟨vb, 0, none⟩) 1 1] W (Inserted W e (ks ++ [x]) v) := by
  obtain ⟨v', W', e2, hrun, h1⟩ := lay_append h x hn hv
  have H1 := Lib.hid h1
  clear h1
  rcases h.form with ⟨rfl, rfl⟩ | ⟨cap, cur, rfl, _, h3, _⟩
  · simp only [List.length_nil, List.nil_append] at H1 ⊢
    go_enter Try.func101, Try.ntmps101
    go_wp2_with (at_builtin; refine Lib.wpList_append_run _ rfl _ _ _ _ rfl _ _ rfl rfl _ _ (hrun _) ?_)
    go_ret
    exact ⟨v', e2, rfl, H1.out.1, H1.out.2.1, H1.out.2.2.1, fun _ => H1.out.2.2.2.1 trivial, H1.out.2.2.2.2⟩
  · have hn0 : ks.length ≤ cap := h3
    go_enter Try.func101, Try.ntmps101
    go_wp2_with (at_builtin; refine Lib.wpList_append_run _ rfl _ _ _ _ rfl _ _ rfl rfl _ _ (hrun _) ?_)
    all_goals
      go_ret
      exact ⟨v', e2, rfl, H1.out.1, H1.out.2.1, H1.out.2.2.1, (fun hx => by cases hx), H1.out.2.2.2.2⟩
/-- Which cell holds what, once a key stands among the others. -/
theorem mid_row {ks : List ByteArray} {x : ByteArray} {i : Nat} {c : Array Value} (hi : i ≤ ks.length) (h1 : ∀ (j : Nat) (k : ByteArray), j < i → ks[j]? = some k → c[j]? = some (.string k)) (h2 : c[i]? = some (.string x))
    (h3 : ∀ (j : Nat) (k : ByteArray), (ks.drop i)[j]? = some k → c[i + 1 + j]? = some (.string k)) (j : Nat) (k : ByteArray) (h : (ks.take i ++ x :: ks.drop i)[j]? = some k) : c[j]? = some (.string k) := by
  have hl : (ks.take i).length = i := by rw [List.length_take]; omega
  rcases Nat.lt_or_ge j i with hj | hj
  · rw [List.getElem?_append_left (by omega), List.getElem?_take_of_lt hj] at h
    exact h1 j k hj h
  · rw [List.getElem?_append_right (by omega), hl] at h
    rcases Nat.eq_zero_or_pos (j - i) with h0 | h0
    · rw [h0] at h
      obtain rfl : x = k := by simpa using h
      obtain rfl : j = i := by omega
      exact h2
    · obtain ⟨t, ht⟩ : ∃ t, j - i = t + 1 := ⟨j - i - 1, by omega⟩
      rw [ht, List.getElem?_cons_succ] at h
      rw [show j = i + 1 + t from by omega]
      exact h3 t k h
theorem drop_cell {W : World} {e : Nat} {cur : Array Value} {ks : List ByteArray} (hf : Fresh W e cur 9) (h6 : ∀ (j : Nat) (k : ByteArray), ks[j]? = some k → cur[j]? = some (.string k)) (i : Nat) (j : Nat) (k : ByteArray) (h : (ks.drop i)[j]? = some k) : W.cell? ((⟨e, i, none⟩ : Addr).add j) = some (.string k) := by
  rw [List.getElem?_drop] at h
  rw [Addr.add_lit, hf.cell]
  exact h6 _ k h
/-- There is room: the keys behind it are moved up. -/
theorem insert_room {W : World} {e cap : Nat} {ks : List ByteArray} {cur : Array Value} (hf : Fresh W e cur 9) (hroom : ks.length + 1 ≤ cap) (hm : cap ≤ 9223372036854775807) (hc : cur.size = cap) (h6 : ∀ (j : Nat) (k : ByteArray), ks[j]? = some k → cur[j]? = some (.string k))
    (x : ByteArray) {i : Nat} (hi : i < ks.length) (hn : ks.length < 1000000) {vb : Nat} (hv : Fresh W vb #[.string x] 9) (hne : vb ≠ e) :
    Calls Try.prog 101 #[.slice (some ⟨e, 0, none⟩) ks.length cap, .int .i64 i, .slice (some ⟨vb, 0, none⟩) 1 1] W (Inserted W e (ks.take i ++ x :: ks.drop i) (.slice (some ⟨e, 0, none⟩) ks.length cap)) := by
  obtain ⟨n, hnn⟩ : ∃ n, ks.length = n := ⟨_, rfl⟩
  have hdl : (ks.drop i).length = n - i := by rw [List.length_drop, hnn]
  obtain ⟨W1, c1, r1, f1, l1, t1⟩ := lay_copy (W := W.drew) (b := e) (cs := cur) hf.drew 70 (i + 1) (n - i) ⟨e, i, none⟩ (n + 1 - i) (ks.drop i) (by rw [hdl]; simp only [Nat.min_def]; split <;> omega) (by rw [hdl, hc]; omega) (fun j k hj => drop_cell hf.drew h6 i j k hj)
  have hv1 : Fresh W1 vb #[.string x] 9 := t1.other hv.drew (by simpa using hne)
  obtain ⟨W2, c2, r2, f2, l2, t2⟩ := lay_copy (W := W1) (b := e) (cs := c1) f1 69 i (n + 1 - i) ⟨vb, 0, none⟩ 1 [x] (by simp only [Nat.min_def, List.length_singleton]; split <;> omega) (by rw [l1.size, hc]; simp; omega) (fun j k hj => by
    rw [Addr.add_lit, hv1.cell, Nat.zero_add]
    cases j with
    | zero => simpa using hj
    | succ j => simp at hj)
  have hov : ∀ lb cb, (callFunc 108 #[.slice (some ⟨vb, 0, none⟩) 1 1, .slice (some ⟨e, i + 1, none⟩) lb cb]).run Try.prog W = .ok (.value (.bool false)) W := fun lb cb => by
    rw [run_callFunc_extern Try.func108 (by kernel_rfl) (by kernel_rfl) (by kernel_rfl) (e := Extern.SlicesOverlaps.overlaps #[69, 69] #[4]) (by kernel_rfl)]
    rw [Lib.run_overlaps_apart W 69 4 9 Try.underlying69 1 (fun w => by kernel_rfl) ⟨vb, 0, none⟩ ⟨e, i + 1, none⟩ 1 1 lb cb hne _ _ _ _ hv.shape hf.shape (by omega) (hv.thawed 0) (hv.thawed _)]
    rfl
  have HE : Hid (Inserted W e (ks.take i ++ x :: ks.drop i) (.slice (some ⟨e, 0, none⟩) ks.length cap) (.returned (.slice (some ⟨e, 0, none⟩) (n + 1) cap)) W2) := by
    refine ⟨_, e, rfl, .inl rfl, ((Turned.refl _ _).drew.trans t1).trans t2, ⟨.inr ⟨cap, c2, by simp; omega, f2, by simp; omega, hm, by rw [l2.size, l1.size]; exact hc, ?_⟩⟩, (fun hx => by cases hx), _, f2⟩
    refine mid_row (by omega) (fun j k hj hk => ?_) ?_ (fun j k hk => ?_)
    · rw [l2.else_ j (.inl hj), l1.else_ j (.inl (by omega))]
      exact h6 j k hk
    · have := l2.here 0 x rfl (by rw [l1.size, hc]; omega)
      simpa using this
    · have hjl := (List.getElem?_eq_some_iff.1 hk).1
      rw [l2.else_ _ (.inr (by simp))]
      exact l1.here j k hk (by rw [hc]; omega)
  have mixed : Try.prog.follows .mixedOrders = true := by kernel_rfl
  rw [hnn] at HE hi hroom hn ⊢
  have z1 : ¬ ((i : Int) = (n : Int)) := by omega
  have z2 : ¬ (cap = i + 1) := by omega
  have z3 : ¬ (cap = i) := by omega
  have z4 : (0 : Int) ≤ (i : Int) + 1 := by omega
  have z5 : ((i : Int) + 1).toNat = i + 1 := by omega
  have z6 : IntKind.i64.wrap ((i : Int) + 1) = (i : Int) + 1 := by rw [IntKind.wrap_i64]; omega
  have z7 : (i : Int) ≤ (n : Int) + 1 := by omega
  have hin : i ≤ n := by omega
  clear f1 l1 t1 f2 l2 t2 hv1 hdl h6 hf hv hc
  go_enter Try.func101, Try.ntmps101
  go_wp2_with (simp only [hov])
  go_region_law_o (refine step_copy_runI rfl _ _ 70 70 rfl _ _ (by simp [Act.eval, Act.put]) (by simp [Act.eval, Act.put]) (r1 _ _ _) ?_)
  go_wp2_with (at_builtin; refine wpList_copy_runI _ rfl _ _ 70 69 rfl _ _ rfl rfl (r2 _ _ _) ?_)
  go_ret
  exact HE.out
/-- A new row, its head filled: what append of empty places makes. -/
theorem lay_places {W : World} {e n : Nat} {ks : List ByteArray} {cur : Array Value} (hf : Fresh W e cur 9) (hnn : ks.length = n) (h6 : ∀ (j : Nat) (k : ByteArray), ks[j]? = some k → cur[j]? = some (.string k)) {i : Nat} (hi : i < n) (hn : n < 1000000) :
    ∃ W' G c', (∀ ty, (Builtin.append_ #[70, 3] ty #[.slice (some ⟨e, 0, none⟩) i n, .int .i64 ((n : Int) + 1 - (i : Int))]).run Try.prog W = .ok (.slice (some ⟨W.heap.size, 0, none⟩) (n + 1) G) W') ∧ Fresh W' W.heap.size c' 9 ∧ c'.size = G ∧ n + 1 ≤ G ∧ G ≤ 9223372036854775807 ∧ (∀ (j : Nat) (k : ByteArray), j < i → ks[j]? = some k → c'[j]? = some (.string k)) ∧ Below W.heap.size W W' := by
  obtain ⟨i0, hi0, hz0, hzs, hzb⟩ := infoS
  obtain ⟨G, hG⟩ : ∃ G, grownCap W (n + 1) n 9 = G := ⟨_, rfl⟩
  have g1 : n + 1 ≤ G := by rw [← hG]; exact grownCap_ge W _ _ _
  have g2 : G ≤ maxLen := by rw [← hG]; exact grownCap_le_maxLen W _ _ _ (by unfold maxLen; omega)
  have hk : i + (n + 1 - i) = n + 1 := by omega
  have hold : (Builtin.firstCells i0.size i (.slice (some ⟨e, 0, none⟩) i n)).run Try.prog W.drew = .ok (strs (ks.take i)).toArray W.drew := by
    rw [hzs]
    refine run_firstCells_some W.drew 1 i ⟨e, 0, none⟩ i n (strs (ks.take i)) (by rw [strs_len, List.length_take, Nat.mul_one]; omega) (fun j u hu => ?_)
    obtain ⟨k, hk, rfl⟩ := strs_at hu
    rw [List.getElem?_take] at hk
    split at hk
    · rw [Addr.add_lit, Nat.zero_add, hf.drew.cell]; exact h6 j k hk
    · cases hk
  refine ⟨_, G, _, fun ty => ?_, Fresh.new W.drew W.heap.size ((strs (ks.take i)).toArray ++ Builtin.zeroCells (Value.string ⟨#[]⟩).cells (n + 1 - i) ++ Builtin.zeroCells (Value.string ⟨#[]⟩).cells (G - (n + 1))) 9 rfl, ?_, g1, by unfold maxLen at g2; omega, fun j k hj hjk => ?_, ((Below.refl _ _).drew).alloc (Nat.le_refl _) _⟩
  · have h := Lib.run_append_grow_zeros W 70 3 ty 9 i0 _ .i64 .i64 Try.underlying70 Try.underlying3 hi0 hz0 (some ⟨e, 0, none⟩) i n (strs (ks.take i)).toArray.toList hold (n + 1 - i) (by omega) (by omega) (by omega) (by omega) (by rw [hzb]; omega) (by rw [hzb, hk]; exact growslice_fits (by omega) (by omega))
    rw [hk, hG] at h
    rw [show (n : Int) + 1 - (i : Int) = ((n + 1 - i : Nat) : Int) from by omega]
    exact h
  · simp [Builtin.zeroCells, Value.cells, strs]; omega
  · have hjl := (List.getElem?_eq_some_iff.1 hjk).1
    rw [Array.append_assoc, Array.getElem?_append_left (by simp [strs]; omega), List.getElem?_toArray, strs_get, List.getElem?_take_of_lt hj, hjk]
    rfl
/-- There is no room: a new row. -/
theorem insert_grow {W : World} {e cap : Nat} {ks : List ByteArray} {cur : Array Value} (hf : Fresh W e cur 9) (hcap : cap = ks.length) (h6 : ∀ (j : Nat) (k : ByteArray), ks[j]? = some k → cur[j]? = some (.string k))
    (x : ByteArray) {i : Nat} (hi : i < ks.length) (hn : ks.length < 1000000) {vb : Nat} (hv : Fresh W vb #[.string x] 9) :
    Calls Try.prog 101 #[.slice (some ⟨e, 0, none⟩) ks.length cap, .int .i64 i, .slice (some ⟨vb, 0, none⟩) 1 1] W (Inserted W e (ks.take i ++ x :: ks.drop i) (.slice (some ⟨e, 0, none⟩) ks.length cap)) := by
  obtain ⟨n, hnn⟩ : ∃ n, ks.length = n := ⟨_, rfl⟩
  have hdl : (ks.drop i).length = n - i := by rw [List.length_drop, hnn]
  obtain ⟨W1, G, c1, r1, f1, s1, hG1, hG2, low, b1⟩ := lay_places hf hnn h6 (i := i) (by omega) (by omega)
  have hv1 := hv.below b1
  have he1 := hf.below b1
  have hel := hf.lt
  have hvl := hv.lt
  obtain ⟨W2, c2, r2, f2, l2, t2⟩ := lay_copy (W := W1) (b := W.heap.size) (cs := c1) f1 69 i (n + 1 - i) ⟨vb, 0, none⟩ 1 [x] (by simp only [Nat.min_def, List.length_singleton]; split <;> omega) (by rw [s1]; simp; omega) (fun j k hj => by
    rw [Addr.add_lit, hv1.cell, Nat.zero_add]
    cases j with
    | zero => simpa using hj
    | succ j => simp at hj)
  have he2 : Fresh W2 e cur 9 := t2.other he1 (by simp; omega)
  obtain ⟨W3, c3, r3, f3, l3, t3⟩ := lay_copy (W := W2.drew) (b := W.heap.size) (cs := c2) f2.drew 70 (i + 1) (n - i) ⟨e, i, none⟩ (n - i) (ks.drop i) (by rw [hdl]; simp only [Nat.min_def]; split <;> omega) (by rw [hdl, l2.size, s1]; omega) (fun j k hj => drop_cell he2.drew h6 i j k hj)
  have HE : Hid (Inserted W e (ks.take i ++ x :: ks.drop i) (.slice (some ⟨e, 0, none⟩) ks.length cap) (.returned (.slice (some ⟨W.heap.size, 0, none⟩) (n + 1) G)) W3) := by
    have tw : Turned [e] W W3 := by
      have hb := Turned.below (S := [W.heap.size]) b1 (t2.drew.trans t3) (by simp) b1.size
      exact .of_below hb
    refine ⟨_, W.heap.size, rfl, .inr (Nat.le_refl _), tw, ⟨.inr ⟨G, c3, by simp; omega, f3, by simp; omega, hG2, by rw [l3.size, l2.size]; exact s1, ?_⟩⟩, (fun hx => by cases hx), _, f3⟩
    refine mid_row (by omega) (fun j k hj hk => ?_) ?_ (fun j k hk => ?_)
    · rw [l3.else_ j (.inl (by omega)), l2.else_ j (.inl hj)]
      exact low j k hj hk
    · rw [l3.else_ i (.inl (by omega))]
      have := l2.here 0 x rfl (by rw [s1]; omega)
      simpa using this
    · have hjl := (List.getElem?_eq_some_iff.1 hk).1
      exact l3.here j k hk (by rw [l2.size, s1]; omega)
  have mixed : Try.prog.follows .mixedOrders = true := by kernel_rfl
  subst hcap
  rw [hnn] at HE hi hn ⊢
  have z1 : ¬ ((i : Int) = (n : Int)) := by omega
  have z2 : ¬ (G = i + 1) := by omega
  have z3 : ¬ (G = i) := by omega
  have z8 : ¬ (n = i) := by omega
  have z4 : (0 : Int) ≤ (i : Int) + 1 := by omega
  have z5 : ((i : Int) + 1).toNat = i + 1 := by omega
  have z6 : IntKind.i64.wrap ((i : Int) + 1) = (i : Int) + 1 := by rw [IntKind.wrap_i64]; omega
  have z7 : (i : Int) ≤ (n : Int) + 1 := by omega
  have z9 : (i : Int) ≤ (n : Int) := by omega
  have hin : i ≤ n := by omega
  clear f1 l2 f2 l3 f3 t2 t3 hv1 hdl h6 hf hv s1 low b1 he1 he2 hel hvl
  go_enter Try.func101, Try.ntmps101
  go_wp2_with (first
    | (at_builtin; refine Lib.wpList_append_run _ rfl _ _ _ _ rfl _ _ rfl rfl _ _ (r1 _) ?_)
    | (at_builtin; refine wpList_copy_runI _ rfl _ _ 70 69 rfl _ _ rfl rfl (r2 _ _ _) ?_))
  go_region_law_o (refine step_copy_runI rfl _ _ 70 70 rfl _ _ (by simp [Act.eval, Act.put]) (by simp [Act.eval, Act.put]) (r3 _ _ _) ?_)
  go_wp2_with fail
  go_ret
  exact HE.out
theorem insert_any {W : World} {e : Nat} {ks : List ByteArray} {v : Value} (h : RowS W e ks v) (x : ByteArray) {i : Nat} (hi : i ≤ ks.length) (hn : ks.length < 1000000) {vb : Nat} (hv : Fresh W vb #[.string x] 9) (hne : vb ≠ e) :
    Calls Try.prog 101 #[v, .int .i64 i, .slice (some ⟨vb, 0, none⟩) 1 1] W fun e' w' => ∃ v' e2, e' = .returned v' ∧ (e2 = e ∨ W.heap.size ≤ e2) ∧ Turned [e] W w' ∧ RowS w' e2 (ks.take i ++ x :: ks.drop i) v' ∧ (v = .slice none 0 0 → Turned [] W w') ∧ ∃ cur, Fresh w' e2 cur 9 := by
  show Calls Try.prog _ _ W (Inserted W e (ks.take i ++ x :: ks.drop i) v)
  rcases Nat.lt_or_ge i ks.length with hlt | hge
  · rcases h.form with ⟨_, h2⟩ | ⟨cap, cur, rfl, hf, h3, h4, h5, h6⟩
    · rw [h2] at hlt; simp at hlt
    · rcases Nat.lt_or_ge ks.length cap with hr | hr
      · exact insert_room hf hr h4 h5 h6 x hlt hn hv hne
      · exact insert_grow hf (by omega) h6 x hlt hn hv
  · obtain rfl : i = ks.length := by omega
    rw [List.take_length, List.drop_length]
    exact insert_end h x hn hv
end Go.Proofs.Ytcpmnkihhenbgaa
