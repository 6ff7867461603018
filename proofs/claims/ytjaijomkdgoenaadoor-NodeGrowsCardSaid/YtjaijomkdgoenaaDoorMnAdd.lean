/- An entry that is added. -/
import Derived.Test.YtjaijomkdgoenaaDoorMnHas
import Derived.Maps.AppendAt
import Derived.Deep.RegionLaw
import Derived.Deep.DeepCutAuto
namespace Go.Proofs.YtjaijomkdgoenaaDoor.Mn
open Go.RowKit
set_option maxRecDepth 100000
set_option maxHeartbeats 4000000

/-- append onto a row of the call's own, at a step of a region that draws its order. -/
theorem step_appO {w : World} {ops : Array Oper} {o : Oper} {a : Act} {K : Act → World → Prop} {Q : Exit → Act → World → Prop} {E : Prop} (hgd : o.guard = none) (s x : Operand) (tS e : TypeId)
    (ho : o.op = .call { callee := .builtin .append, args := #[s, x], argTypes := #[tS, tS] })
    (B : Nat) (i : TypeInfo) (z : Value) (size bytes : Nat) (ht : Tryd.prog.underlying tS = some (.slice e)) (hi : Tryd.prog.info? e = some i) (hz : i.zero = some z) (hsize : i.size = size) (hby : i.bytes = bytes) (hzs : z.cells.size = size) (hsz : 0 < size) (hb16 : bytes ≤ 64)
    (v : Value) (n : Nat) (xs : List Value) (hs : a.eval s = v) (hown : w.ownsRow B e size v n xs) (hB : B ≤ w.heap.size)
    (ad : Addr) (m c : Nat) (news : List Value) (hx : a.eval x = .slice (some ad) m c) (hl : news.length = m * size) (hnews : ∀ j u, news[j]? = some u → w.cell? (ad.add j) = some u) (h1 : ∀ u ∈ news, u.oneCell' = true)
    (hnm : n + m ≤ 2000000)
    (h : ∀ v' w', w'.ownsRow B e size v' (n + m) (xs ++ news) → w.grownBy w' v.ownBlock → (v'.ownBlock = v.ownBlock ∨ v'.ownBlock = some w.heap.size) → K (a.put o.dst v') w') :
    if Region.wanted o (yielded ops a.tmps) = true then Oper.wp Tryd.prog o a w K Q else E := by
  have hw : Region.wanted o (yielded ops a.tmps) = true := by simp [Region.wanted, hgd]
  rw [if_pos hw]
  have hbb : (n + m) * bytes ≤ 140737488355328 := Nat.le_trans (Nat.mul_le_mul hnm hb16) (by decide)
  obtain ⟨v', w', hr, h2, h3, h4, h5⟩ := run_append_own_at (P := Tryd.prog) w B tS o.type e i z size bytes ht hi hz hsize hby hzs hsz v n xs hown ad m c news hl hnews h1 (by unfold maxLen; omega) hbb hB
  unfold Oper.wp execOp
  simp only [ho, resolve, invoke, builtin, Sem.run_bind, Sem.run_pure, Result.andThen_ok, List.map_toArray, List.map_cons, List.map_nil, hs, hx, hr]
  exact h v' w' h2 h3 h5
theorem infoE : ∃ i0 : TypeInfo, Tryd.prog.info? 137 = some i0 ∧ i0.zero = some (.agg #[.int .u8 0, .int .i64 0, .int .u32 0]) ∧ i0.size = 3 ∧ i0.bytes = 24 := by
  have h : (Tryd.prog.info? 137).map (fun i => (i.zero, i.size, i.bytes)) = some (some (.agg #[.int .u8 0, .int .i64 0, .int .u32 0]), 3, 24) := by kernel_rfl
  cases hi : Tryd.prog.info? 137 with
  | none => rw [hi] at h; simp at h
  | some i0 =>
    rw [hi] at h
    simp only [Option.map_some, Option.some.injEq, Prod.mk.injEq] at h
    exact ⟨i0, rfl, h.1, h.2.1, h.2.2⟩
theorem row_form {W : World} {B n z : Nat} {e : TypeId} {v : Value} {xs : List Value} (h : W.ownsRow B e z v n xs) : ∃ ao cap, v = .slice ao n cap := by
  rcases h.2 with ⟨h1, h2⟩ | ⟨g, cap, cur, h1, _⟩
  · exact ⟨none, 0, by rw [h1, h2]⟩
  · exact ⟨_, cap, h1⟩
theorem _root_.Go.Proofs.YtjaijomkdgoenaaDoor.Fresh.grown {W W' : World} {p : Nat} {cs : Array Value} {t : TypeId} {row : Option Nat} (h : Fresh W p cs t) (hg : W.grownBy W' row) (hr : some p ≠ row) : Fresh W' p cs t := (hg.block p h.lt hr).trans h
theorem RowM.ne {W : World} {q e : Nat} {es : List En} {room : Nat} {cs : Array Value} {v : Value} (h : RowM W q e es room cs v) : v.ownBlock ≠ some q := by
  intro hk
  rcases h.form with ⟨h1, _⟩ | ⟨cap, cur, h1, hf, _⟩
  · rw [h1] at hk; cases hk
  · obtain rfl : q = e := h.blk q hk
    have := h.box
    unfold Fresh at this hf
    rw [this] at hf
    cases hf
theorem tab_add {cs : Array Value} {es : List En} {b : UInt8} {s g : Int} {v : Value} {n : Int} (h : Tab cs es) (hs : cs.size = 258) (hn : ∀ x ∈ es, x.1 ≠ b) (hv : n = ((es.length + 1 : Nat) : Int)) :
    Tab ((cs.setIfInBounds 256 v).setIfInBounds b.toNat (.int .u16 n)) (es ++ [(b, s, g)]) := by
  subst hv
  intro c
  have hc := c.toNat_lt
  have hb := b.toNat_lt
  by_cases e : c = b
  · subst e
    refine ⟨es.length + 1, by rw [Array.getElem?_setIfInBounds_self_of_lt (by simp; omega)], .inr ⟨es.length, s, g, rfl, by simp⟩⟩
  · have hne : b.toNat ≠ c.toNat := fun x => e (UInt8.toNat_inj.1 x).symm
    obtain ⟨n, h1, h2⟩ := h c
    refine ⟨n, by rw [Array.getElem?_setIfInBounds_ne hne, Array.getElem?_setIfInBounds_ne (by omega)]; exact h1, ?_⟩
    rcases h2 with ⟨h3, h4⟩ | ⟨i, s', g', h3, h4⟩
    · refine .inl ⟨h3, fun x hx => ?_⟩
      rcases List.mem_append.1 hx with hx | hx
      · exact h4 x hx
      · obtain rfl : x = (b, s, g) := by simpa using hx
        exact fun e' => e e'.symm
    · exact .inr ⟨i, s', g', h3, by rw [List.getElem?_append_left (List.getElem?_eq_some_iff.1 h4).1]; exact h4⟩

theorem add_fin {W W3 w4 : World} {q e : Nat} {es : List En} {room : Nat} {cs : Array Value} {v v4 : Value} (hB : Below W.heap.size W W3) (h3 : RowM W3 q e es room cs v) (hq : q < W.heap.size) (b : UInt8) (s g : Int) (hn : ∀ x ∈ es, x.1 ≠ b) (hl : es.length < 256) {n : Nat} (hnl : es.length = n)
    (hown : w4.ownsRow 0 137 3 v4 (n + 1) (flat es ++ [.int .u8 (b.toNat : Int), .int .i64 s, .int .u32 g])) (hg : W3.grownBy w4 v.ownBlock) (hat : v4.ownBlock = v.ownBlock ∨ v4.ownBlock = some W3.heap.size) :
    ∃ e2 cs2 v2, (e2 = e ∨ W.heap.size ≤ e2) ∧ Turned [q, e] W ((w4.setCell ⟨q, 256, none⟩ v4).setCell ⟨q, b.toNat, none⟩ (.int .u16 ((n : Int) + 1))).drew ∧ RowM ((w4.setCell ⟨q, 256, none⟩ v4).setCell ⟨q, b.toNat, none⟩ (.int .u16 ((n : Int) + 1))).drew q e2 (es ++ [(b, s, g)]) room cs2 v2 := by
  have F4 : Fresh w4 q cs 92 := h3.box.grown hg (Ne.symm h3.ne)
  have hb := b.toNat_lt
  have hT : Turned [q, e] W ((w4.setCell ⟨q, 256, none⟩ v4).setCell ⟨q, b.toNat, none⟩ (.int .u16 ((n : Int) + 1))).drew := by
    have T4 : Turned [q, e] W w4 := by
      refine ⟨hg.os.trans hB.os, hg.tape.trans hB.tape, hg.output.trans hB.output, Nat.le_trans hB.size hg.size, fun k hk hkn => ?_⟩
      refine (hg.block k (Nat.lt_of_lt_of_le hk hB.size) ?_).trans (hB.block k hk)
      intro x
      have := h3.blk k x.symm
      simp at hkn; omega
    exact ((T4.setCell (.inl (by simp)) 256 _).setCell (.inl (by simp)) _ _).drew
  have F6 := (F4.set 256 v4).set b.toNat (.int .u16 ((n : Int) + 1))
  obtain ⟨g4, cap4, cur4, rfl, _, hc4, hr4⟩ : ∃ y cap cur, v4 = .slice (some ⟨y, 0, none⟩) (n + 1) cap ∧ 0 ≤ y ∧ w4.heap[y]? = some (.cells cur 137 (0, 0)) ∧ n + 1 ≤ cap ∧ cap ≤ maxLen ∧ cur.size = cap * 3 ∧ cur.toList.take ((n + 1) * 3) = flat es ++ [.int .u8 (b.toNat : Int), .int .i64 s, .int .u32 g] := by
    rcases hown.2 with ⟨_, h⟩ | h
    · exact absurd h (by omega)
    · exact h
  have gq : g4 ≠ q := by
    rintro rfl
    unfold Fresh at F4
    rw [hc4] at F4
    cases F4
  have hc6 : (((w4.setCell ⟨q, 256, none⟩ (.slice (some ⟨g4, 0, none⟩) (n + 1) cap4)).setCell ⟨q, b.toNat, none⟩ (.int .u16 ((n : Int) + 1))).drew).heap[g4]? = some (.cells cur4 137 (0, 0)) :=
    (Below.heap_setCell _ ⟨q, b.toNat, none⟩ _ g4 gq).trans ((Below.heap_setCell w4 ⟨q, 256, none⟩ _ g4 gq).trans hc4)
  refine ⟨g4, (cs.setIfInBounds 256 (.slice (some ⟨g4, 0, none⟩) (n + 1) cap4)).setIfInBounds b.toNat (.int .u16 ((n : Int) + 1)), .slice (some ⟨g4, 0, none⟩) (n + 1) cap4, ?_, hT, ?_⟩
  · rcases hat with h | h
    · exact .inl (h3.blk g4 h.symm)
    · refine .inr ?_
      have : g4 = W3.heap.size := by simpa [Value.ownBlock] using h
      rw [this]; exact hB.size
  · have hlen : (es ++ [(b, s, g)]).length = n + 1 := by simp [hnl]
    refine ⟨F6.drew, by simp [h3.size], tab_add h3.tab h3.size hn (by rw [hnl]; simp), ?_, ?_, ?_, fun k hk => by simpa [Value.ownBlock] using hk.symm, ?_, by omega, (Array.getElem?_eq_some_iff.1 hc6).1, .inr ⟨cur4, hc6⟩⟩
    · rw [Array.getElem?_setIfInBounds_ne (by omega), Array.getElem?_setIfInBounds_self_of_lt (by rw [h3.size]; omega)]
    · rw [Array.getElem?_setIfInBounds_ne (by omega), Array.getElem?_setIfInBounds_ne (by omega)]; exact h3.room
    · rw [hlen, flat_append, flat_one]
      exact ⟨hown.1, .inr ⟨g4, cap4, cur4, rfl, Nat.zero_le _, hc6, hr4⟩⟩
    · rw [List.pairwise_append]
      refine ⟨h3.dist, by simp, fun x hx y hy => ?_⟩
      obtain rfl : y = (b, s, g) := by simpa using hy
      exact hn x hx

theorem add_any {W : World} {q e : Nat} {es : List En} {room : Nat} {cs : Array Value} {v : Value} (h : RowM W q e es room cs v) (b : UInt8) (s g : Int) (hn : ∀ x ∈ es, x.1 ≠ b) (hl : es.length < 256) :
    Calls Tryd.prog 108 #[.pointer (some ⟨q, 0, none⟩), .int .u8 (b.toNat : Int), .agg #[.int .i64 s, .int .u32 g]] W fun e' w' => (∃ u, e' = .returned u) ∧ ∃ e2 cs2 v2, (e2 = e ∨ W.heap.size ≤ e2) ∧ Turned [q, e] W w' ∧ RowM w' q e2 (es ++ [(b, s, g)]) room cs2 v2 := by
  obtain ⟨W1, hW1⟩ : ∃ W1, W1 = W.alloc (.cells #[.int .i64 s, .int .u32 g] 29) := ⟨_, rfl⟩
  have B1 : Below W.heap.size W W1 := by rw [hW1]; exact Below.new (Below.refl _ _) _
  have bx : Fresh W1 W.heap.size #[.int .i64 s, .int .u32 g] 29 := by rw [hW1]; exact Fresh.new _ _ _ _ rfl
  have h1 := h.below B1
  obtain ⟨ao, cap, hv⟩ := h1.slice
  have c0 : W1.cell? ⟨q, 256, none⟩ = some (.slice ao es.length cap) := by rw [← hv]; exact (h1.box.cell _).trans h1.ent
  have f0 := h1.box.thawed 256
  have r0 := bx.cell 0
  have r1 := bx.cell 1
  simp only [List.getElem?_toArray, List.getElem?_cons_zero, List.getElem?_cons_succ] at r0 r1
  obtain ⟨iE, jE, jE0, jE1, jE2⟩ := infoE
  have HJE := Lib.hid jE
  have HW1 := Lib.hid hW1
  have HB1 := Lib.hid B1
  have HH := Lib.hid h1
  have HN := Lib.hid hn
  have HV := Lib.hid hv
  have hql := h.box.lt
  have hel := h.lt
  have hb := b.toNat_lt
  obtain ⟨k, hk⟩ : ∃ k, b.toNat = k := ⟨_, rfl⟩
  have HK := Lib.hid hk
  have k0 : (0 : Int) ≤ (k : Int) := Int.natCast_nonneg _
  have k1 : (k : Int) < 256 := by omega
  obtain ⟨n, hnl⟩ : ∃ n, es.length = n := ⟨_, rfl⟩
  have HNL := Lib.hid hnl
  rw [hnl] at c0 hl
  rw [hk]
  have hw : IntKind.u16.wrap ((n : Int) + 1) = (n : Int) + 1 := by simp [IntKind.wrap, IntKind.bits, IntKind.signed]; omega
  obtain ⟨W3, hW3⟩ : ∃ W3, W3 = (W1.alloc (.cells #[.int .u8 (k : Int), .int .i64 s, .int .u32 g] 137)).drew := ⟨_, rfl⟩
  have B3 : Below W1.heap.size W1 W3 := by rw [hW3]; exact (Below.new (Below.refl _ _) _).drew
  have D3 : Fresh W3 W1.heap.size #[.int .u8 (k : Int), .int .i64 s, .int .u32 g] 137 := by rw [hW3]; exact (Fresh.new _ _ _ _ rfl).drew
  have H3 := Lib.hid (h1.below B3)
  have O3 : Hid (W3.ownsRow 0 137 3 (.slice ao n cap) n (flat es)) := by
    have := H3.out.own
    rw [hv, hnl] at this
    exact this
  have N3 : Hid (∀ (j : Nat) u, [Value.int .u8 (k : Int), Value.int .i64 s, Value.int .u32 g][j]? = some u → W3.cell? ((⟨W1.heap.size, 0, none⟩ : Addr).add j) = some u) := by
    intro j u hj
    rw [Addr.add_lit, Nat.zero_add, D3.cell j]
    simpa using hj
  have HE3 := Lib.hid hW3
  have HB3 := Lib.hid B3
  have ca := ((h1.box.alloc (.cells #[.int .u8 (k : Int), .int .i64 s, .int .u32 g] 137)).cell 256).trans h1.ent
  rw [hv, hnl] at ca
  clear h h1 hn hv hW1 B1 bx hk hnl hb B3 D3 hW3 jE
  go_enter Tryd.func108, Tryd.ntmps108
  go_upto_region 1 with fail
  rw [← HW1.out]
  go_region_law ((first
    | (rw [← HE3.out]
       refine step_appO (by rfl) (.tmp 10) (.tmp 14) 90 137 (by rfl) 0 iE (.agg #[.int .u8 0, .int .i64 0, .int .u32 0]) 3 24 Tryd.underlying90 HJE.out jE0 jE1 jE2 (by rfl) (by omega) (by omega) (.slice ao n cap) n (flat es) (by rfl) O3.out (Nat.zero_le _) ⟨W1.heap.size, 0, none⟩ 1 1 [.int .u8 (k : Int), .int .i64 s, .int .u32 g] (by rfl) (by rfl) N3.out ?_ (by omega) ?_
       · intro u hu; simp at hu; rcases hu with rfl | rfl | rfl <;> rfl
       intro v4 w4 hown4 hgr4 hat4
       obtain ⟨a4, k4, rfl⟩ := row_form hown4
       have HO4 := Lib.hid hown4
       have HG4 := Lib.hid hgr4
       have HT4 := Lib.hid hat4
       have hrn : Hid (some q ≠ (Value.slice ao n cap).ownBlock) := by have := H3.out.ne; rw [HV.out, HNL.out] at this; exact Ne.symm this
       have F4 := Lib.hid (H3.out.box.grown hgr4 hrn.out)
       have z4 := F4.out.thawed 256
       have c4 := (F4.out.cell 256).trans H3.out.ent
       clear hown4 hgr4 hat4)))
  all_goals
    clear ca c0 r0 r1 z4 c4 f0
    obtain ⟨W5, hW5⟩ : ∃ W5, W5 = w4.setCell ⟨q, 256, none⟩ (.slice a4 (n + 1) k4) := ⟨_, rfl⟩
    rw [← hW5]
    have F5 := F4.out.set 256 (.slice a4 (n + 1) k4)
    rw [← hW5] at F5
    have hsz := H3.out.size
    have G1 : W5.cell? ⟨q, 256, none⟩ = some (.slice a4 (n + 1) k4) := (F5.cell 256).trans (Array.getElem?_setIfInBounds_self_of_lt (by omega))
    have G2 : ∃ y, W5.cell? ⟨q, k, none⟩ = some y := ⟨_, (F5.cell k).trans (Array.getElem?_eq_getElem (by simp; omega))⟩
    obtain ⟨y, G2⟩ := G2
    have G3 := F5.thawed k
    have HF5 := Lib.hid F5
    have HW5 := Lib.hid hW5
    clear F5 hW5 hsz
    go_wp2_with fail
    go_region
    go_wp2_with fail
    go_end0
    refine ⟨⟨_, rfl⟩, ?_⟩
    have hlt := HNL.out
    have := add_fin (Below.step HB1.out HB3.out) H3.out hql b s g HN.out (by omega) HNL.out (by rw [HK.out]; exact HO4.out) (by rw [HV.out, HNL.out]; exact HG4.out) (by rw [HV.out, HNL.out]; exact HT4.out)
    rw [HK.out, ← HW5.out] at this
    exact this
end Go.Proofs.YtjaijomkdgoenaaDoor.Mn
