/- The walk of a reader's all. -/
import Derived.Test.YthkndfammlibpaaRk1
import Derived.Test.YthkndfammlibpaaEncode
namespace Go.Proofs.Ythkndfammlibpaa
open Go.RowKit Go.Shelf
attribute [local go_sem] Oper.semAt_some exi_round
set_option maxRecDepth 100000
set_option maxHeartbeats 2000000

/-- What a text begins with: a key and what follows its code. -/
def parse (l : List UInt8) : Option (List UInt8 × List UInt8) := match h : met l with
  | .broken => none
  | .fin t => some ([], t)
  | .byte c t => (parse t).map fun p => (c :: p.1, p.2)
termination_by l.length
decreasing_by rcases met_byte h with ⟨_, rfl⟩ | ⟨_, rfl⟩ <;> simp <;> omega
theorem parse_broken {l : List UInt8} (h : met l = .broken) : parse l = none := by rw [parse]; split <;> simp_all
theorem parse_fin {l t : List UInt8} (h : met l = .fin t) : parse l = some ([], t) := by rw [parse]; split <;> simp_all
theorem parse_byte {l t : List UInt8} {c : UInt8} (h : met l = .byte c t) : parse l = (parse t).map fun p => (c :: p.1, p.2) := by rw [parse]; split <;> simp_all
theorem Got.parse {l0 xs l : List UInt8} (h : Got l0 xs l) : parse l0 = (Go.Proofs.Ythkndfammlibpaa.parse l).map fun p => (xs ++ p.1, p.2) := by
  induction h with
  | start => simp
  | more _ hm ih =>
    rw [ih, parse_byte hm]
    cases Go.Proofs.Ythkndfammlibpaa.parse _ <;> simp

/-- The key of a code. -/
def keyL (l : List UInt8) : Option (List UInt8) := match parse l with
  | some (xs, []) => if xs.length ≤ 16 then some xs else none
  | _ => none

theorem Turned.grownBy {r : Nat} {W W' : World} (h : Turned [r] W W') : W.grownBy W' (some r) :=
  ⟨h.os, h.tape, h.output, h.size, fun k hk hn => h.block k hk (by simpa using fun e => hn (by rw [e]))⟩

theorem own_grown {W W' : World} {row : Option Nat} {base : Nat} {e : TypeId} {size : Nat} {v : Value} {n : Nat} {xs : List Value} (h : W.ownsRow base e size v n xs) (hg : W.grownBy W' row)
    (hr : ∀ r, row = some r → ∃ o : Obj, W.heap[r]? = some o ∧ o.isCells = false) : W'.ownsRow base e size v n xs := by
  refine h.kept hg ?_
  rcases h.2 with ⟨h1, _⟩ | ⟨g', cap, cur, h1, _, hgb, _⟩
  · exact .inl (by rw [h1]; rfl)
  · refine .inr fun e => ?_
    rw [h1] at e
    obtain ⟨o, ho, hc⟩ := hr g' e.symm
    rw [hgb] at ho; cases ho; cases hc
theorem own_turned {W W' : World} {r : Nat} {base : Nat} {e : TypeId} {size : Nat} {v : Value} {n : Nat} {xs : List Value} (h : W.ownsRow base e size v n xs) (k : Turned [r] W W') (hr : r < base) : W'.ownsRow base e size v n xs := by
  refine h.kept k.grownBy ?_
  rcases h.2 with ⟨h1, _⟩ | ⟨g', cap, cur, h1, hb, hgb, _⟩
  · exact .inl (by rw [h1]; rfl)
  · refine .inr fun e => ?_
    rw [h1] at e
    have : g' = r := by simpa [Value.ownBlock] using e
    omega

theorem Turned.putHigh {S : List Nat} {w W : World} (h : Turned S w W) {D : Nat} (hD : w.heap.size ≤ D) (o : Obj) : Turned S w (W.putObj D o) :=
  ⟨h.os, h.tape, h.output, by simpa using h.size, fun k hk hn => (World.putObj_heap_other (by omega)).trans (h.block k hk hn)⟩

theorem own_slice {W : World} {base : Nat} {e : TypeId} {size : Nat} {v : Value} {n : Nat} {xs : List Value} (h : W.ownsRow base e size v n xs) : ∃ ad cp, v = .slice ad n cp := by
  rcases h.2 with ⟨e, k⟩ | ⟨g, cap, cur, e, _⟩
  · exact ⟨_, _, by rw [e, k]⟩
  · exact ⟨_, _, e⟩

structure Key (r B base : Nat) (w0 : World) (pre : List UInt8) (v : Value) (W : World) : Prop where
  box : Boxed W B 29 v
  own : W.ownsRow base 5 1 v pre.length (byteVals pre)
  turned : Turned [r] w0 W
  bk : Fresh W (B + 1) #[.pointer (some ⟨r, 0, none⟩)] 73

def outOf (l0 : List UInt8) : Ending := match keyL l0 with
  | some xs => .returned (.string (bz xs))
  | none => .panicked brk

theorem news_cells (W : World) (x : UInt8) : ∀ j u, (byteVals [x])[j]? = some u → (W.alloc (.cells #[.int .u8 (x.toNat : Int)] 5)).cell? ((⟨W.heap.size, 0, none⟩ : Addr).add j) = some u := by
  intro j u hu
  rw [Addr.add_lit, Nat.zero_add, World.cell?_alloc_new]
  cases j with
  | zero => simpa [byteVals] using hu
  | succ j => simp [byteVals] at hu

theorem bytes_string {base : Nat} {v : Value} {xs : List UInt8} {w : World} (h : w.ownsRow base 5 1 v xs.length (byteVals xs)) :
    (convert 29 9 v).run Try.prog w = .ok (.string (bz xs)) w := by
  rcases h.2 with ⟨h1, h2⟩ | ⟨g, cap, cur, h1, hb, hgb, _⟩
  · obtain rfl : xs = [] := by simpa using h2
    subst h1
    kernel_rfl
  · subst h1
    rw [run_convert_bytes_string _ 29 9 5 _ _ _ Try.underlying29 Try.underlying5 Try.underlying9]
    have hl := run_loadCells_list (P := Try.prog) (w := w) ⟨g, 0, none⟩ (byteVals xs) (fun j v hv => by
      rw [Addr.add_lit, Nat.zero_add, h.cellAt j (by have := (List.getElem?_eq_some_iff.1 hv).1; rw [byteVals_length] at this; omega)]
      exact hv)
    rw [byteVals_length] at hl
    rw [run_bytesToString _ _ _ _ (xs.map fun c => (c.toNat : Int)) (by rw [hl]; simp [byteVals, Function.comp_def])]
    rw [foldl_push]
    congr 2

theorem Fresh.not_row {W : World} {p r base : Nat} (h : Fresh W p #[.pointer (some ⟨r, 0, none⟩)] 73) {v : Value} {n : Nat} {xs : List Value} (k : W.ownsRow base 5 1 v n xs) : some p ≠ v.ownBlock :=
  Boxed.not_row (show Boxed W p 73 (.pointer (some ⟨r, 0, none⟩)) from h) (by decide) k
theorem Turned.step {S : List Nat} {w W W' : World} (h : Turned S w W) (hb : Below w.heap.size W W') : Turned S w W' :=
  ⟨hb.os.trans h.os, hb.tape.trans h.tape, hb.output.trans h.output, Nat.le_trans h.size hb.size, fun k hk hn => (hb.block k hk).trans (h.block k hk hn)⟩

theorem Key.ne' {r B base : Nat} {w0 : World} {pre : List UInt8} {v : Value} {W : World} (h : Key r B base w0 pre v W) : some B ≠ v.ownBlock := h.box.not_row (by decide) h.own

theorem all_in (n : Nat) (hn : 6 ≤ n) (r : Nat) (l0 : List UInt8) (hl0 : l0.length ≤ 1000000) (w : World) (hR : Rest w r (bz l0)) :
    CallsIn (Exi Try.prog) n Try.prog 44 #[.pointer (some ⟨r, 0, none⟩)] w fun e w' => e = outOf l0 ∧ Turned [r] w w' := by
  have h1 : 1 ≤ n := by omega
  obtain ⟨i0, hi, hz0, hz1, hz2⟩ := info_parts infoB
  refine callsIn_of_wp_marks Try.func44 rfl (exi_of rfl) ?_ rfl
  simp only [Try.ntmps44, List.size_toArray, List.length_cons, List.length_nil, Nat.reduceAdd, Nat.reduceSub, Array.replicate_succ, Array.replicate_zero, List.push_toArray, List.append_toArray, List.nil_append, List.cons_append]
  gi_wp2_with (refine ⟨exi_of rfl, ?_⟩; gi_at_call 46; with_reducible refine (key_any _ _ _).mono ?_; rintro e w2 ⟨rfl, hw2⟩)
  subst hw2
  obtain ⟨WL, hWL⟩ : ∃ WL, WL = (w.alloc (.cells #[.slice none 0 0] 29)).alloc (.cells #[.pointer (some ⟨r, 0, none⟩)] 73) := ⟨_, rfl⟩
  rw [← hWL]
  have sL : WL.heap.size = w.heap.size + 2 := by rw [hWL]; simp
  have hr := hR.lt
  have hTL : Turned [r] w WL := by rw [hWL]; exact ((Turned.refl _ _).alloc _).alloc _
  have hRL : Rest WL r (bz l0) := by rw [hWL]; exact (hR.alloc _).alloc _
  have hBL : Fresh WL (w.heap.size + 1) #[.pointer (some ⟨r, 0, none⟩)] 73 := by rw [hWL]; exact Fresh.new _ _ _ _ (by simp)
  have hXL : Boxed WL w.heap.size 29 (.slice none 0 0) := by rw [hWL]; exact (Boxed.new w _ _).alloc _
  clear hWL
  refine range_pan rfl h1 (fun f h => exi_fn h) (gf := 47) (lb := #[.pointer (some ⟨w.heap.size + 1, 0, none⟩)]) rfl (exi_of rfl) (enters_of Try.func47 (by kernel_rfl) rfl)
    (key_pan (n - 1) (by omega) r (w.heap.size + 1) (by omega) l0 hl0 WL hRL hBL) ?hO ?hS ?hKt ?hKb (Below.refl _ _) (fun _ => rfl)
    (fun pre W => ∃ v, Key r w.heap.size w.heap.size w pre v W ∧ pre.length ≤ 16) (fun _ _ _ => False)
    (fun c pre W => c = brk ∧ (∃ l, Got l0 pre l) ∧ 16 < pre.length ∧ Turned [r] w W) ?hI (fun _ _ _ _ _ h _ _ => h) ?hIp ?hIO ?h0
    (fun x => { tmps := #[.pointer (some ⟨r, 0, none⟩), undef, .string ⟨#[]⟩, .pointer (some ⟨w.heap.size, 0, none⟩), .int .u8 (x.toNat : Int), .pointer (some ⟨r, 0, none⟩), .func (.func 47) #[] #[.pointer (some ⟨w.heap.size + 1, 0, none⟩)], .int .u8 (x.toNat : Int), undef, undef, undef, undef, undef, undef, undef, undef, undef, undef, undef, undef, undef, undef, undef, undef, undef, undef, undef], defers := [] })
    ?assign ?body ?done ?stop ?ownp ?inner
  case hO =>
    rintro X Y h k hk hx
    exact h.block k hx (by simp; omega)
  case hS =>
    rintro xs W W' row ⟨l, t, h2, h3, h4⟩ hg hr'
    exact ⟨l, t, h2, h3, h4.kept hg (fun r e => (hr' r e).2)⟩
  case hKt => exact fun h k => ⟨k.1.trans h.1, k.2.trans h.2⟩
  case hKb => exact fun W o' hs => ⟨World.putObj_heap_other (by omega), World.putObj_heap_other (by omega)⟩
  case hI =>
    rintro pre W W' row ⟨v, h2, h3⟩ hg hr'
    exact ⟨v, ⟨boxed_grown h2.box hg (fun r e => (hr' r e).2), own_grown h2.own hg (fun r e => (hr' r e).2), h2.turned.kept hg (fun r e => by have := (hr' r e).1; omega), h2.bk.kept hg (fun r e => (hr' r e).2)⟩, h3⟩
  case hIp =>
    rintro c pre W W' row ⟨h2, h3, h4, h5⟩ hg hr'
    exact ⟨h2, h3, h4, h5.kept hg (fun r e => by have := (hr' r e).1; omega)⟩
  case hIO =>
    rintro pre X Y ⟨v, h2, h3⟩ h4
    exact ⟨v, ⟨(h4.block _ h2.box.lt (by simp; omega)).trans h2.box, own_turned h2.own h4 hr, h2.turned.trans h4, h4.other h2.bk (by simp; omega)⟩, h3⟩
  case h0 => exact ⟨_, ⟨hXL, ⟨rfl, .inl ⟨rfl, rfl⟩⟩, hTL, hBL⟩, by simp⟩
  case assign =>
    intro l x W K hK
    gi_wp2
    exact hK
  case body =>
    rintro l pre x W ⟨la, hG⟩ ⟨v, hK, hlen⟩ hsz
    obtain ⟨ad, cp, hv⟩ := own_slice hK.own
    subst hv
    have hbc := hK.box.cell
    have HK := Lib.hid hK
    clear hK hRL hBL hXL hTL hR
    by_cases hf : pre.length = 16
    · have q1 : ((pre.length : Int) == 16) = true := by rw [hf]; rfl
      gi_wp2
      exact ⟨.refl _ _, ⟨rfl, rfl⟩, rfl, rfl, ⟨la, hG⟩, by simp [hf], HK.out.turned⟩
    · have q1 : ((pre.length : Int) == 16) = false := by rw [beq_eq_false_iff_ne]; omega
      have HF := Lib.hid hf
      clear hf
      gi_wp2_with (gi_at_builtin; refine wpListIn_append_own _ rfl (.tmp 13) (.tmp 15) 29 rfl w.heap.size 5 i0 (.int .u8 0) 1 1 Try.underlying29 hi hz0 hz1 hz2 rfl (by omega) _ pre.length (byteVals pre) rfl (HK.out.own.alloc _) ⟨W.heap.size, 0, none⟩ 1 1 (byteVals [x]) rfl rfl (news_cells W x) (byteVals_one _) (by unfold maxLen; omega) (by omega) (by simp; omega) ?_; intro v' w' hown hg' _; obtain ⟨ad', cp', hv'⟩ := own_slice hown; subst hv'; have hb' := (HK.out.box.alloc (.cells #[.int .u8 (x.toNat : Int)] 5)).kept hg' (HK.out.ne'); have hbc' := hb'.cell; have hbf' := hb'.frozen; have HB' := Lib.hid hb'; have HO' := Lib.hid hown; have HG' := Lib.hid hg'; clear hb' hown hg')
      obtain ⟨p1, p2, p3, p4, p5⟩ := Boxed.appended HK.out.box (by decide) HK.out.own HK.out.turned.size (Nat.le_refl _) HO'.out HG'.out
      have pk : Fresh (w'.setCell ⟨w.heap.size, 0, none⟩ (.slice ad' (pre.length + 1) cp')) (w.heap.size + 1) #[.pointer (some ⟨r, 0, none⟩)] 73 := by
        refine Fresh.other ?_ (by omega) 0 _
        refine (HG'.out.block _ (HK.out.bk.alloc _).lt ?_).trans (HK.out.bk.alloc _)
        exact HK.out.bk.not_row HK.out.own
      refine ⟨p4.from _, ⟨p5.block r hr, pk.trans HK.out.bk.symm⟩, ?_⟩
      refine ⟨_, ⟨p2, ?_, HK.out.turned.step p5, pk⟩, by have := HF.out; simp; omega⟩
      rw [List.length_append, byteVals_append]
      exact p3
  case done =>
    rintro D xs W hD ⟨l, t, hG, hm, hRW⟩ ⟨v, hK, hlen⟩ hd
    have hbc := hK.box.cell
    have hrc : W.cell? ⟨r, 0, none⟩ = some (.string (bz t)) := (hRW.cell 0).trans rfl
    have HK := Lib.hid hK
    have HD := Lib.hid hd
    have HDD := Lib.hid hD
    have HS := Lib.hid sL
    clear hd hK hRL hBL hXL hTL hR hRW hD sL
    cases t with
    | nil =>
      have hcv : (convert 29 9 v).run Try.prog W = .ok (.string (bz xs)) W := bytes_string HK.out.own
      simp only [Exit.inBlock, Exit.then]
      go_at_K
      gi_wp2
      refine ⟨by simp, .inl ⟨D, _, rfl, run_takeDeferred HD.out, ?_⟩⟩
      refine ⟨.string (bz xs), ?_, ?_, HK.out.turned.putHigh (by have := HS.out; have := HDD.out; omega) _⟩
      · simp [results, Try.f44, go_sem]
      · rw [outOf, keyL, hG.parse, parse_fin hm]; simp [hlen]
    | cons c t =>
      have q1 : (bz (c :: t)).toList.isEmpty = false := by rw [ByteArray.toList_eq]; rfl
      simp only [Exit.inBlock, Exit.then]
      go_at_K
      gi_wp2
      refine ⟨by simp, .inl ⟨D, _, rfl, run_takeDeferred HD.out, ?_⟩⟩
      refine ⟨?_, HK.out.turned.putHigh (by have := HS.out; have := HDD.out; omega) _⟩
      rw [outOf, keyL, hG.parse, parse_fin hm]; rfl
  case stop => exact fun D c pre W _ _ h _ => h.elim
  case ownp =>
    rintro D c pre W hD ⟨hc, l, hG, hm⟩ ⟨v, hK, hlen⟩ hd
    refine (fun h => h : LeavesInM _ _ _ _ _ _ _ _ _ → _) ⟨by simp, .inl ⟨D, _, rfl, run_takeDeferred hd, ?_⟩⟩
    refine ⟨?_, hK.turned.putHigh (by omega) _⟩
    rw [hc, outOf, keyL, hG.parse, parse_broken hm]; rfl
  case inner =>
    rintro D c pre W hD ⟨hc, ⟨l, hG⟩, hlen, hK⟩ hd
    refine (fun h => h : LeavesInM _ _ _ _ _ _ _ _ _ → _) ⟨by simp, .inl ⟨D, _, rfl, run_takeDeferred hd, ?_⟩⟩
    refine ⟨?_, hK.putHigh (by omega) _⟩
    rw [hc, outOf, keyL, hG.parse]
    rcases parse l with _ | ⟨ys, _ | ⟨c, t⟩⟩ <;> simp
    rw [if_neg (by omega)]
end Go.Proofs.Ythkndfammlibpaa
