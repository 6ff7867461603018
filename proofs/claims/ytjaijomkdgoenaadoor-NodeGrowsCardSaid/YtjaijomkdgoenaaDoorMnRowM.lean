/- The row of a table: entries in no order, and for each byte its entry's position. -/
import Derived.Test.YtjaijomkdgoenaaDoorFr
import Derived.Laws.AppendOwn
namespace Go.Proofs.YtjaijomkdgoenaaDoor.Mn
open Go.RowKit
set_option maxRecDepth 100000

/-- A byte, and the two numbers of its reference. -/
abbrev En := UInt8 × Int × Int
theorem cell_same {W W' : World} {p : Addr} (h : W'.heap[p.block]? = W.heap[p.block]?) : W'.cell? p = W.cell? p := by simp [World.cell?, h]
theorem frozen_same {W W' : World} {p : Addr} (h : W'.heap[p.block]? = W.heap[p.block]?) : W'.frozen? p = W.frozen? p := by simp [World.frozen?, h]
theorem cell_lt {W : World} {p : Addr} {v : Value} (h : W.cell? p = some v) : p.block < W.heap.size := by
  rcases Nat.lt_or_ge p.block W.heap.size with h1 | h1
  · exact h1
  · simp [World.cell?, Array.getElem?_eq_none h1] at h
/-- The cells of entries. -/
def flat (es : List En) : List Value := es.flatMap fun x => [.int .u8 (x.1.toNat : Int), .int .i64 x.2.1, .int .u32 x.2.2]
theorem flat_length : ∀ es : List En, (flat es).length = es.length * 3
  | [] => rfl
  | x :: es => by
    have := flat_length es
    simp only [flat, List.flatMap_cons, List.length_append, List.length_cons, List.length_nil] at this ⊢
    omega
theorem flat_append (es fs : List En) : flat (es ++ fs) = flat es ++ flat fs := by simp [flat]
theorem flat_one (x : En) : flat [x] = [.int .u8 (x.1.toNat : Int), .int .i64 x.2.1, .int .u32 x.2.2] := rfl
theorem flat_at : ∀ (es : List En) (i : Nat) (x : En), es[i]? = some x → (flat es)[i * 3]? = some (.int .u8 (x.1.toNat : Int)) ∧ (flat es)[i * 3 + 1]? = some (.int .i64 x.2.1) ∧ (flat es)[i * 3 + 2]? = some (.int .u32 x.2.2)
  | [], i, x, h => by simp at h
  | y :: es, 0, x, h => by
    obtain rfl : y = x := by simpa using h
    exact ⟨rfl, rfl, rfl⟩
  | y :: es, i + 1, x, h => by
    have h' : es[i]? = some x := by simpa using h
    obtain ⟨h1, h2, h3⟩ := flat_at es i x h'
    have e : flat (y :: es) = [.int .u8 (y.1.toNat : Int), .int .i64 y.2.1, .int .u32 y.2.2] ++ flat es := rfl
    refine ⟨?_, ?_, ?_⟩
    · rw [e, show (i + 1) * 3 = i * 3 + 3 from by omega, List.getElem?_append_right (by simp)]; exact h1
    · rw [e, show (i + 1) * 3 + 1 = i * 3 + 1 + 3 from by omega, List.getElem?_append_right (by simp)]; exact h2
    · rw [e, show (i + 1) * 3 + 2 = i * 3 + 2 + 3 from by omega, List.getElem?_append_right (by simp)]; exact h3
theorem flat_small {es : List En} {v : Value} (h : v ∈ flat es) : v.oneCell' = true := by
  simp only [flat, List.mem_flatMap] at h
  obtain ⟨x, _, h⟩ := h
  simp only [List.mem_cons, List.not_mem_nil, or_false] at h
  rcases h with rfl | rfl | rfl <;> rfl
/-- A byte's position, from 1 on; 0 is none. -/
def Pos (es : List En) (b : UInt8) (n : Nat) : Prop := (n = 0 ∧ ∀ x ∈ es, x.1 ≠ b) ∨ ∃ i s g, n = i + 1 ∧ es[i]? = some (b, s, g)
/-- The cells of the table of positions. -/
def Tab (cs : Array Value) (es : List En) : Prop := ∀ b : UInt8, ∃ n : Nat, cs[b.toNat]? = some (.int .u16 (n : Int)) ∧ Pos es b n
structure RowM (W : World) (q e : Nat) (es : List En) (room : Nat) (cs : Array Value) (v : Value) : Prop where
  box : Fresh W q cs 92
  size : cs.size = 258
  tab : Tab cs es
  ent : cs[256]? = some v
  room : cs[257]? = some (.int .i64 (room : Int))
  own : W.ownsRow 0 137 3 v es.length (flat es)
  blk : ∀ k, v.ownBlock = some k → k = e
  dist : es.Pairwise fun x y => x.1 ≠ y.1
  len : es.length ≤ 256
  lt : e < W.heap.size
  ty : e = q ∨ ∃ cur, W.heap[e]? = some (.cells cur 137 (0, 0))
theorem own_same {W W' : World} {B n z : Nat} {e : TypeId} {v : Value} {xs : List Value} (h : W.ownsRow B e z v n xs) (hb : ∀ k, v.ownBlock = some k → W'.heap[k]? = W.heap[k]?) : W'.ownsRow B e z v n xs := by
  refine ⟨h.1, ?_⟩
  rcases h.2 with h2 | ⟨g, cap, cur, rfl, h3, h4, h5⟩
  · exact .inl h2
  · exact .inr ⟨g, cap, cur, rfl, h3, (hb g rfl).trans h4, h5⟩
theorem RowM.same {W W' : World} {q e : Nat} {es : List En} {room : Nat} {cs : Array Value} {v : Value} (h : RowM W q e es room cs v) (hs : W.heap.size ≤ W'.heap.size) (hq : W'.heap[q]? = W.heap[q]?) (he : W'.heap[e]? = W.heap[e]?) : RowM W' q e es room cs v :=
  ⟨hq.trans h.box, h.size, h.tab, h.ent, h.room, own_same h.own (fun k hk => by rw [h.blk k hk]; exact he), h.blk, h.dist, h.len, Nat.lt_of_lt_of_le h.lt hs, by
    rcases h.ty with h1 | ⟨cur, h1⟩
    · exact .inl h1
    · exact .inr ⟨cur, he.trans h1⟩⟩
theorem RowM.below {W W' : World} {q e : Nat} {es : List En} {room : Nat} {cs : Array Value} {v : Value} (h : RowM W q e es room cs v) (hb : Below W.heap.size W W') : RowM W' q e es room cs v :=
  h.same hb.size (hb.block q h.box.lt) (hb.block e h.lt)
theorem RowM.turned {S : List Nat} {W W' : World} {q e : Nat} {es : List En} {room : Nat} {cs : Array Value} {v : Value} (h : RowM W q e es room cs v) (ht : Turned S W W') (h1 : q ∉ S) (h2 : e ∉ S) : RowM W' q e es room cs v :=
  h.same ht.size (ht.block q h.box.lt h1) (ht.block e h.lt h2)
theorem RowM.drew {W : World} {q e : Nat} {es : List En} {room : Nat} {cs : Array Value} {v : Value} (h : RowM W q e es room cs v) : RowM W.drew q e es room cs v := h.same (Nat.le_refl _) rfl rfl
theorem RowM.kept {W W' : World} {row : Option Nat} {q e : Nat} {es : List En} {room : Nat} {cs : Array Value} {v : Value} (h : RowM W q e es room cs v) (hg : W.grownBy W' row) (hr : ∀ r, row = some r → ∃ o : Obj, W.heap[r]? = some o ∧ o.isCells = false) : RowM W' q e es room cs v := by
  refine h.same hg.size ((h.box.kept hg hr).trans h.box.symm) ?_
  rcases h.ty with h1 | ⟨cur, h1⟩
  · rw [h1]; exact (h.box.kept hg hr).trans h.box.symm
  · exact (Fresh.kept (q := e) (cs := cur) (t := 137) h1 hg hr).trans h1.symm
/-- Where the entries stand. -/
theorem RowM.form {W : World} {q e : Nat} {es : List En} {room : Nat} {cs : Array Value} {v : Value} (h : RowM W q e es room cs v) : (v = .slice none 0 0 ∧ es = []) ∨ ∃ cap cur, v = .slice (some ⟨e, 0, none⟩) es.length cap ∧ Fresh W e cur 137 ∧ es.length ≤ cap ∧ cap ≤ maxLen ∧ cur.size = cap * 3 ∧ cur.toList.take (es.length * 3) = flat es := by
  rcases h.own.2 with ⟨h1, h2⟩ | ⟨g, cap, cur, rfl, h3, h4, h5⟩
  · exact .inl ⟨h1, List.length_eq_zero_iff.1 h2⟩
  · obtain rfl := h.blk g rfl
    exact .inr ⟨cap, cur, rfl, h4, h5⟩
theorem RowM.slice {W : World} {q e : Nat} {es : List En} {room : Nat} {cs : Array Value} {v : Value} (h : RowM W q e es room cs v) : ∃ ao cap, v = .slice ao es.length cap := by
  rcases h.form with ⟨h1, h2⟩ | ⟨cap, cur, h1, _⟩
  · exact ⟨none, 0, by rw [h1, h2]; rfl⟩
  · exact ⟨_, cap, h1⟩
theorem RowM.at {W : World} {q e : Nat} {es : List En} {room : Nat} {cs : Array Value} {v : Value} (h : RowM W q e es room cs v) {i : Nat} {x : En} (hi : es[i]? = some x) :
    W.cell? ⟨e, i * 3, none⟩ = some (.int .u8 (x.1.toNat : Int)) ∧ W.cell? ⟨e, i * 3 + 1, none⟩ = some (.int .i64 x.2.1) ∧ W.cell? ⟨e, i * 3 + 2, none⟩ = some (.int .u32 x.2.2) ∧ ∀ j, W.frozen? ⟨e, j, none⟩ = false := by
  have hlt := (List.getElem?_eq_some_iff.1 hi).1
  rcases h.form with ⟨_, h2⟩ | ⟨cap, cur, _, hf, h3, _, h5, h6⟩
  · subst h2; simp at hlt
  · obtain ⟨a1, a2, a3⟩ := flat_at es i x hi
    have key : ∀ j u, (flat es)[j]? = some u → W.cell? ⟨e, j, none⟩ = some u := by
      intro j u hj
      rw [hf.cell]
      have hjl : j < es.length * 3 := by rw [← flat_length]; exact (List.getElem?_eq_some_iff.1 hj).1
      rw [← h6, List.getElem?_take_of_lt hjl, Array.getElem?_toList] at hj
      exact hj
    exact ⟨key _ _ a1, key _ _ a2, key _ _ a3, fun j => hf.thawed j⟩
theorem Pos.uniq {es : List En} (hd : es.Pairwise fun x y => x.1 ≠ y.1) {b : UInt8} {n m : Nat} (h : Pos es b n) (k : Pos es b m) : n = m := by
  rcases h with ⟨rfl, h⟩ | ⟨i, s, g, rfl, hi⟩
  · rcases k with ⟨rfl, _⟩ | ⟨j, s, g, rfl, hj⟩
    · rfl
    · exact absurd rfl (h _ (List.mem_of_getElem? hj))
  · rcases k with ⟨rfl, k⟩ | ⟨j, s', g', rfl, hj⟩
    · exact absurd rfl (k _ (List.mem_of_getElem? hi))
    · obtain ⟨il, hi⟩ := List.getElem?_eq_some_iff.1 hi
      obtain ⟨jl, hj⟩ := List.getElem?_eq_some_iff.1 hj
      rcases Nat.lt_trichotomy i j with hlt | rfl | hlt
      · have := List.pairwise_iff_getElem.1 hd i j il jl hlt
        rw [hi, hj] at this; exact absurd rfl this
      · rfl
      · have := List.pairwise_iff_getElem.1 hd j i jl il hlt
        rw [hi, hj] at this; exact absurd rfl this
end Go.Proofs.YtjaijomkdgoenaaDoor.Mn
