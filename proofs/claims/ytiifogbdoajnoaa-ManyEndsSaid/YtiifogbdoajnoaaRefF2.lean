/- The reference's row: Turn, Take, Put. -/
import Derived.Test.YtiifogbdoajnoaaRefF
namespace Go.Proofs.Ytiifogbdoajnoaa
open Go.RowKit
set_option maxRecDepth 100000
set_option maxHeartbeats 2000000









theorem put_at {b : UInt8} {l : List En} (hs : Srt l) (s g : Int) {room : Nat} (h : ¬ (isIn b l = true ∨ l.length = room)) : isIn b (putS b s g l room) = true ∧ atOf b (putS b s g l room) = (b, s, g) :=
  mem_at (x := (b, s, g)) (srt_put hs s g room) ((mem_put h _).2 (.inl rfl))
theorem mem_put' {b : UInt8} {l : List En} (s g : Int) {room : Nat} (x : En) (hx : x.1 ≠ b) : x ∈ putS b s g l room ↔ x ∈ l := by
  by_cases h : isIn b l = true ∨ l.length = room
  · rw [putS, if_pos h]
  · rw [mem_put h]
    exact ⟨fun h1 => h1.elim (fun e => by subst e; exact (hx rfl).elim) id, .inr⟩

/-- A row of which one byte's cells have changed. -/
theorem RefAt.chg {W W' : World} {B : Nat} {l l' : List En} {room : Int} (h : RefAt W B l room) (b : UInt8) (s g : Int)
    (hi : W'.cell? ⟨B, 1 + b.toNat, none⟩ = some (.bool (isIn b l')))
    (hs : W'.cell? ⟨B, 257 + b.toNat * 2, none⟩ = some (.int .i64 s)) (hg : W'.cell? ⟨B, 257 + b.toNat * 2 + 1, none⟩ = some (.int .u32 g))
    (ho : ∀ j, j ≠ 1 + b.toNat → j ≠ 257 + b.toNat * 2 → j ≠ 257 + b.toNat * 2 + 1 → W'.cell? ⟨B, j, none⟩ = W.cell? ⟨B, j, none⟩)
    (hf : ∀ j, j < 769 → W'.frozen? ⟨B, j, none⟩ = false) (e : isIn b l' = true → atOf b l' = (b, s, g))
    (hc : ∀ c, c ≠ b → isIn c l' = isIn c l ∧ (isIn c l' = true → atOf c l' = atOf c l)) : RefAt W' B l' room := by
  have hb := b.toNat_lt
  have ne : ∀ c : UInt8, c ≠ b → c.toNat ≠ b.toNat := fun c h e => h (UInt8.toNat_inj.1 e)
  refine ⟨?_, fun c => ?_, fun c => ?_, hf⟩
  · rw [ho 0 (by omega) (by omega) (by omega)]; exact h.room
  · by_cases e2 : c = b
    · subst e2; exact hi
    · have := ne c e2
      have h3 := c.toNat_lt
      rw [ho _ (by omega) (by omega) (by omega), (hc c e2).1]; exact h.is c
  · by_cases e2 : c = b
    · subst e2; exact ⟨s, g, hs, hg, e⟩
    · have := ne c e2
      have h3 := c.toNat_lt
      obtain ⟨s', g', h1, h2, h4⟩ := h.ref c
      refine ⟨s', g', ?_, ?_, fun h5 => ?_⟩
      · rw [ho _ (by omega) (by omega) (by omega)]; exact h1
      · rw [ho _ (by omega) (by omega) (by omega)]; exact h2
      · rw [(hc c e2).2 h5]; exact h4 ((hc c e2).1 ▸ h5)
theorem RefAt.some_is {W : World} {B : Nat} {l : List En} {room : Int} (h : RefAt W B l room) (b : UInt8) : (W.cell? ⟨B, 1 + b.toNat, none⟩).isSome = true ∧ (W.cell? ⟨B, 257 + b.toNat * 2, none⟩).isSome = true ∧ (W.cell? ⟨B, 257 + b.toNat * 2 + 1, none⟩).isSome = true := by
  obtain ⟨s, g, h1, h2, _⟩ := h.ref b
  rw [h.is b, h1, h2]
  exact ⟨rfl, rfl, rfl⟩
theorem RefAt.take {W : World} {B : Nat} {l : List En} {room : Int} (h : RefAt W B l room) (hs : Srt l) (b : UInt8) : RefAt (W.setCell ⟨B, 1 + b.toNat, none⟩ (.bool false)) B (takeS b l) room := by
  obtain ⟨s, g, h1, h2, _⟩ := h.ref b
  obtain ⟨i0, _, _⟩ := h.some_is b
  have hb := b.toNat_lt
  refine h.chg b s g ?_ ?_ ?_ (fun j h3 _ _ => by rw [cell_one i0, if_neg h3]) (fun j hj => by rw [World.frozen?_setCell]; exact h.thaw j hj) (fun h3 => by rw [take_not hs] at h3; cases h3) (fun c hc => else_same hs (srt_take hs) mem_take c hc)
  · rw [cell_one i0, if_pos rfl, take_not hs]
  · rw [cell_one i0, if_neg (by omega)]; exact h1
  · rw [cell_one i0, if_neg (by omega)]; exact h2
theorem RefAt.two {W : World} {B : Nat} {l : List En} {room : Int} (h : RefAt W B l room) (b : UInt8) (s g : Int) (j : Nat) :
    ((W.setCell ⟨B, 257 + b.toNat * 2, none⟩ (.int .i64 s)).setCell ⟨B, 257 + b.toNat * 2 + 1, none⟩ (.int .u32 g)).cell? ⟨B, j, none⟩ = if j = 257 + b.toNat * 2 + 1 then some (.int .u32 g) else if j = 257 + b.toNat * 2 then some (.int .i64 s) else W.cell? ⟨B, j, none⟩ := by
  obtain ⟨_, i1, i2⟩ := h.some_is b
  rw [cell_one (by rw [cell_one i1, if_neg (by omega)]; exact i2), cell_one i1]
theorem RefAt.turn {W : World} {B : Nat} {l : List En} {room : Int} (h : RefAt W B l room) (hs : Srt l) (b : UInt8) (hi : isIn b l = true) (s g : Int) :
    RefAt ((W.setCell ⟨B, 257 + b.toNat * 2, none⟩ (.int .i64 s)).setCell ⟨B, 257 + b.toNat * 2 + 1, none⟩ (.int .u32 g)) B (turnS b s g l) room := by
  obtain ⟨e1, e2⟩ := turn_at hs s g hi
  have hb := b.toNat_lt
  have c := h.two b s g
  refine h.chg b s g ?_ ?_ ?_ (fun j _ h4 h5 => by rw [c, if_neg h5, if_neg h4]) (fun j hj => by rw [World.frozen?_setCell, World.frozen?_setCell]; exact h.thaw j hj) (fun _ => e2) (fun c hc => else_same hs (srt_turn hs s g) (mem_turn s g) c hc)
  · rw [c, if_neg (by omega), if_neg (by omega), e1, h.is b, hi]
  · rw [c, if_neg (by omega), if_pos rfl]
  · rw [c, if_pos rfl]
theorem RefAt.put {W : World} {B : Nat} {l : List En} {room : Int} (h : RefAt W B l room) (hs : Srt l) (b : UInt8) {rm : Nat} (hi : ¬ (isIn b l = true ∨ l.length = rm)) (s g : Int) :
    RefAt (((W.setCell ⟨B, 1 + b.toNat, none⟩ (.bool true)).setCell ⟨B, 257 + b.toNat * 2, none⟩ (.int .i64 s)).setCell ⟨B, 257 + b.toNat * 2 + 1, none⟩ (.int .u32 g)) B (putS b s g l rm) room := by
  obtain ⟨e1, e2⟩ := put_at hs s g hi
  have hb := b.toNat_lt
  obtain ⟨i0, i1, i2⟩ := h.some_is b
  have c : ∀ j, (((W.setCell ⟨B, 1 + b.toNat, none⟩ (.bool true)).setCell ⟨B, 257 + b.toNat * 2, none⟩ (.int .i64 s)).setCell ⟨B, 257 + b.toNat * 2 + 1, none⟩ (.int .u32 g)).cell? ⟨B, j, none⟩ = if j = 257 + b.toNat * 2 + 1 then some (.int .u32 g) else if j = 257 + b.toNat * 2 then some (.int .i64 s) else if j = 1 + b.toNat then some (.bool true) else W.cell? ⟨B, j, none⟩ := fun j => by
    have j1 : ((W.setCell ⟨B, 1 + b.toNat, none⟩ (.bool true)).cell? ⟨B, 257 + b.toNat * 2, none⟩).isSome = true := by rw [cell_one i0, if_neg (by omega)]; exact i1
    have j2 : ((W.setCell ⟨B, 1 + b.toNat, none⟩ (.bool true)).cell? ⟨B, 257 + b.toNat * 2 + 1, none⟩).isSome = true := by rw [cell_one i0, if_neg (by omega)]; exact i2
    rw [cell_one (by rw [cell_one j1, if_neg (by omega)]; exact j2), cell_one j1, cell_one i0]
  refine h.chg b s g ?_ ?_ ?_ (fun j h3 h4 h5 => by rw [c, if_neg h5, if_neg h4, if_neg h3]) (fun j hj => by rw [World.frozen?_setCell, World.frozen?_setCell, World.frozen?_setCell]; exact h.thaw j hj) (fun _ => e2) (fun c hc => else_same hs (srt_put hs s g rm) (mem_put' s g) c hc)
  · rw [c, if_neg (by omega), if_neg (by omega), if_pos rfl, e1]
  · rw [c, if_neg (by omega), if_pos rfl]
  · rw [c, if_pos rfl]
end Go.Proofs.Ytiifogbdoajnoaa
