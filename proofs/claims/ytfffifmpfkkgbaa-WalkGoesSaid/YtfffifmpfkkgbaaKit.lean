/- Small laws that the walks of this seat share. -/
import Derived.Test.YtfffifmpfkkgbaaProg
import Derived.WalkKit
import Derived.WalkSpells
import Derived.Lib.Hide
import Derived.BigQuiet
import Derived.Lib.QuietBelow
import Derived.KernelRfl
namespace Go.Proofs.Ytfffifmpfkkgbaa
open Go.RowKit

theorem makeFunc_run {P : Program} (fn : Fn) (first cap : Array Value) (w : World) : (Instr.makeFunc fn first cap).run P w = .ok (.func fn first cap) w := rfl
theorem ret_int {k : IntKind} {a b : Int} (h : a = b) : Ending.returned (.int k a) = .returned (.int k b) := by rw [h]
theorem ret_bool {a b : Bool} (h : a = b) : Ending.returned (.bool a) = .returned (.bool b) := by rw [h]
theorem ret_str {a b : ByteArray} (h : a = b) : Ending.returned (.string a) = .returned (.string b) := by rw [h]
theorem bytes_ext {a b : ByteArray} (h : a.data.toList = b.data.toList) : a = b := by
  cases a; cases b; simp at h; rw [h]
theorem extract_list (s : ByteArray) (i j : Nat) : (s.extract i j).data.toList = (s.data.toList.drop i).take (j - i) := by
  simp [ByteArray.data_extract, Array.toList_extract, List.extract_eq_take_drop]
theorem append_list (a b : ByteArray) : (a ++ b).data.toList = a.data.toList ++ b.data.toList := by simp [ByteArray.data_append]
theorem append_size (a b : ByteArray) : (a ++ b).size = a.size + b.size := by simp [ByteArray.size_append]
theorem length_list (a : ByteArray) : a.data.toList.length = a.size := by simp
theorem byte_at (s : ByteArray) (k : Nat) (h : k < s.size) : s.data.toList[k]? = some s[k] := by
  rw [List.getElem?_eq_getElem (by simpa using h)]; rfl

/-- The string of one byte. -/
def one (c : UInt8) : ByteArray := ⟨#[c]⟩
theorem one_size (c : UInt8) : (one c).size = 1 := rfl
theorem one_list (c : UInt8) : (one c).data.toList = [c] := rfl
theorem run_convert_one {P : Program} (w : World) (src dst e : TypeId) (c : UInt8) (hs : P.underlying src = some (.slice e)) (he : P.underlying e = some (.int .u8)) (hd : P.underlying dst = some .string) :
    (convert src dst (.slice (some ⟨w.heap.size, 0, none⟩) 1 1)).run P (w.alloc (.cells #[.int .u8 c.toNat] e)) = .ok (.string (one c)) (w.alloc (.cells #[.int .u8 c.toNat] e)) := by
  rw [run_convert_bytes_string _ src dst e _ _ _ hs he hd]
  rw [run_bytesToString _ _ _ _ [(c.toNat : Int)] (by simp [go_sem, loadCells])]
  have e : UInt8.ofNat ((c.toNat : Int).toNat) = c := by simp
  simp only [List.foldl_cons, List.foldl_nil, e]
  rfl

theorem Below.step {w w1 w2 : World} (h : Below w.heap.size w w1) (k : Below w1.heap.size w1 w2) : Below w.heap.size w w2 := h.trans (k.mono h.size)
theorem Below.new {w w1 : World} (h : Below w.heap.size w w1) (o : Obj) : Below w.heap.size w (w1.alloc o) := h.alloc h.size o
theorem block_below {w1 w2 : World} {cs : Array Value} {T : TypeId} (hb : Below (w1.alloc (.cells cs T)).heap.size (w1.alloc (.cells cs T)) w2) (i : Nat) (v : Value) (h : cs[i]? = some v) :
    w2.cell? ⟨w1.heap.size, i, none⟩ = some v ∧ w2.frozen? ⟨w1.heap.size, i, none⟩ = false := by
  constructor
  · rw [hb.cell (p := ⟨w1.heap.size, i, none⟩) (by simp), World.cell?_alloc_new, h]
  · rw [hb.frozen (p := ⟨w1.heap.size, i, none⟩) (by simp), World.frozen?_alloc_new]

end Go.Proofs.Ytfffifmpfkkgbaa
