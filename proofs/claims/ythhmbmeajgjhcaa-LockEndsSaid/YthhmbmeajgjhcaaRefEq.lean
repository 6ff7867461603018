/- References compared. -/
import Derived.Test.YthhmbmeajgjhcaaMap
namespace Go.Proofs.Ythhmbmeajgjhcaa
open Go.RowKit
set_option maxRecDepth 100000
theorem run_eqref {x g y k : Int} (h1 : RefOk x g) (h2 : RefOk y k) (W : World) : (Op.equal 33 (refV x g) (refV y k)).run Try.prog W = .ok (decide (x = y ∧ g = k)) W := by
  obtain ⟨l1, e1⟩ := keyRef x g h1
  obtain ⟨l2, e2⟩ := keyRef y k h2
  obtain ⟨r, hr, hi⟩ := run_equal_deep W (m := 3) (by omega) (k := 33) (by kernel_rfl) (by kernel_rfl) e1 e2
  rw [hr]
  congr 1
  rw [Bool.eq_iff_iff, hi, decide_eq_true_iff]
  constructor
  · intro e
    subst e
    exact refV_inj (refLaw.inj e1 e2)
  · rintro ⟨rfl, rfl⟩
    rw [e1] at e2
    simpa using e2
end Go.Proofs.Ythhmbmeajgjhcaa
