/- Ring: both Omegas give the same. -/
import Derived.Test.YtihccnfaibiiiaaGreatDoorO1
import Derived.Test.YtihccnfaibiiiaaGreatDoorG4
namespace Go.Proofs.YtihccnfaibiiiaaGreatDoor.R
open Go Go.Proofs.XX.Vm Go.Proofs.XX.Rm Go.RowKit
set_option maxRecDepth 100000

theorem xo_eq (n : Int) : xo n = trns (omN n).toNat om1 := by
  have h8 : 0 ≤ n % 8 ∧ n % 8 < 8 := by omega
  have ho : omN n = n % 8 := by
    unfold omN
    have t1 := Int.tmod_lt_of_pos n (b := 8) (by omega)
    have t2 := Int.lt_tmod_of_pos n (b := 8) (by omega)
    have t3 := Int.tmod_add_mul_tdiv n 8
    rw [w_eq _ (by omega) (by omega), Int.tmod_eq_emod_of_nonneg (by omega)]
    omega
  rw [ho]
  unfold xo
  rw [andE_eq]
  generalize n % 8 = m at h8
  have : m = 0 ∨ m = 1 ∨ m = 2 ∨ m = 3 ∨ m = 4 ∨ m = 5 ∨ m = 6 ∨ m = 7 := by omega
  rcases this with rfl | rfl | rfl | rfl | rfl | rfl | rfl | rfl <;> rfl
end Go.Proofs.YtihccnfaibiiiaaGreatDoor.R
