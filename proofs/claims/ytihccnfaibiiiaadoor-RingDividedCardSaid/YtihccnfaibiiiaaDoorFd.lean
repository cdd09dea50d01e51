/- Ring: what Divide gives. -/
import Derived.Test.YtihccnfaibiiiaaDoorF6
namespace Go.Proofs.YtihccnfaibiiiaaDoor.R
open Go Go.Proofs.XX.Vm Go.Proofs.XX.Rm Go.RowKit
set_option maxRecDepth 100000

def divR (x y : N) : N × Int := bif3 x (bif3 y (divS x y) fun n => (O, n)) fun n => (O, n)
theorem divR_get (x y : N) : (divT x y).get = some (resV (divR x y)) := by
  unfold divT divR badN; simp only [okT_get]; unfold bif3
  cases rgB x <;> cases inB x <;> cases rgB y <;> cases inB y <;> rfl
end Go.Proofs.YtihccnfaibiiiaaDoor.R
