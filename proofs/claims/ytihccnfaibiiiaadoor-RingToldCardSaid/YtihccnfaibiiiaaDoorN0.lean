/- Ring: what the program's functions give, as one value each. -/
import Derived.Test.YtihccnfaibiiiaaDoorC4
import Derived.Test.YtihccnfaibiiiaaDoorD3
namespace Go.Proofs.YtihccnfaibiiiaaDoor.R
open Go Go.Proofs.XX.Vm Go.Proofs.XX.Rm Go.RowKit
set_option maxRecDepth 100000
/-- What the functions give, as one value each. -/
def oneS (x z : N) : N × Int := bif3 x (z.nf, 0) fun n => (O, n)
def twoS (x y z : N) : N × Int := bif3 x (bif3 y (fitS z.nf) fun n => (O, n)) fun n => (O, n)
def norS (x : N) : N × Int := bif3 x (fitS (x.mul x.conj).nf) fun n => (O, n)
theorem oneS_get (x z : N) : (oneT x z).get = some (resV (oneS x z)) := by unfold oneT oneS badN; rw [okT_get]; unfold bif3; cases rgB x <;> cases inB x <;> rfl
theorem twoS_get (x y z : N) : (twoT x y z).get = some (resV (twoS x y z)) := by
  unfold twoT twoS badN; simp only [okT_get, fitT_get]; unfold bif3
  cases rgB x <;> cases inB x <;> cases rgB y <;> cases inB y <;> rfl
theorem norS_get (x : N) : (norT x).get = some (resV (norS x)) := by
  unfold norT norS badN; simp only [okT_get, fitT_get]; unfold bif3
  cases rgB x <;> cases inB x <;> rfl
end Go.Proofs.YtihccnfaibiiiaaDoor.R
