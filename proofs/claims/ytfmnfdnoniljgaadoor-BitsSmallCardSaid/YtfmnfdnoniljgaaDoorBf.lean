/- Bits: the small statement holds. -/
import Derived.Test.YtfmnfdnoniljgaaDoorBe
import Derived.KernelRfl
namespace Go.Proofs.YtfmnfdnoniljgaaDoor.B
open Go Go.Proofs.XX.Vm
set_option maxRecDepth 100000
theorem tSmall : runK Tryd.prog (orcLM [cAwake] MB) SgB 300 8 [] = some (.bool true) := by kernel_rfl
end Go.Proofs.YtfmnfdnoniljgaaDoor.B
