/- Bits: what more calls of the examples come to. -/
import Derived.Test.YtfmnfdnoniljgaaDoorBa
import Derived.KernelRfl
namespace Go.Proofs.YtfmnfdnoniljgaaDoor.B
open Go Go.Proofs.XX.Vm
set_option maxRecDepth 100000
theorem rMeet0 : resOk Tryd.prog O0 SgB 3 38 [.l [3, 4], .l [5, 2], .i (3)] (.l 1 unk (⟨[], 3, false, some (.buf .i64 1 [7])⟩) 0) := ⟨by decide, 300, by kernel_rfl⟩
end Go.Proofs.YtfmnfdnoniljgaaDoor.B
