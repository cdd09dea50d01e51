/- Bits: what more calls of the examples come to. -/
import Derived.Test.YtfmnfdnoniljgaaDoorBa
import Derived.KernelRfl
namespace Go.Proofs.YtfmnfdnoniljgaaDoor.B
open Go Go.Proofs.XX.Vm
set_option maxRecDepth 100000
theorem rMul0 : resOk Tryd.prog O0 SgB 3 47 [.l [1, 3], .i (2), .l [5, 6], .i (3)] (.l 2 2 (intB 3 [5, 3]) 0) := ⟨by decide, 300, by kernel_rfl⟩
theorem rInvert0 : resOk Tryd.prog O0 SgB 3 49 [.l [3, 2, 4], .i (3)] (.l 3 unk (⟨[], 3, false, some (.buf .i64 1 [3, 2, 4])⟩) 0) := ⟨by decide, 300, by kernel_rfl⟩
end Go.Proofs.YtfmnfdnoniljgaaDoor.B
