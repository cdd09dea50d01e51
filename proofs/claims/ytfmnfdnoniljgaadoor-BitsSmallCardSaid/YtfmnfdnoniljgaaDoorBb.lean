/- Bits: what more calls of the examples come to. -/
import Derived.Test.YtfmnfdnoniljgaaDoorBa
import Derived.KernelRfl
namespace Go.Proofs.YtfmnfdnoniljgaaDoor.B
open Go Go.Proofs.XX.Vm
set_option maxRecDepth 100000
theorem rWeights0 : resOk Tryd.prog O0 SgB 3 55 [.l [3, 5, 6], .i (4)] (.l 5 5 (intB 3 [1, 0, 3, 0, 0]) 0) := ⟨by decide, 300, by kernel_rfl⟩
theorem rWeights1 : resOk Tryd.prog O0 SgB 3 55 [.l [8, 7], .i (4)] (.l 5 5 (intB 3 [1, 1, 0, 1, 1]) 0) := ⟨by decide, 300, by kernel_rfl⟩
theorem rSolve0 : resOk Tryd.prog O0 SgB 3 41 [.l [3, 6], .i (3), .i (3)] (.v (.tuple #[.int .i64 2, .int .i64 0])) := ⟨by decide, 300, by kernel_rfl⟩
theorem rSolve1 : resOk Tryd.prog O0 SgB 3 41 [.l [3, 6], .i (3), .i (1)] (.v (.tuple #[.int .i64 1, .int .i64 0])) := ⟨by decide, 300, by kernel_rfl⟩
theorem rCoset0 : resOk Tryd.prog O0 SgB 3 56 [.l [3, 5, 6], .i (3), .i (7)] (.v (.tuple #[.int .i64 1, .int .i64 0])) := ⟨by decide, 300, by kernel_rfl⟩
theorem rMember0 : resOk Tryd.prog O0 SgB 3 36 [.l [3, 5, 6], .i (4), .i (8)] (.v (.tuple #[.bool false, .int .i64 0])) := ⟨by decide, 300, by kernel_rfl⟩
theorem rSame0 : resOk Tryd.prog O0 SgB 3 35 [.l [3, 5, 6], .l [6, 3], .i (4)] (.v (.tuple #[.bool true, .int .i64 0])) := ⟨by decide, 300, by kernel_rfl⟩
end Go.Proofs.YtfmnfdnoniljgaaDoor.B
