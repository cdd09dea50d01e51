/- Bits: the library's tables, and what the calls of the examples come to. -/
import Derived.Test.YtfmnfdnoniljgaaDoorY2
import Derived.Test.YtfmnfdnoniljgaaDoorProg
import Derived.KernelRfl
namespace Go.Proofs.YtfmnfdnoniljgaaDoor.B
open Go Go.Proofs.XX.Vm
set_option maxRecDepth 100000

/-- The tables that are looked at. -/
def tab32 : List Int := [0, 1, 28, 2, 29, 14, 24, 3, 30, 22, 20, 15, 25, 17, 4, 8, 31, 27, 13, 23, 21, 19, 16, 7, 26, 12, 18, 6, 11, 5, 10, 9]
def tab64 : List Int := [0, 1, 56, 2, 57, 49, 28, 3, 61, 58, 42, 50, 38, 29, 17, 4, 62, 47, 59, 36, 45, 43, 51, 22, 53, 39, 33, 30, 24, 18, 12, 5, 63, 55, 48, 27, 60, 41, 37, 16, 46, 35, 44, 21, 52, 32, 23, 11, 54, 26, 40, 15, 34, 20, 31, 10, 25, 14, 19, 9, 13, 8, 7, 6]
def k32 : Blk := ⟨tab32.map (Value.int .u8), 117, true, none⟩
def k64 : Blk := ⟨tab64.map (Value.int .u8), 118, true, none⟩
abbrev SgB : List Blk := [k32, k64]
theorem sgB : SgOk SgB := by
  unfold SgOk
  have h1 : (k32.cells.all scalar && k32.obj.isNone) = true := by decide
  have h2 : (k64.cells.all scalar && k64.obj.isNone) = true := by decide
  simp only [List.all_cons, h1, h2, List.all_nil, Bool.and_self]
abbrev O0 : Orc := orcLM [] []
theorem rReduce0 : resOk Tryd.prog O0 SgB 3 24 [.l [3, 5, 6], .i (4)] (.l 2 unk (⟨[], 3, false, some (.buf .i64 1 [5, 3])⟩) 0) := ⟨by decide, 300, by kernel_rfl⟩
theorem rWhich0 : resOk Tryd.prog O0 SgB 3 37 [.l [3, 5, 6], .i (4), .i (6)] (.v (.tuple #[.int .i64 3, .int .i64 0])) := ⟨by decide, 300, by kernel_rfl⟩
theorem rWhich1 : resOk Tryd.prog O0 SgB 3 37 [.l [3, 5, 6], .i (4), .i (0)] (.v (.tuple #[.int .i64 0, .int .i64 0])) := ⟨by decide, 300, by kernel_rfl⟩
theorem rNull0 : resOk Tryd.prog O0 SgB 3 26 [.l [3, 5, 6], .i (4)] (.l 2 unk (⟨[], 3, false, some (.buf .i64 1 [8, 7])⟩) 0) := ⟨by decide, 300, by kernel_rfl⟩
theorem rTranspose0 : resOk Tryd.prog O0 SgB 3 48 [.l [3, 6], .i (3)] (.l 3 3 (intB 3 [1, 3, 2]) 0) := ⟨by decide, 300, by kernel_rfl⟩
theorem rFree0 : resOk Tryd.prog O0 SgB 3 25 [.l [3, 5, 6], .i (4)] (.l 2 unk (⟨[], 3, false, some (.buf .i64 1 [0, 3])⟩) 0) := ⟨by decide, 300, by kernel_rfl⟩
theorem rRank0 : resOk Tryd.prog O0 SgB 3 23 [.l [3, 5, 6], .i (4)] (.v (.tuple #[.int .i64 2, .int .i64 0])) := ⟨by decide, 300, by kernel_rfl⟩
end Go.Proofs.YtfmnfdnoniljgaaDoor.B
