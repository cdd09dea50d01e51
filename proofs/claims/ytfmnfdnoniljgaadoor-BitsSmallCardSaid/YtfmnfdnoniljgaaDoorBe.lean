/- Bits: the examples hold. -/
import Derived.Test.YtfmnfdnoniljgaaDoorBa
import Derived.Test.YtfmnfdnoniljgaaDoorBb
import Derived.Test.YtfmnfdnoniljgaaDoorBc
import Derived.Test.YtfmnfdnoniljgaaDoorBd
import Derived.KernelRfl
namespace Go.Proofs.YtfmnfdnoniljgaaDoor.B
open Go Go.Proofs.XX.Vm
set_option maxRecDepth 100000
theorem nil_all {p : List Arg × Res → Prop} : ∀ c ∈ ([] : List (List Arg × Res)), p c := by simp
theorem cons_all {p : List Arg × Res → Prop} {c : List Arg × Res} {l : List (List Arg × Res)} (h : p c) (hl : ∀ d ∈ l, p d) : ∀ d ∈ c :: l, p d := by
  intro d hd
  rcases List.mem_cons.1 hd with rfl | hd
  · exact h
  · exact hl d hd
noncomputable def cReduce : MCon := mcases 3 2 24 [([.l [3, 5, 6], .i (4)], .l 2 unk (⟨[], 3, false, some (.buf .i64 1 [5, 3])⟩) 0)]
theorem cReduce_ok : MConOk Tryd.prog SgB cReduce := mcases_ok sgB nil_cok nil_mok (cons_all rReduce0 nil_all)
noncomputable def cWhich : MCon := mcases 3 2 37 [([.l [3, 5, 6], .i (4), .i (6)], .v (.tuple #[.int .i64 3, .int .i64 0])), ([.l [3, 5, 6], .i (4), .i (0)], .v (.tuple #[.int .i64 0, .int .i64 0]))]
theorem cWhich_ok : MConOk Tryd.prog SgB cWhich := mcases_ok sgB nil_cok nil_mok (cons_all rWhich0 (cons_all rWhich1 nil_all))
noncomputable def cNull : MCon := mcases 3 2 26 [([.l [3, 5, 6], .i (4)], .l 2 unk (⟨[], 3, false, some (.buf .i64 1 [8, 7])⟩) 0)]
theorem cNull_ok : MConOk Tryd.prog SgB cNull := mcases_ok sgB nil_cok nil_mok (cons_all rNull0 nil_all)
noncomputable def cWeights : MCon := mcases 3 2 55 [([.l [3, 5, 6], .i (4)], .l 5 5 (intB 3 [1, 0, 3, 0, 0]) 0), ([.l [8, 7], .i (4)], .l 5 5 (intB 3 [1, 1, 0, 1, 1]) 0)]
theorem cWeights_ok : MConOk Tryd.prog SgB cWeights := mcases_ok sgB nil_cok nil_mok (cons_all rWeights0 (cons_all rWeights1 nil_all))
noncomputable def cSolve : MCon := mcases 3 2 41 [([.l [3, 6], .i (3), .i (3)], .v (.tuple #[.int .i64 2, .int .i64 0])), ([.l [3, 6], .i (3), .i (1)], .v (.tuple #[.int .i64 1, .int .i64 0]))]
theorem cSolve_ok : MConOk Tryd.prog SgB cSolve := mcases_ok sgB nil_cok nil_mok (cons_all rSolve0 (cons_all rSolve1 nil_all))
noncomputable def cMul : MCon := mcases 3 2 47 [([.l [1, 3], .i (2), .l [5, 6], .i (3)], .l 2 2 (intB 3 [5, 3]) 0)]
theorem cMul_ok : MConOk Tryd.prog SgB cMul := mcases_ok sgB nil_cok nil_mok (cons_all rMul0 nil_all)
noncomputable def cTranspose : MCon := mcases 3 2 48 [([.l [3, 6], .i (3)], .l 3 3 (intB 3 [1, 3, 2]) 0)]
theorem cTranspose_ok : MConOk Tryd.prog SgB cTranspose := mcases_ok sgB nil_cok nil_mok (cons_all rTranspose0 nil_all)
noncomputable def cInvert : MCon := mcases 3 2 49 [([.l [3, 2, 4], .i (3)], .l 3 unk (⟨[], 3, false, some (.buf .i64 1 [3, 2, 4])⟩) 0)]
theorem cInvert_ok : MConOk Tryd.prog SgB cInvert := mcases_ok sgB nil_cok nil_mok (cons_all rInvert0 nil_all)
noncomputable def cCoset : MCon := mcases 3 2 56 [([.l [3, 5, 6], .i (3), .i (7)], .v (.tuple #[.int .i64 1, .int .i64 0]))]
theorem cCoset_ok : MConOk Tryd.prog SgB cCoset := mcases_ok sgB nil_cok nil_mok (cons_all rCoset0 nil_all)
noncomputable def cMeet : MCon := mcases 3 2 38 [([.l [3, 4], .l [5, 2], .i (3)], .l 1 unk (⟨[], 3, false, some (.buf .i64 1 [7])⟩) 0)]
theorem cMeet_ok : MConOk Tryd.prog SgB cMeet := mcases_ok sgB nil_cok nil_mok (cons_all rMeet0 nil_all)
noncomputable def cRank : MCon := mcases 3 2 23 [([.l [3, 5, 6], .i (4)], .v (.tuple #[.int .i64 2, .int .i64 0]))]
theorem cRank_ok : MConOk Tryd.prog SgB cRank := mcases_ok sgB nil_cok nil_mok (cons_all rRank0 nil_all)
noncomputable def cFree : MCon := mcases 3 2 25 [([.l [3, 5, 6], .i (4)], .l 2 unk (⟨[], 3, false, some (.buf .i64 1 [0, 3])⟩) 0)]
theorem cFree_ok : MConOk Tryd.prog SgB cFree := mcases_ok sgB nil_cok nil_mok (cons_all rFree0 nil_all)
noncomputable def cMember : MCon := mcases 3 2 36 [([.l [3, 5, 6], .i (4), .i (8)], .v (.tuple #[.bool false, .int .i64 0]))]
theorem cMember_ok : MConOk Tryd.prog SgB cMember := mcases_ok sgB nil_cok nil_mok (cons_all rMember0 nil_all)
noncomputable def cSame : MCon := mcases 3 2 35 [([.l [3, 5, 6], .l [6, 3], .i (4)], .v (.tuple #[.bool true, .int .i64 0]))]
theorem cSame_ok : MConOk Tryd.prog SgB cSame := mcases_ok sgB nil_cok nil_mok (cons_all rSame0 nil_all)
noncomputable abbrev MB : List MCon := [cReduce, cWhich, cNull, cWeights, cSolve, cMul, cTranspose, cInvert, cCoset, cMeet, cRank, cFree, cMember, cSame]
theorem MB_ok : ∀ c ∈ MB, MConOk Tryd.prog SgB c := (cons_mok cReduce_ok (cons_mok cWhich_ok (cons_mok cNull_ok (cons_mok cWeights_ok (cons_mok cSolve_ok (cons_mok cMul_ok (cons_mok cTranspose_ok (cons_mok cInvert_ok (cons_mok cCoset_ok (cons_mok cMeet_ok (cons_mok cRank_ok (cons_mok cFree_ok (cons_mok cMember_ok (cons_mok cSame_ok nil_mok))))))))))))))
theorem tAwake : runK Tryd.prog (orcLM [] MB) SgB 300 17 [] = some (.bool true) := by kernel_rfl
noncomputable def cAwake : Con := con0 17 (.bool true)
theorem cAwake_ok : ConOk Tryd.prog SgB cAwake := con0_ok sgB nil_cok MB_ok tAwake
end Go.Proofs.YtfmnfdnoniljgaaDoor.B
