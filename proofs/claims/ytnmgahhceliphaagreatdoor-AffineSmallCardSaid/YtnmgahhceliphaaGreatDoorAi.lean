/- Affine: the small statement holds. -/
import Derived.Test.YtnmgahhceliphaaGreatDoorAh
namespace Go.Proofs.YtnmgahhceliphaaGreatDoor.A
open Go Go.Proofs.XX.Vm
set_option maxRecDepth 100000

noncomputable def cAwake : Con := con0 17 (.bool true)
theorem cAwake_ok : ConOk Tryz.prog SgA cAwake := by
  intro args t u ht hu w inv
  simp only [cAwake, con0] at ht
  split at ht
  · cases ht
    cases hu
    exact runC_calls (args := []) sgA (orcLM_ok LA_ok MA_ok) tAwake rfl inv
  · cases ht
noncomputable abbrev LA2 : List Con := [cAwake, cTake, cCount]
theorem LA2_ok : ∀ c ∈ LA2, ConOk Tryz.prog SgA c := cons_cok cAwake_ok (cons_cok cTake_ok (cons_cok cCount_ok nil_cok))
theorem tSmall : runC Tryz.prog (orcLM LA2 MA) SgA 300 9 [] = some (.bool true) := by kernel_rfl
end Go.Proofs.YtnmgahhceliphaaGreatDoor.A
