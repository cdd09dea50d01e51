/- Affine: there are 1344 maps of three wires. -/
import Derived.Test.YtnmgahhceliphaaGreatDoorAa
namespace Go.Proofs.YtnmgahhceliphaaGreatDoor.A
open Go Go.Proofs.XX.Vm
set_option maxRecDepth 100000
theorem tCount3 : runC Tryz.prog O0 SgA 300 53 [I 3] = some (rv 1344 0) := by kernel_rfl
noncomputable def cCount3 : Con := conI 53 [3] (rv 1344 0)
theorem cCount3_ok : ConOk Tryz.prog SgA cCount3 := conI_ok sgA tCount3
end Go.Proofs.YtnmgahhceliphaaGreatDoor.A
