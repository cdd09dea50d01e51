/- Affine: a shortest circuit of one gate. -/
import Derived.Test.YtnmgahhceliphaaGreatDoorAe
namespace Go.Proofs.YtnmgahhceliphaaGreatDoor.A
open Go Go.Proofs.XX.Vm
set_option maxRecDepth 100000

theorem M3_ok : ∀ c ∈ [cSum, cThen], MConOk Tryz.prog SgA c := cons_mok cSum_ok (cons_mok cThen_ok nil_mok)
noncomputable def cS2 : Closed := ⟨[.agg #[I 2, .slice (some ⟨2, 0, none⟩) 2 2, I 0]], [(3, [2, 1])], .tuple #[.agg #[I 2, I 0, .slice (some ⟨3, 0, none⟩) 1 unk], I 0],
  [⟨[I 11, .slice (some ⟨4, 0, none⟩) 2 unk, I 0, I 0], 69, false, some (.bufc 4)⟩, ⟨[], 3, false, some (.buf .i64 1 [0, 1])⟩]⟩
theorem rS2 : ClosedOk Tryz.prog (orcLM [cTake] [cSum, cThen]) SgA 48 cS2 := ⟨300, [516, 513], by kernel_rfl, ⟨by decide, by decide⟩, ⟨by rfl, by rfl⟩, ⟨by rfl, by rfl⟩⟩
end Go.Proofs.YtnmgahhceliphaaGreatDoor.A
