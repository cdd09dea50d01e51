/- Affine: a shortest circuit of two gates. -/
import Derived.Test.YtnmgahhceliphaaGreatDoorAe
namespace Go.Proofs.YtnmgahhceliphaaGreatDoor.A
open Go Go.Proofs.XX.Vm
set_option maxRecDepth 100000

theorem M2_ok : ∀ c ∈ [cSum, cThen], MConOk Tryz.prog SgA c := cons_mok cSum_ok (cons_mok cThen_ok nil_mok)
/-- A call of a map of two wires. -/
def af2 (s : Int) : List Value := [.agg #[I 2, .slice (some ⟨2, 0, none⟩) 2 2, I s]]
noncomputable def cS1 : Closed := ⟨af2 2, [(3, [1, 3])], .tuple #[.agg #[I 2, I 0, .slice (some ⟨3, 0, none⟩) 2 unk], I 0],
  [⟨[I 1, .slice (some ⟨4, 0, none⟩) 1 unk, I 0, I 0, I 9, .slice (some ⟨5, 0, none⟩) 2 unk, I 0, I 0], 69, false, some (.bufc 4)⟩, ⟨[], 3, false, some (.buf .i64 1 [1])⟩, ⟨[], 3, false, some (.buf .i64 1 [0, 1])⟩]⟩
theorem rS1 : ClosedOk Tryz.prog (orcLM [cTake] [cSum, cThen]) SgA 48 cS1 := ⟨300, [522, 519, 513], by kernel_rfl, ⟨by decide, by decide⟩, ⟨by rfl, by rfl⟩, ⟨by rfl, by rfl⟩⟩
end Go.Proofs.YtnmgahhceliphaaGreatDoor.A
