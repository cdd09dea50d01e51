/- Ring: whether all numbers of a list are right, and their sum: the program's functions, as contracts. -/
import Derived.Test.YtihccnfaibiiiaaGreatDoorM4
namespace Go.Proofs.YtihccnfaibiiiaaGreatDoor.R
open Go Go.Proofs.XX.Vm Go.Proofs.XX.Rm Go.RowKit
set_option maxRecDepth 100000

/-- The test of a contract of lists. -/
def tsL (lo off n : Nat) (L : List Int) : Bool := Nat.ble 3 3 && (insideI lo L off (n * 5) && Nat.ble n 34359738368)
theorem tsL_true {lo off n : Nat} {L : List Int} (h1 : insideI lo L off (n * 5) = true) (h2 : n ≤ 34359738368) : tsL lo off n L = true := by
  unfold tsL
  rw [h1, show Nat.ble n 34359738368 = true from by rw [Nat.ble_eq]; exact h2]
  rfl
theorem tCA {α : Type} (M : Int) (m : Nat) (et : TypeId) (ro : Bool) (lo off n c : Nat) (L : List Int) (k : Value → List Blk → Option α) :
    callInK Tryz.prog (evCodeK Tryz.prog (orcLM LSum [cFE]) (Sg1 M) (m + 80)) 4 64 [slV off n c] [uni, pow, mxl M, kB et ro lo L] k =
    bif tsL lo off n L then k (.int .i64 (chkL (nmL L (off - lo) n))) [uni, pow, mxl M, kB et ro lo L] else none := by kernel_rfl
theorem hMFE (M : Int) : ∀ c ∈ [cFE], MConOk M c := mem_cons_mok (cFE_ok M) nil_mok
noncomputable def cCA : MCon := mconL 64 fun l => .int .i64 (chkL l)
theorem cCA_ok (M : Int) : MConOk M cCA := mconL_ok (fun _ => rfl) fun et ro lo off n c L h1 h2 =>
  EvM.callAt (sg1 M) (orcLM_ok (LSum_ok M) (hMFE M)) (EvM.of_eq 80 (fun m k => (tCA M m et ro lo off n c L k).trans (condT (tsL_true h1 h2))) ⟨rfl, rfl⟩) (show 3 ≤ 4 by decide) (show 3 ≤ 4 by decide)
end Go.Proofs.YtihccnfaibiiiaaGreatDoor.R
