/- Ring: the sum of a list of numbers: the program's Sum, as a contract. -/
import Derived.Test.YtihccnfaibiiiaaGreatDoorM5
namespace Go.Proofs.YtihccnfaibiiiaaGreatDoor.R
open Go Go.Proofs.XX.Vm Go.Proofs.XX.Rm Go.RowKit
set_option maxRecDepth 100000

def sumL (l : List N) : N × Int := bif chkL l != 0 then (O, chkL l) else totL O l
theorem nthI_cut (L : List Int) (k t o : Nat) (h : o < t) : nthI ((L.drop k).take t) o = nthI L (k + o) := by
  rw [nthI_eq, nthI_eq, List.getElem?_take, if_pos h, List.getElem?_drop]
theorem nmL_cut (L : List Int) (k t : Nat) : ∀ m o, o + 5 * m ≤ t → nmL ((L.drop k).take t) o m = nmL L (k + o) m
  | 0, _, _ => rfl
  | m + 1, o, h => by
    rw [nmL, nmL, nmL_cut L k t m (o + 5) (by omega)]
    congr 1
    unfold nmI
    rw [nthI_cut _ _ _ _ (by omega), nthI_cut _ _ _ _ (by omega), nthI_cut _ _ _ _ (by omega), nthI_cut _ _ _ _ (by omega), nthI_cut _ _ _ _ (by omega)]
    rfl
def apL (lo off n : Nat) (L : List Int) : Bool := insideI lo L off (n * 5) && Nat.ble n 34359738368
def cutL (lo off n : Nat) (L : List Int) : List Int := (L.drop (off - lo)).take (n * 5)
theorem hMSu (M : Int) : ∀ c ∈ [cCA, cTO], MConOk M c := mem_cons_mok (cCA_ok M) (mem_cons_mok (cTO_ok M) nil_mok)
theorem tSu (M : Int) (m : Nat) (et : TypeId) (ro : Bool) (lo off n c : Nat) (L : List Int) :
    callInK Tryz.prog (evCodeK Tryz.prog (orcLM LSum [cCA, cTO]) (Sg1 M) (m + 80)) 4 28 [slV off n c] [uni, pow, mxl M, kB et ro lo L] (fun u U => some (u, U.take 4)) =
    bif tsL lo off n L then (bif chkL (nmL L (off - lo) n) != 0 then some (resV (O, chkL (nmL L (off - lo) n)), [uni, pow, mxl M, kB et ro lo L]) else (bif apL lo off n L then
      (bif Nat.beq n 0 then some (resV (O, 0), [uni, pow, mxl M, kB et ro lo L]) else (bif tsL 0 0 n (cutL lo off n L) then some (resV (totL O (nmL (cutL lo off n L) 0 n)), [uni, pow, mxl M, kB et ro lo L]) else none)) else none)) else none := by kernel_rfl
theorem atSu (M : Int) (et : TypeId) (ro : Bool) (lo off n c : Nat) (L : List Int) (h1 : insideI lo L off (n * 5) = true) (h2 : n ≤ 34359738368) :
    CallAt Tryz.prog (Sg1 M) 4 28 [slV off n c] [uni, pow, mxl M, kB et ro lo L] (resV (sumL (nmL L (off - lo) n))) [uni, pow, mxl M, kB et ro lo L] := by
  have e := tSu M 0 et ro lo off n c L
  have hi : lo ≤ off ∧ off + n * 5 ≤ lo + L.length := by simpa [insideI, Nat.ble_eq] using h1
  have hlen : (cutL lo off n L).length = n * 5 := by unfold cutL; simp; omega
  have hap : apL lo off n L = true := by
    unfold apL
    rw [h1, show Nat.ble n 34359738368 = true from by rw [Nat.ble_eq]; exact h2]
    rfl
  have h3 : tsL 0 0 n (cutL lo off n L) = true := tsL_true (by simp [insideI, hlen, Nat.ble_eq]) h2
  rw [tsL_true h1 h2, hap, h3] at e
  have e2 : callInK Tryz.prog (evCodeK Tryz.prog (orcLM LSum [cCA, cTO]) (Sg1 M) (0 + 80)) 4 28 [slV off n c] [uni, pow, mxl M, kB et ro lo L] (fun u U => some (u, U.take 4)) = some (resV (sumL (nmL L (off - lo) n)), [uni, pow, mxl M, kB et ro lo L]) := by
    refine e.trans ?_
    simp only [cond_true]
    unfold sumL
    cases hc : chkL (nmL L (off - lo) n) != 0 with
    | true => rfl
    | false =>
      simp only [cond_false]
      cases hn : Nat.beq n 0 with
      | true =>
        have : n = 0 := Nat.eq_of_beq_eq_true hn
        subst this
        rfl
      | false =>
        simp only [cond_false]
        rw [show nmL (cutL lo off n L) 0 n = nmL L (off - lo) n from nmL_cut L (off - lo) (n * 5) n 0 (by omega)]
  obtain ⟨N, hN⟩ := callInK_take (P := Tryz.prog) (S := [uni, pow, mxl M, kB et ro lo L]) (sg1 M) (orcLM_ok (LSum_ok M) (hMSu M)) e2 (show 3 ≤ 4 by decide) (show 3 ≤ 4 by decide)
  exact callAt_drop (S' := [uni, pow, mxl M, kB et ro lo L]) hN rfl rfl (plain_sh rfl _) (all_at rfl) (all_at rfl)
noncomputable def cSu : MCon := mconL 28 fun l => resV (sumL l)
theorem cSu_ok (M : Int) : MConOk M cSu := mconL_ok (fun _ => rfl) fun et ro lo off n c L h1 h2 => atSu M et ro lo off n c L h1 h2
end Go.Proofs.YtihccnfaibiiiaaGreatDoor.R
