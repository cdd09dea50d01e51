/- Affine: the sum of two rows, for all integers: a contract of a call that reads a list. -/
import Derived.Test.YtnmgahhceliphaaGreatDoorAc
namespace Go.Proofs.YtnmgahhceliphaaGreatDoor.A
open Go Go.Proofs.XX.Vm
set_option maxRecDepth 100000

theorem eqInts_refl : ∀ L : List Int, eqInts (L.map (Value.int .i64)) L = true
  | [] => rfl
  | a :: L => by simp [eqInts, eqInts_refl L]
theorem isInts_refl {t : TypeId} {S : List Blk} {b : Nat} {L : List Int} (h : S[b]? = some (intB t L)) : isInts t S b L = true := by
  unfold isInts
  rw [getR_eq, h]
  simp [intB, eqInts_refl]
/-- The contract of a call with one list of integers, whatever they are. -/
noncomputable def listM (t : TypeId) (g : Nat) (f : FuncId) (res : List Int → Option Value) : MCon := ⟨f, fun fl args S => match args with
  | [.slice (some ⟨b, 0, none⟩) n c] => match getR S b with
    | some ⟨cs, e, false, none⟩ => match intsOf .i64 cs with
      | some L => match Nat.beq e t && (Nat.beq n (lenR L) && (Nat.beq c (lenR L) && (Nat.ble fl b && Nat.ble g b))) with
        | true => match res L with
          | some v => some (.val v S)
          | none => none
        | false => none
      | none => none
    | _ => none
  | _ => none⟩
theorem listM_ok {P : Program} {Sg : List Blk} (hsg : SgOk Sg) {t : TypeId} {f : FuncId} {res : List Int → Option Value} (h : ∀ L v, res L = some v → resOk P (orcLM [] []) Sg t f [.l L] (.v v)) : MConOk P Sg (listM t Sg.length f res) := by
  intro fl args S q v S' hq hv _ hS
  simp only [listM] at hq
  split at hq
  · rename_i b n c
    split at hq
    · rename_i cs e hb
      split at hq
      · rename_i L hL
        split at hq
        · rename_i hc
          split at hq
          · rename_i u hu
            cases hq
            simp only [Bool.and_eq_true, Nat.beq_eq, Nat.ble_eq, lenR_eq] at hc
            obtain ⟨rfl, rfl, rfl, h1, h2⟩ := hc
            rw [getR_eq, intsOf_map hL] at hb
            have hi := isInts_refl hb
            refine case_ok hsg (orcLM_ok nil_cok nil_mok) (h _ _ hu) (q := .val u S) (t := e) ?_ hv hS
            unfold caseD
            simp only [matchA, hi, Nat.beq_refl, Bool.true_and, Nat.ble_eq_true_of_le h1, Nat.ble_eq_true_of_le h2, allR_eq, List.all_nil]
          · cases hq
        · cases hq
      · cases hq
    · cases hq
  · cases hq
noncomputable def resSum : List Int → Option Value
  | [a, b] => some (.int .i64 (sum2 a b))
  | _ => none
theorem rSum (a b : Int) : resOk Tryz.prog O0 SgA 3 105 [.l [a, b]] (.v (.int .i64 (sum2 a b))) := ⟨rfl, 200, by kernel_rfl⟩
noncomputable def cSum : MCon := listM 3 SgA.length 105 resSum
theorem cSum_ok : MConOk Tryz.prog SgA cSum := listM_ok sgA fun L v h => by
  unfold resSum at h
  split at h
  · cases h; exact rSum _ _
  · cases h
end Go.Proofs.YtnmgahhceliphaaGreatDoor.A
