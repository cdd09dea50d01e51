/- Ring: the specification's Phase (made by mkph.py, split2.py). -/
import Derived.Test.YtihccnfaibiiiaaGreatDoorG3
import Derived.Test.YtihccnfaibiiiaaGreatDoorJ1
namespace Go.Proofs.YtihccnfaibiiiaaGreatDoor.R
open Go Go.Proofs.XX.Vm Go.Proofs.XX.Rm Go.RowKit
set_option maxRecDepth 100000

theorem pushP {c : Bool} {a b : Int × Int} : (bif c then some (resP a) else some (resP b)) = some (resP (bif c then a else b)) := by cases c <;> rfl
noncomputable abbrev LP : List Con := [cChkR, cOmR, con2 46 fun x y => .ite (okB2 x y) (.val (N.v (x.mul y))) .no, cEqu]
theorem LP_ok (M : Int) : ∀ c ∈ LP, ConOk M c := mem_cons_ok (cChkR_ok M) (mem_cons_ok (cOmR_ok M) (mem_cons_ok (cPrd_ok M) (mem_cons_ok (cEqu_ok M) nil_ok)))
theorem tPhaR (M : Int) (m : Nat) (x y : N) : runK Tryz.prog (orcL LP) (Sg1 M) (m + 80) 33 [N.v x, N.v y] =
    bif3 x (bif3 y (bif okB2 y (trns (omN 0).toNat om1) then (bif okB2 x (y.mul (trns (omN 0).toNat om1)) then (bif eqN x.nf (y.mul (trns (omN 0).toNat om1)).nf then some (resP (0, 0)) else (bif okB2 y (trns (omN 1).toNat om1) then (bif okB2 x (y.mul (trns (omN 1).toNat om1)) then (bif eqN x.nf (y.mul (trns (omN 1).toNat om1)).nf then some (resP (1, 0)) else (bif okB2 y (trns (omN 2).toNat om1) then (bif okB2 x (y.mul (trns (omN 2).toNat om1)) then (bif eqN x.nf (y.mul (trns (omN 2).toNat om1)).nf then some (resP (2, 0)) else (bif okB2 y (trns (omN 3).toNat om1) then (bif okB2 x (y.mul (trns (omN 3).toNat om1)) then (bif eqN x.nf (y.mul (trns (omN 3).toNat om1)).nf then some (resP (3, 0)) else (bif okB2 y (trns (omN 4).toNat om1) then (bif okB2 x (y.mul (trns (omN 4).toNat om1)) then (bif eqN x.nf (y.mul (trns (omN 4).toNat om1)).nf then some (resP (4, 0)) else (bif okB2 y (trns (omN 5).toNat om1) then (bif okB2 x (y.mul (trns (omN 5).toNat om1)) then (bif eqN x.nf (y.mul (trns (omN 5).toNat om1)).nf then some (resP (5, 0)) else (bif okB2 y (trns (omN 6).toNat om1) then (bif okB2 x (y.mul (trns (omN 6).toNat om1)) then (bif eqN x.nf (y.mul (trns (omN 6).toNat om1)).nf then some (resP (6, 0)) else (bif okB2 y (trns (omN 7).toNat om1) then (bif okB2 x (y.mul (trns (omN 7).toNat om1)) then (bif eqN x.nf (y.mul (trns (omN 7).toNat om1)).nf then some (resP (7, 0)) else some (resP (0, 6))) else none) else none)) else none) else none)) else none) else none)) else none) else none)) else none) else none)) else none) else none)) else none) else none)) else none) else none) fun n => some (resP (0, n))) fun n => some (resP (0, n)) := by kernel_rfl
theorem om_0 : trns (omN 0).toNat om1 = ⟨1, 0, 0, 0, 0⟩ := by kernel_rfl
theorem mul_om0 (y : N) : y.mul (trns (omN 0).toNat om1) = trEs 0 y := by
  rw [om_0]; ext <;> simp only [N.mul, trEs] <;> omega
theorem ok_om0 {y : N} (h : okB y = true) : okB2 y (trns (omN 0).toNat om1) = true := okB2_mk h (by rw [om_0]; decide)
theorem om_1 : trns (omN 1).toNat om1 = ⟨0, 1, 0, 0, 0⟩ := by kernel_rfl
theorem mul_om1 (y : N) : y.mul (trns (omN 1).toNat om1) = trEs 1 y := by
  rw [om_1]; ext <;> simp only [N.mul, trEs, trE] <;> omega
theorem ok_om1 {y : N} (h : okB y = true) : okB2 y (trns (omN 1).toNat om1) = true := okB2_mk h (by rw [om_1]; decide)
theorem om_2 : trns (omN 2).toNat om1 = ⟨0, 0, 1, 0, 0⟩ := by kernel_rfl
theorem mul_om2 (y : N) : y.mul (trns (omN 2).toNat om1) = trEs 2 y := by
  rw [om_2]; ext <;> simp only [N.mul, trEs, trE] <;> omega
theorem ok_om2 {y : N} (h : okB y = true) : okB2 y (trns (omN 2).toNat om1) = true := okB2_mk h (by rw [om_2]; decide)
theorem om_3 : trns (omN 3).toNat om1 = ⟨0, 0, 0, 1, 0⟩ := by kernel_rfl
theorem mul_om3 (y : N) : y.mul (trns (omN 3).toNat om1) = trEs 3 y := by
  rw [om_3]; ext <;> simp only [N.mul, trEs, trE] <;> omega
theorem ok_om3 {y : N} (h : okB y = true) : okB2 y (trns (omN 3).toNat om1) = true := okB2_mk h (by rw [om_3]; decide)
theorem om_4 : trns (omN 4).toNat om1 = ⟨-1, 0, 0, 0, 0⟩ := by kernel_rfl
theorem mul_om4 (y : N) : y.mul (trns (omN 4).toNat om1) = trEs 4 y := by
  rw [om_4]; ext <;> simp only [N.mul, trEs, trE] <;> omega
theorem ok_om4 {y : N} (h : okB y = true) : okB2 y (trns (omN 4).toNat om1) = true := okB2_mk h (by rw [om_4]; decide)
theorem om_5 : trns (omN 5).toNat om1 = ⟨0, -1, 0, 0, 0⟩ := by kernel_rfl
theorem mul_om5 (y : N) : y.mul (trns (omN 5).toNat om1) = trEs 5 y := by
  rw [om_5]; ext <;> simp only [N.mul, trEs, trE] <;> omega
theorem ok_om5 {y : N} (h : okB y = true) : okB2 y (trns (omN 5).toNat om1) = true := okB2_mk h (by rw [om_5]; decide)
theorem om_6 : trns (omN 6).toNat om1 = ⟨0, 0, -1, 0, 0⟩ := by kernel_rfl
theorem mul_om6 (y : N) : y.mul (trns (omN 6).toNat om1) = trEs 6 y := by
  rw [om_6]; ext <;> simp only [N.mul, trEs, trE] <;> omega
theorem ok_om6 {y : N} (h : okB y = true) : okB2 y (trns (omN 6).toNat om1) = true := okB2_mk h (by rw [om_6]; decide)
theorem om_7 : trns (omN 7).toNat om1 = ⟨0, 0, 0, -1, 0⟩ := by kernel_rfl
theorem mul_om7 (y : N) : y.mul (trns (omN 7).toNat om1) = trEs 7 y := by
  rw [om_7]; ext <;> simp only [N.mul, trEs, trE] <;> omega
theorem ok_om7 {y : N} (h : okB y = true) : okB2 y (trns (omN 7).toNat om1) = true := okB2_mk h (by rw [om_7]; decide)
theorem cPhaR_ok (M : Int) : ConOk M (con2 33 phaT) := con2_ok (LP_ok M) fun x y v h => by
  refine EvF.of_eq 80 fun m => get_some h ?_
  rw [tPhaR]
  unfold phaT badP
  rw [okT_get]
  refine bif3_ext (fun hx => ?_) fun n => rfl
  rw [okT_get]
  refine bif3_ext (fun hy => ?_) fun n => rfl
  rw [ok_om0 hy, ok_om1 hy, ok_om2 hy, ok_om3 hy, ok_om4 hy, ok_om5 hy, ok_om6 hy, ok_om7 hy, mul_om0, mul_om1, mul_om2, mul_om3, mul_om4, mul_om5, mul_om6, mul_om7, okB2_mk hx (okB_trEs hy 0), okB2_mk hx (okB_trEs hy 1), okB2_mk hx (okB_trEs hy 2), okB2_mk hx (okB_trEs hy 3), okB2_mk hx (okB_trEs hy 4), okB2_mk hx (okB_trEs hy 5), okB2_mk hx (okB_trEs hy 6), okB2_mk hx (okB_trEs hy 7)]
  simp only [OT.get, cond_true, pushP]
  rfl
end Go.Proofs.YtihccnfaibiiiaaGreatDoor.R
