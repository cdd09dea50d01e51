/- Ring: turned by an eighth and put into the least form: in any order. -/
import Derived.Test.YtonjnnjnojmpjaaGreatDoorG4
namespace Go.Proofs.YtonjnnjnojmpjaaGreatDoor.R
open Go Go.Proofs.XX.Vm Go.Proofs.XX.Rm Go.RowKit
set_option maxRecDepth 100000

theorem trE_even (z : N) : (trE z).even = z.even := by
  rw [Bool.eq_iff_iff, N.even_iff, N.even_iff]; simp only [trE]; omega
theorem trE_goes (z : N) : (trE z).goes = z.goes := by
  unfold N.goes; rw [trE_even]; rfl
theorem trE_zero (z : N) : (trE z).zero = z.zero := by
  rw [Bool.eq_iff_iff]; simp only [N.zero, trE, Bool.and_eq_true, beq_iff_eq]; omega
theorem trE_dn {z : N} (h : z.even = true) : (trE z).dn = trE z.dn := by
  rw [N.even_iff] at h
  ext <;> simp only [trE, N.dn] <;> omega
theorem trE_nfL : ∀ (n : Nat) (z : N), (trE z).nfL n = trE (z.nfL n)
  | 0, z => rfl
  | n + 1, z => by
    simp only [N.nfL]
    rw [trE_goes]
    cases hg : z.goes with
    | false => rfl
    | true =>
      rw [cond_true, cond_true, trE_dn ((N.goes_iff z).1 hg).2]
      exact trE_nfL n z.dn
theorem trE_nf (z : N) : (trE z).nf = trE z.nf := by
  unfold N.nf
  rw [trE_zero]
  cases z.zero with
  | true => rfl
  | false => exact trE_nfL z.k.toNat z
theorem trEs_nf (z : N) : ∀ m, (trEs m z).nf = trEs m z.nf
  | 0 => rfl
  | m + 1 => by simp only [trEs]; rw [trE_nf, trEs_nf z m]
end Go.Proofs.YtonjnnjnojmpjaaGreatDoor.R
