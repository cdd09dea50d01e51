/- Ring: numbers turned by eighths, and what Phase gives, as plain mathematics. -/
import Derived.Test.YtihccnfaibiiiaaGreatDoorH1
namespace Go.Proofs.YtihccnfaibiiiaaGreatDoor.R
open Go Go.Proofs.XX.Vm Go.Proofs.XX.Rm Go.RowKit
set_option maxRecDepth 100000

def resP (r : Int × Int) : Value := .tuple #[.int .i64 r.1, .int .i64 r.2]
/-- Turned by an eighth. -/
def trE (z : N) : N := ⟨-z.d, z.a, z.b, z.c, z.k⟩
def trEs : Nat → N → N
  | 0, z => z
  | m + 1, z => trE (trEs m z)
theorem okB_trE {z : N} (h : okB z = true) : okB (trE z) = true := by
  obtain ⟨k1, k2, a1, a2, b1, b2, c1, c2, d1, d2⟩ := (okB_iff z).1 h
  refine (okB_iff _).2 ⟨k1, k2, ?_⟩
  constructor <;> simp only [trE] <;> omega
theorem okB_trEs {z : N} (h : okB z = true) : ∀ m, okB (trEs m z) = true
  | 0 => h
  | m + 1 => okB_trE (okB_trEs h m)
def phF (x y : N) : Nat → Nat → Int × Int
  | 0, _ => (0, 6)
  | m + 1, j => bif eqN x.nf (trEs j y).nf then ((j : Int), 0) else phF x y m (j + 1)
def phaS (x y : N) : Int × Int := phF x y 8 0
def badP (n : Int) : OT := .val (resP (0, n))
def phaT (x y : N) : OT := okT x (okT y (.val (resP (phaS x y))) badP) badP
theorem trE_even (z : N) : (trE z).even = z.even := by
  rw [Bool.eq_iff_iff, N.even_iff, N.even_iff]; simp only [trE]; omega
theorem trE_goes (z : N) : (trE z).goes = z.goes := by
  unfold N.goes; rw [trE_even]; rfl
theorem trE_zero (z : N) : (trE z).zero = z.zero := by
  rw [Bool.eq_iff_iff]; simp only [N.zero, trE, Bool.and_eq_true, beq_iff_eq]; omega
theorem trE_dn {z : N} (h : z.even = true) : (trE z).dn = trE z.dn := by
  rw [N.even_iff] at h
  ext <;> simp only [trE, N.dn] <;> omega
theorem trE_nfL : ∀ (n : Nat) (z : N), (trE z).nfL n = trE (z.nfL n)
  | 0, z => rfl
  | n + 1, z => by
    simp only [N.nfL]
    rw [trE_goes]
    cases hg : z.goes with
    | false => rfl
    | true =>
      rw [cond_true, cond_true, trE_dn ((N.goes_iff z).1 hg).2]
      exact trE_nfL n z.dn
theorem trE_nf (z : N) : (trE z).nf = trE z.nf := by
  unfold N.nf
  rw [trE_zero]
  cases z.zero with
  | true => rfl
  | false => exact trE_nfL z.k.toNat z
theorem trEs_nf (z : N) : ∀ m, (trEs m z).nf = trEs m z.nf
  | 0 => rfl
  | m + 1 => by simp only [trEs]; rw [trE_nf, trEs_nf z m]
def phS (x y : N) : Int × Int := bif3 x (bif3 y (phaS x y) fun n => (0, n)) fun n => (0, n)
theorem phS_get (x y : N) : (phaT x y).get = some (resP (phS x y)) := by
  unfold phaT phS badP; simp only [okT_get, OT.get]; unfold bif3
  cases rgB x <;> cases inB x <;> cases rgB y <;> cases inB y <;> rfl
end Go.Proofs.YtihccnfaibiiiaaGreatDoor.R
