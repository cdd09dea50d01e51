/- Ring: the program's Real, and the sign of a real number. -/
import Derived.Test.YtihccnfaibiiiaaGreatDoorN0
import Derived.Test.YtihccnfaibiiiaaGreatDoorF1
namespace Go.Proofs.YtihccnfaibiiiaaGreatDoor.R
open Go Go.Proofs.XX.Vm Go.Proofs.XX.Rm Go.RowKit
set_option maxRecDepth 100000

theorem N.nf_ups_self {x : N} (h : 0 ≤ x.k) : x.nf.ups (x.k - x.nf.k).toNat = x := by
  cases hz : x.zero with
  | true =>
    rw [N.nf_of_zero hz, N.ups_zero (x := O) rfl]
    simp only [N.zero, Bool.and_eq_true, beq_iff_eq] at hz
    obtain ⟨⟨⟨z1, z2⟩, z3⟩, z4⟩ := hz
    ext
    · exact z1.symm
    · exact z2.symm
    · exact z3.symm
    · exact z4.symm
    · show (0 : Int) + ((x.k - 0).toNat : Nat) = x.k; omega
  | false =>
    have e : x.nf = x.nfL x.k.toNat := by unfold N.nf; rw [hz]; rfl
    rw [e]
    obtain ⟨m, h1, h2, h3⟩ := N.nfL_ups x x.k.toNat h
    rw [show (x.k - (x.nfL x.k.toNat).k).toNat = m by omega]
    exact h1
theorem N.nf_inj {x y : N} (h : 0 ≤ x.k) (hk : x.k = y.k) (e : x.nf = y.nf) : x = y := by
  rw [← N.nf_ups_self h, ← N.nf_ups_self (x := y) (by omega), e, hk]
theorem eqN_nf {x y : N} (h : 0 ≤ x.k) (hk : x.k = y.k) : eqN x.nf y.nf = eqN x y := by
  rw [Bool.eq_iff_iff, eqN_iff, eqN_iff]
  exact ⟨fun e => N.nf_inj h hk e, fun e => by rw [e]⟩
/-- Real. -/
def realB (x : N) : Bool := eqN x x.conj
def realW (x : N) : Bool := (x.a == x.a) && ((x.b == w (0 - x.d)) && ((x.c == w (0 - x.c)) && ((x.d == w (0 - x.b)) && true)))
theorem realW_eq {x : N} (h : okB x = true) : realW x = realB x := by
  have e : realW x = eqN x (conjW x) := by
    unfold realW eqN conjW
    cases (x.a == x.a) <;> cases (x.b == w (0 - x.d)) <;> cases (x.c == w (0 - x.c)) <;> cases (x.d == w (0 - x.b)) <;> simp
  rw [e, conjW_eq h]; rfl
def badB (n : Int) : OT := .val (resB (false, n))
def realT (x : N) : OT := okT x (.val (resB (realB x, 0))) badB
theorem tReal (M : Int) (m : Nat) (x : N) : runK Tryz.prog (orcL [cChk]) (Sg1 M) (m + 60) 34 [N.v x] =
    bif3 x (some (resB (realW x, 0))) fun n => some (resB (false, n)) := by kernel_rfl
theorem LK_ok (M : Int) : ∀ c ∈ [cChk], ConOk M c := mem_cons_ok (cChk_ok M) nil_ok
theorem cReal_ok (M : Int) : ConOk M (con1 34 realT) := con1_ok (LK_ok M) fun x v h => by
  refine EvF.of_eq 60 fun m => get_some h ?_
  rw [tReal]
  unfold realT badB
  rw [okT_get]
  exact bif3_ext (fun hx => by rw [realW_eq hx]; rfl) fun n => rfl
/-- The sign of a real number. -/
def sgn2 (n : Int) : Int := bif decide (n < 0) then -(n * n) else n * n
def negB (x : N) : Bool := decide (sgn2 x.a + 2 * sgn2 x.b < 0)
theorem tNgP (M : Int) (m : Nat) (x : N) : runK Tryz.prog (orcL []) (Sg1 M) (m + 60) 71 [N.v x] =
    bif decide (x.a < 0) then (bif decide (x.b < 0) then some (.bool (decide (w (w (w (0 - x.a) * x.a) + w (2 * w (w (0 - x.b) * x.b))) < 0))) else some (.bool (decide (w (w (w (0 - x.a) * x.a) + w (2 * w (x.b * x.b))) < 0))))
    else (bif decide (x.b < 0) then some (.bool (decide (w (w (x.a * x.a) + w (2 * w (w (0 - x.b) * x.b))) < 0))) else some (.bool (decide (w (w (x.a * x.a) + w (2 * w (x.b * x.b))) < 0)))) := by kernel_rfl
theorem sq_in {a : Int} (h1 : -1073741824 ≤ a) (h2 : a ≤ 1073741824) : 0 ≤ a * a ∧ a * a ≤ 1152921504606846976 := by
  have := bd_mul h1 h2 h1 h2
  exact ⟨sq_nonneg a, by omega⟩
theorem nsq {a : Int} (h1 : -1073741824 ≤ a) (h2 : a ≤ 1073741824) : w (w (0 - a) * a) = -(a * a) := by
  have := sq_in h1 h2
  rw [w_eq (0 - a) (by omega) (by omega), Int.zero_sub, Int.neg_mul]
  exact w_eq _ (by omega) (by omega)
theorem psq {a : Int} (h1 : -1073741824 ≤ a) (h2 : a ≤ 1073741824) : w (a * a) = a * a := by
  have := sq_in h1 h2
  exact w_eq _ (by omega) (by omega)
def cNgP : Con := con1 71 fun x => okV x (.bool (negB x))
theorem cNgP_ok (M : Int) : ConOk M cNgP := con1_ok nil_ok fun x v h => by
  obtain ⟨h0, rfl⟩ := okV_get h
  obtain ⟨-, -, a1, a2, b1, b2, -⟩ := (okB_iff x).1 h0
  have qa := sq_in a1 a2
  have qb := sq_in b1 b2
  refine EvF.of_eq 60 fun m => ?_
  rw [tNgP, nsq a1 a2, nsq b1 b2, psq a1 a2, psq b1 b2]
  have e1 : w (2 * -(x.b * x.b)) = 2 * -(x.b * x.b) := w_eq _ (by omega) (by omega)
  have e2 : w (2 * (x.b * x.b)) = 2 * (x.b * x.b) := w_eq _ (by omega) (by omega)
  rw [e1, e2, w_eq (-(x.a * x.a) + 2 * -(x.b * x.b)) (by omega) (by omega), w_eq (-(x.a * x.a) + 2 * (x.b * x.b)) (by omega) (by omega), w_eq (x.a * x.a + 2 * -(x.b * x.b)) (by omega) (by omega), w_eq (x.a * x.a + 2 * (x.b * x.b)) (by omega) (by omega)]
  unfold negB sgn2
  cases decide (x.a < 0) <;> cases decide (x.b < 0) <;> rfl
end Go.Proofs.YtihccnfaibiiiaaGreatDoor.R
