/- Ring: what RingPhased asks, as plain mathematics: numbers turned by eighths are apart, and have the same norm. -/
import Derived.Test.YtihccnfaibiiiaaDoorJ1
import Derived.Test.YtihccnfaibiiiaaDoorT5
namespace Go.Proofs.YtihccnfaibiiiaaDoor.R
open Go Go.Proofs.XX.Vm Go.Proofs.XX.Rm Go.RowKit
set_option maxRecDepth 100000

def inN (n : Int) : Int := (w (n.tmod 8 + 8)).tmod 8
theorem inN_eq (n : Int) : inN n = n % 8 := by
  have h8 : 0 ≤ n % 8 ∧ n % 8 < 8 := by omega
  unfold inN
  have t1 := Int.tmod_lt_of_pos n (b := 8) (by omega)
  have t2 := Int.lt_tmod_of_pos n (b := 8) (by omega)
  have t3 := Int.tmod_add_mul_tdiv n 8
  rw [w_eq _ (by omega) (by omega), Int.tmod_eq_emod_of_nonneg (by omega)]
  omega
theorem trEs_add (z : N) (i : Nat) : ∀ d, trEs (d + i) z = trEs d (trEs i z)
  | 0 => by rw [Nat.zero_add]; rfl
  | d + 1 => by
    rw [show d + 1 + i = (d + i) + 1 by omega]
    simp only [trEs]; rw [trEs_add z i d]
theorem trEs_zero (z : N) : ∀ i, (trEs i z).zero = z.zero
  | 0 => rfl
  | i + 1 => by simp only [trEs]; rw [trE_zero, trEs_zero z i]
theorem trEs_kk (z : N) : ∀ i, (trEs i z).k = z.k
  | 0 => rfl
  | i + 1 => trEs_kk z i
theorem trE_nrm (z : N) : (trE z).nrm = z.nrm := by
  ext <;> simp only [N.nrm, N.mul, N.conj, trE] <;> grind
theorem trEs_nrm (z : N) : ∀ i, (trEs i z).nrm = z.nrm
  | 0 => rfl
  | i + 1 => by simp only [trEs]; rw [trE_nrm, trEs_nrm z i]
theorem mul_trE (x y : N) : x.mul (trE y) = trE (x.mul y) := by
  ext <;> simp only [N.mul, trE] <;> grind
theorem mul_trEs (x y : N) : ∀ i, x.mul (trEs i y) = trEs i (x.mul y)
  | 0 => rfl
  | i + 1 => by simp only [trEs]; rw [mul_trE, mul_trEs x y i]
theorem mul_one (x : N) : x.mul ⟨1, 0, 0, 0, 0⟩ = x := by
  ext <;> simp only [N.mul] <;> omega
theorem xo_tr (n : Int) : xo n = trEs (n % 8).toNat ⟨1, 0, 0, 0, 0⟩ := by
  have h8 : 0 ≤ n % 8 ∧ n % 8 < 8 := by omega
  unfold xo
  rw [andE_eq]
  generalize n % 8 = m at h8
  have : m = 0 ∨ m = 1 ∨ m = 2 ∨ m = 3 ∨ m = 4 ∨ m = 5 ∨ m = 6 ∨ m = 7 := by omega
  rcases this with rfl | rfl | rfl | rfl | rfl | rfl | rfl | rfl <;> rfl
theorem mul_xo (x : N) (n : Int) : x.mul (xo n) = trEs (n % 8).toNat x := by
  rw [xo_tr, mul_trEs, mul_one]
theorem okB_xo (n : Int) : okB (xo n) = true := by
  rw [xo_tr]; exact okB_trEs (by decide) _
theorem trEs_self {u : N} : ∀ d, 0 < d → d < 8 → trEs d u = u → u.zero = true := by
  intro d h1 h2 e
  have ha := congrArg N.a e
  have hb := congrArg N.b e
  have hc := congrArg N.c e
  have hd := congrArg N.d e
  have : d = 1 ∨ d = 2 ∨ d = 3 ∨ d = 4 ∨ d = 5 ∨ d = 6 ∨ d = 7 := by omega
  simp only [N.zero, Bool.and_eq_true, beq_iff_eq]
  rcases this with rfl | rfl | rfl | rfl | rfl | rfl | rfl <;> simp only [trEs, trE] at ha hb hc hd <;> omega
theorem trEs_inj {x : N} (hz : x.zero = false) {i j : Nat} (hi : i < 8) (hj : j < 8) (e : trEs i x = trEs j x) : i = j := by
  have key : ∀ {i j : Nat}, j < 8 → i < j → trEs i x = trEs j x → False := by
    intro i j hj hl e
    have h1 : trEs (j - i) (trEs i x) = trEs i x := by
      rw [← trEs_add, show j - i + i = j by omega, e]
    have h2 := trEs_self (j - i) (by omega) (by omega) h1
    rw [trEs_zero, hz] at h2
    cases h2
  rcases Nat.lt_trichotomy i j with h | h | h
  · exact (key hj h e).elim
  · exact h
  · exact (key hi h e.symm).elim
theorem phF_spec (x y : N) : ∀ m j, (phF x y m j = (0, 6) ∧ ∀ i, j ≤ i → i < j + m → x.nf ≠ (trEs i y).nf) ∨
    ∃ i : Nat, phF x y m j = ((i : Int), 0) ∧ j ≤ i ∧ i < j + m ∧ x.nf = (trEs i y).nf
  | 0, j => .inl ⟨rfl, fun i h1 h2 => by omega⟩
  | m + 1, j => by
    rw [phF]
    cases he : eqN x.nf (trEs j y).nf with
    | true => exact .inr ⟨j, rfl, Nat.le_refl _, by omega, (eqN_iff _ _).1 he⟩
    | false =>
      have hn : x.nf ≠ (trEs j y).nf := fun e => by rw [(eqN_iff _ _).2 e] at he; cases he
      rcases phF_spec x y m (j + 1) with ⟨h1, h2⟩ | ⟨i, h1, h2, h3, h4⟩
      · refine .inl ⟨h1, fun i h3 h4 => ?_⟩
        by_cases e : i = j
        · rw [e]; exact hn
        · exact h2 i (by omega) (by omega)
      · exact .inr ⟨i, h1, by omega, by omega, h4⟩
theorem phF_zero {x y : N} (h : x.nf = y.nf) (m : Nat) : phF x y (m + 1) 0 = (0, 0) := by
  rw [phF]
  rw [show eqN x.nf (trEs 0 y).nf = true from (eqN_iff _ _).2 h]
  rfl
theorem phS_of {x y : N} (hx : okB x = true) (hy : okB y = true) : phS x y = phF x y 8 0 := by
  unfold phS
  rw [bif3_ok hx, bif3_ok hy]; rfl
theorem eqN_O (u : N) : eqN u.nf O = u.zero := by
  rw [Bool.eq_iff_iff, eqN_iff]
  exact ⟨fun h => by rw [← N.nf_zero, h]; rfl, fun h => N.nf_of_zero h⟩
theorem samS_of {x y : N} (hx : okB x = true) (hy : okB y = true) : samS x y = (eqN x.nf y.nf, 0) := by
  unfold samS
  rw [bif3_ok hx, bif3_ok hy]
/-- What the law asks. -/
theorem phased {x y z : N} (n : Int) (hx : x.Sz 60 8) (hy : y.Sz 2 2) (hz : z.Sz 2 2) :
    twoS x (xo n) (x.mul (xo n)) = ((trEs (n % 8).toNat x).nf, 0) ∧ samS x O = (x.zero, 0) ∧
    (phS (trEs (n % 8).toNat x).nf x = (inN n, 0) ∨ (x.zero = true ∧ phS (trEs (n % 8).toNat x).nf x = (0, 0))) ∧
    norS y = (y.nrm.nf, 0) ∧ norS z = (z.nrm.nf, 0) ∧
    (phS y z = (0, 6) ∨ ∃ q : Int, phS y z = (q, 0) ∧ 0 ≤ q ∧ q < 8 ∧ twoS z (xo q) (z.mul (xo q)) = (y.nf, 0) ∧ samS y.nf y = (true, 0) ∧ y.nrm.nf = z.nrm.nf) := by
  have ok : ∀ {u : N} {A K : Int}, u.Sz A K → A ≤ 1073741824 → K ≤ 60 → okB u = true := fun h a b => okB_Sz h a b
  have ox := ok hx (by omega) (by omega)
  have oy := ok hy (by omega) (by omega)
  have oz := ok hz (by omega) (by omega)
  have ny : y.nrm.Sz 16 4 := (hy.mul (turn_conj.Sz hy)).mono (by omega) (by omega)
  have nz : z.nrm.Sz 16 4 := (hz.mul (turn_conj.Sz hz)).mono (by omega) (by omega)
  have hj : (n % 8).toNat < 8 := by omega
  have ot : okB (trEs (n % 8).toNat x).nf = true := okB_nf (okB_trEs ox _)
  refine ⟨?_, ?_, ?_, norS_of oy (ok ny.nf (by omega) (by omega)), norS_of oz (ok nz.nf (by omega) (by omega)), ?_⟩
  · rw [twoS_of ox (okB_xo n) (by rw [mul_xo]; exact ot), mul_xo]
  · rw [samS_of ox okB_O, show O.nf = O from rfl, eqN_O]
  · rw [phS_of ot ox]
    cases hzr : x.zero with
    | true =>
      refine .inr ⟨rfl, phF_zero ?_ 7⟩
      rw [N.nf_nf, N.nf_of_zero (by rw [trEs_zero]; exact hzr), N.nf_of_zero hzr]
    | false =>
      refine .inl ?_
      rcases phF_spec (trEs (n % 8).toNat x).nf x 8 0 with ⟨_, h⟩ | ⟨i, h1, _, h3, h4⟩
      · exact absurd (N.nf_nf _) (h (n % 8).toNat (by omega) (by omega))
      · rw [h1, inN_eq]
        rw [N.nf_nf] at h4
        have e := N.nf_inj (x := trEs (n % 8).toNat x) (y := trEs i x) (by rw [trEs_kk]; exact hx.2.1) (by rw [trEs_kk, trEs_kk]) h4
        have := trEs_inj hzr hj (by omega) e
        rw [← this]
        have : (((n % 8).toNat : Nat) : Int) = n % 8 := by omega
        rw [this]
  · rw [phS_of oy oz]
    rcases phF_spec y z 8 0 with ⟨h, _⟩ | ⟨i, h1, _, h3, h4⟩
    · exact .inl h
    · refine .inr ⟨i, h1, by omega, by omega, ?_, ?_, ?_⟩
      · have hi : ((i : Int) % 8).toNat = i := by omega
        rw [twoS_of oz (okB_xo _) (by rw [mul_xo]; exact okB_nf (okB_trEs oz _)), mul_xo, hi, ← h4]
      · rw [samS_of (okB_nf oy) oy, N.nf_nf, eqN_self]
      · rw [← nrm_nf hy.2.1, h4, nrm_nf (by rw [trEs_kk]; exact hz.2.1), trEs_nrm]
end Go.Proofs.YtihccnfaibiiiaaDoor.R
