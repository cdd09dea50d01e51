/- Ring: norms, as plain mathematics: they are real, not negative, and go with products. -/
import Derived.Test.YtihccnfaibiiiaaDoorH2
import Derived.Test.YtihccnfaibiiiaaDoorO1
import Derived.Test.YtihccnfaibiiiaaDoorT1
namespace Go.Proofs.YtihccnfaibiiiaaDoor.R
open Go Go.Proofs.XX.Vm Go.Proofs.XX.Rm Go.RowKit
set_option maxRecDepth 100000

theorem nrm_conj (u : N) : u.nrm.conj = u.nrm := by
  unfold N.nrm
  rw [turn_conj.mul, turn_conj.inv, N.mul_comm]
theorem nrm_mul (x y : N) : (x.mul y).nrm = x.nrm.mul y.nrm := by
  have e : y.mul (x.conj.mul y.conj) = x.conj.mul (y.mul y.conj) := by rw [← N.mul_assoc, N.mul_comm y x.conj, N.mul_assoc]
  unfold N.nrm
  rw [turn_conj.mul, N.mul_assoc, e, ← N.mul_assoc]
theorem nrm_nf {u : N} (h : 0 ≤ u.k) : u.nf.nrm.nf = u.nrm.nf := by
  unfold N.nrm
  rw [← N.nf_conj, N.nf_mul_left h (N.nf_k (x := u.conj) h).1, N.nf_mul_right (y := u.conj) h h]
theorem nrm_zero (u : N) : u.nrm.zero = u.zero := by
  cases hz : u.zero with
  | true => exact N.mul_zero hz
  | false =>
    cases hn : u.nrm.zero with
    | false => rfl
    | true =>
      have h1 : (u.nrm.mul u.nrm.alt).zero = true := N.mul_zero hn
      have h2 := N.bel_pos hz
      simp only [N.zero, Bool.and_eq_true, beq_iff_eq] at h1
      have h3 : u.bel = 0 := h1.1.1.1
      omega
theorem norS_of {x : N} (hx : okB x = true) (h : okB x.nrm.nf = true) : norS x = (x.nrm.nf, 0) := by
  unfold norS bif3
  rw [(rgB_of hx).1, (rgB_of hx).2]
  show fitS x.nrm.nf = _
  rw [fitS_of h]
theorem realS_of {u : N} (hk : okB u.nf = true) (hr : u.conj = u) : realB u.nf = true ∧ realS u.nf = (true, 0) := by
  have h1 : realB u.nf = true := (eqN_iff _ _).2 (by rw [← N.nf_conj, hr])
  refine ⟨h1, ?_⟩
  unfold realS
  rw [bif3_ok hk, h1]
theorem sgn2_two (n : Int) : sgn2 (2 * n) = 4 * sgn2 n := by
  unfold sgn2
  by_cases h : n < 0
  · rw [decide_eq_true h, decide_eq_true (show 2 * n < 0 by omega)]
    simp only [cond_true]; grind
  · rw [decide_eq_false h, decide_eq_false (show ¬ 2 * n < 0 by omega)]
    simp only [cond_false]; grind
theorem real_parts {u : N} (h : u.conj = u) : u.c = 0 ∧ u.d = -u.b := by
  have h1 : -u.c = u.c := congrArg N.c h
  have h2 : -u.b = u.d := congrArg N.d h
  omega
theorem negB_up {u : N} (h : u.conj = u) : negB u.up = negB u := by
  obtain ⟨h1, h2⟩ := real_parts h
  unfold negB
  show decide (sgn2 (u.b - u.d) + 2 * sgn2 (u.a + u.c) < 0) = _
  rw [show u.b - u.d = 2 * u.b by omega, show u.a + u.c = u.a by omega, sgn2_two]
  exact decide_eq_decide.2 (by omega)
theorem negB_ups {u : N} (h : u.conj = u) : ∀ n, negB (u.ups n) = negB u
  | 0 => rfl
  | n + 1 => by
    show negB (u.ups n).up = _
    rw [negB_up (by rw [turn_conj.ups, h]), negB_ups h n]
theorem negB_nf {u : N} (hk : 0 ≤ u.k) (h : u.conj = u) : negB u.nf = negB u := by
  conv => rhs; rw [← N.nf_ups_self hk]
  rw [negB_ups (by rw [← N.nf_conj, h])]
theorem negB_nrm (u : N) : negB u.nrm = false := by
  have e := N.bel_eq2 u
  have e2 := N.bel_eq u
  have a : u.nrm.a = u.a * u.a + u.b * u.b + u.c * u.c + u.d * u.d := by simp only [N.nrm, N.mul, N.conj]; grind
  have b : u.nrm.b = u.a * u.b + u.b * u.c + u.c * u.d - u.d * u.a := by simp only [N.nrm, N.mul, N.conj]; grind
  have p0 : 0 ≤ u.nrm.a := by
    have := sq_nonneg u.a; have := sq_nonneg u.b; have := sq_nonneg u.c; have := sq_nonneg u.d
    omega
  rw [← a, ← b] at e
  have h1 : 0 ≤ u.bel := by
    rw [e2]
    have := sq_nonneg (u.a * u.a - u.c * u.c + 2 * (u.b * u.d)); have := sq_nonneg (2 * (u.a * u.c) - u.b * u.b + u.d * u.d)
    omega
  unfold negB
  generalize u.nrm.a = p at e p0 ⊢
  generalize u.nrm.b = q at e ⊢
  have hq := sq_nonneg q
  show decide (sgn2 p + 2 * sgn2 q < 0) = false
  refine decide_eq_false ?_
  unfold sgn2
  rw [decide_eq_false (show ¬ p < 0 by omega), cond_false]
  cases decide (q < 0)
  · rw [cond_false]; omega
  · rw [cond_true]; omega
theorem lesS_of {u : N} (hk : 0 ≤ u.k) (ho : okB u.nf = true) (hr : u.conj = u) : lesS u.nf O = (negB u, 0) := by
  have e : (u.nf.sum (N.neg O)).nf = u.nf := by
    rw [show N.neg O = O from rfl, N.sum_comm, O_sum (N.nf_k hk).1, N.nf_nf]
  unfold lesS
  rw [bif3_ok ho, bif3_ok okB_O, (realS_of ho hr).1, show realB O = true from rfl, e, ho, negB_nf hk hr]
  rfl
theorem omega_norm (n : Int) : norS (xo n) = (⟨1, 0, 0, 0, 0⟩, 0) := by
  have h8 : 0 ≤ n % 8 ∧ n % 8 < 8 := by omega
  unfold xo
  rw [andE_eq]
  generalize n % 8 = m at h8
  have : m = 0 ∨ m = 1 ∨ m = 2 ∨ m = 3 ∨ m = 4 ∨ m = 5 ∨ m = 6 ∨ m = 7 := by omega
  rcases this with rfl | rfl | rfl | rfl | rfl | rfl | rfl | rfl <;> rfl
/-- What the law asks. -/
theorem normed {x y : N} (hx : x.Sz 60 8) (hy : y.Sz 60 8) :
    norS x = (x.nrm.nf, 0) ∧ norS y = (y.nrm.nf, 0) ∧ twoS x y (x.mul y) = ((x.mul y).nf, 0) ∧ norS (x.mul y).nf = ((x.mul y).nrm.nf, 0) ∧
    twoS x.nrm.nf y.nrm.nf (x.nrm.nf.mul y.nrm.nf) = ((x.mul y).nrm.nf, 0) ∧ realS x.nrm.nf = (true, 0) ∧ lesS x.nrm.nf O = (false, 0) ∧ leaS x = (x.nf, 0) ∧ eqN x.nrm.nf O = eqN x.nf O := by
  have ok : ∀ {u : N} {A K : Int}, u.Sz A K → A ≤ 1073741824 → K ≤ 60 → okB u = true := fun h a b => okB_Sz h a b
  have ox := ok hx (by omega) (by omega)
  have oy := ok hy (by omega) (by omega)
  have nx : x.nrm.Sz 14400 16 := (hx.mul (turn_conj.Sz hx)).mono (by omega) (by omega)
  have ny : y.nrm.Sz 14400 16 := (hy.mul (turn_conj.Sz hy)).mono (by omega) (by omega)
  have m : (x.mul y).Sz 14400 16 := (hx.mul hy).mono (by omega) (by omega)
  have nm : (x.mul y).nrm.Sz 829440000 32 := (m.mul (turn_conj.Sz m)).mono (by omega) (by omega)
  have onx := ok nx.nf (by omega) (by omega)
  have om := ok m.nf (by omega) (by omega)
  have onm := ok nm.nf (by omega) (by omega)
  have e : (x.nrm.nf.mul y.nrm.nf).nf = (x.mul y).nrm.nf := by
    rw [N.nf_mul_left nx.2.1 (N.nf_k ny.2.1).1, N.nf_mul_right nx.2.1 ny.2.1, nrm_mul]
  refine ⟨norS_of ox onx, norS_of oy (ok ny.nf (by omega) (by omega)), twoS_of ox oy om, ?_, ?_, (realS_of onx (nrm_conj x)).2, ?_, leaS_of ox, ?_⟩
  · rw [norS_of om (by rw [nrm_nf m.2.1]; exact onm), nrm_nf m.2.1]
  · rw [twoS_of onx (ok ny.nf (by omega) (by omega)) (by rw [e]; exact onm), e]
  · rw [lesS_of nx.2.1 onx (nrm_conj x), negB_nrm]
  · have z : ∀ u : N, eqN u.nf O = u.zero := fun u => by
      rw [Bool.eq_iff_iff, eqN_iff]
      exact ⟨fun h => by rw [← N.nf_zero, h]; rfl, fun h => N.nf_of_zero h⟩
    rw [z, z, nrm_zero]
/-- The contract of Omega. -/
def cOmD : Con := ⟨37, fun args => match args with
  | [.int .i64 n] => some (.val (N.v (xo n)))
  | _ => none⟩
theorem cOmD_ok (M : Int) : ConOk M cOmD := by
  intro args t v ht hv w inv
  simp only [cOmD] at ht
  split at ht
  · rename_i n
    cases ht
    cases hv
    exact (eO M n).calls (sg1 M) (orcOk_of nil_ok) rfl inv
  · cases ht
end Go.Proofs.YtihccnfaibiiiaaDoor.R
