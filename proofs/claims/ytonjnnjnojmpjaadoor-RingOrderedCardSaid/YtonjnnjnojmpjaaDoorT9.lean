/- Ring: the order of real least numbers, as RingOrdered asks for it. -/
import Derived.Test.YtonjnnjnojmpjaaDoorT8
namespace Go.Proofs.YtonjnnjnojmpjaaDoor.R
open Go Go.Proofs.XX.Vm Go.Proofs.XX.Rm Go.RowKit
set_option maxRecDepth 100000

theorem neg_ups (x : N) : ∀ n, x.neg.ups n = (x.ups n).neg
  | 0 => rfl
  | n + 1 => by simp only [N.ups, neg_ups x n, N.up_neg]
theorem neg_lift (x : N) (K : Int) : x.neg.lift K = (x.lift K).neg := neg_ups x _
theorem neg_add (x y : N) : (x.add y).neg = x.neg.add y.neg := by
  ext <;> simp only [N.add, N.neg] <;> omega
theorem neg_sum (x y : N) : (x.sum y).neg = x.neg.sum y.neg := by
  unfold N.sum
  rw [neg_add, ← neg_lift, ← neg_lift]
  rfl
theorem real_sum {x y : N} (hx : x.conj = x) (hy : y.conj = y) : (x.sum y).conj = x.sum y := by rw [turn_conj.sum, hx, hy]
theorem real_neg {x : N} (hx : x.conj = x) : x.neg.conj = x.neg := by rw [turn_conj.neg, hx]
/-- What is not less than 0, and its negative neither, is 0. -/
theorem zero_of {u : N} (hr : u.conj = u) (h1 : negB u = false) (h2 : negB u.neg = false) : u.zero = true := by
  obtain ⟨c0, d0⟩ := real_parts hr
  have e1 : ¬ sgn2 u.a + 2 * sgn2 u.b < 0 := of_decide_eq_false h1
  have e2 : ¬ sgn2 (-u.a) + 2 * sgn2 (-u.b) < 0 := of_decide_eq_false h2
  rw [sgn2_neg, sgn2_neg] at e2
  have aa := sq_nonneg u.a; have bb := sq_nonneg u.b
  have e3 : u.a * u.a = 2 * (u.b * u.b) := by
    by_cases ha : u.a < 0 <;> by_cases hb : u.b < 0
    · rw [sgn2_lt ha, sgn2_lt hb] at e1 e2; omega
    · rw [sgn2_lt ha, sgn2_ge (n := u.b) (by omega)] at e1 e2; omega
    · rw [sgn2_ge (n := u.a) (by omega), sgn2_lt hb] at e1 e2; omega
    · rw [sgn2_ge (n := u.a) (by omega), sgn2_ge (n := u.b) (by omega)] at e1 e2; omega
  have a0 := sq_two _ _ _ (Nat.le_refl _) e3
  have b0 : u.b = 0 := sq_zero (by rw [a0] at e3; omega)
  simp only [N.zero, Bool.and_eq_true, beq_iff_eq]
  omega
/-- A real number in its least form, of some size. -/
structure Rl (u : N) : Prop where
  real : u.conj = u
  least : u.nf = u
  sz : u.Sz 819200 12
theorem realB_of {u : N} (h : u.conj = u) : realB u = true := (eqN_iff _ _).2 h.symm
theorem Rl.ok {u : N} (h : Rl u) : okB u = true := okB_Sz h.sz (by omega) (by omega)
theorem lesS_sub {x y : N} (hx : x.conj = x) (hy : y.conj = y) (ox : okB x = true) (oy : okB y = true) (h : okB (x.sum y.neg).nf = true) (hk : 0 ≤ (x.sum y.neg).k) : lesS x y = (negB (x.sum y.neg), 0) := by
  unfold lesS
  rw [bif3_ok ox, bif3_ok oy, realB_of hx, realB_of hy, h, negB_nf hk (real_sum hx (real_neg hy))]
  rfl
/-- The differences of three. -/
theorem sum_zero_left {x y : N} (hx : 0 ≤ x.k) (hz : y.zero = true) : (y.sum x).nf = x.nf := by rw [N.sum_comm, N.sum_zero hx hz]
theorem sub_sub {x y z : N} (hx : 0 ≤ x.k) (hz : 0 ≤ z.k) : ((x.sum y.neg).sum (y.sum z.neg)).nf = (x.sum z.neg).nf := by
  have kz : 0 ≤ z.neg.k := hz
  have e : (x.sum y.neg).sum (y.sum z.neg) = (x.sum z.neg).sum (y.sum y.neg) := by
    rw [N.sum_assoc, ← N.sum_assoc y.neg, N.sum_comm y.neg y, N.sum_comm (y.sum y.neg), ← N.sum_assoc]
  rw [e, N.sum_zero (by rw [N.sum_k]; omega) (N.sum_neg_zero y)]
theorem add_sub {x y z : N} (hx : 0 ≤ x.k) (hy : 0 ≤ y.k) : ((x.sum z).sum (y.sum z).neg).nf = (x.sum y.neg).nf := by
  have ky : 0 ≤ y.neg.k := hy
  have e : (x.sum z).sum (y.sum z).neg = (x.sum y.neg).sum (z.sum z.neg) := by
    rw [neg_sum, N.sum_assoc, N.sum_comm y.neg z.neg, ← N.sum_assoc z, N.sum_comm (z.sum z.neg), ← N.sum_assoc]
  rw [e, N.sum_zero (by rw [N.sum_k]; omega) (N.sum_neg_zero z)]
theorem negB_of_nf {u v : N} (hu : 0 ≤ u.k) (hv : 0 ≤ v.k) (ru : u.conj = u) (rv : v.conj = v) (e : u.nf = v.nf) : negB u = negB v := by
  rw [← negB_nf hu ru, ← negB_nf hv rv, e]
theorem negB_sum {u v : N} (ru : u.conj = u) (rv : v.conj = v) (h : negB u = true) (k : negB v = true) : negB (u.sum v) = true := by
  unfold N.sum
  refine negB_add ?_ ?_
  · unfold N.lift; rw [negB_ups ru, h]
  · unfold N.lift; rw [negB_ups rv, k]
theorem zero_sub {x y : N} (hx : 0 ≤ x.k) (hy : 0 ≤ y.k) (h : (x.sum y.neg).zero = true) : x.nf = y.nf := by
  have h1 : ((x.sum y.neg).sum y).nf = y.nf := sum_zero_left hy h
  have h2 : ((x.sum y.neg).sum y).nf = x.nf := by
    rw [N.sum_assoc, N.sum_comm y.neg y, N.sum_zero hx (N.sum_neg_zero y)]
  rw [← h2, h1]
/-- What the law asks. -/
theorem ordered {x y z : N} (hx : Rl x) (hy : Rl y) (hz : Rl z) :
    lesS x y = (negB (x.sum y.neg), 0) ∧ lesS y x = (negB (y.sum x.neg), 0) ∧ samS x y = (eqN x y, 0) ∧ (negB (x.sum y.neg) && negB (y.sum x.neg)) = false ∧ (negB (x.sum y.neg) || negB (y.sum x.neg)) = !eqN x y ∧
    twoS x z (x.sum z) = ((x.sum z).nf, 0) ∧ twoS y z (y.sum z) = ((y.sum z).nf, 0) ∧ lesS (x.sum z).nf (y.sum z).nf = (negB (x.sum y.neg), 0) ∧ lesS y z = (negB (y.sum z.neg), 0) ∧ lesS x z = (negB (x.sum z.neg), 0) ∧
    (negB (x.sum y.neg) = true → negB (y.sum z.neg) = true → negB (x.sum z.neg) = true) := by
  have kx := hx.sz.2.1; have ky := hy.sz.2.1; have kz := hz.sz.2.1
  have df : ∀ {u v : N}, Rl u → Rl v → (u.sum v.neg).Sz 104857600 12 := fun a b => (N.Sz.sum 6 a.sz b.sz.neg (by omega)).mono (by omega) (by omega)
  have sm : ∀ {u v : N}, Rl u → Rl v → (u.sum v).Sz 104857600 12 := fun a b => (N.Sz.sum 6 a.sz b.sz (by omega)).mono (by omega) (by omega)
  have les : ∀ {u v : N}, Rl u → Rl v → lesS u v = (negB (u.sum v.neg), 0) := fun a b => lesS_sub a.real b.real a.ok b.ok (okB_Sz (df a b).nf (by omega) (by omega)) (df a b).2.1
  have rd : ∀ {u v : N}, Rl u → Rl v → (u.sum v.neg).conj = u.sum v.neg := fun a b => real_sum a.real (real_neg b.real)
  have back : y.sum x.neg = (x.sum y.neg).neg := by rw [neg_sum, N.neg_neg, N.sum_comm]
  have oxz := okB_Sz (sm hx hz).nf (by omega) (by omega)
  have oyz := okB_Sz (sm hy hz).nf (by omega) (by omega)
  refine ⟨les hx hy, les hy hx, ?_, ?_, ?_, twoS_of hx.ok hz.ok oxz, twoS_of hy.ok hz.ok oyz, ?_, les hy hz, les hx hz, fun h1 h2 => ?_⟩
  · unfold samS
    rw [bif3_ok hx.ok, bif3_ok hy.ok, hx.least, hy.least]
  · cases h : negB (x.sum y.neg) with
    | false => rfl
    | true => rw [back, negB_neg _ h]; rfl
  · cases he : eqN x y with
    | true =>
      have e : x = y := (eqN_iff _ _).1 he
      subst e
      have z0 : (x.sum x.neg).zero = true := N.sum_neg_zero x
      have : negB (x.sum x.neg) = false := by
        rw [← negB_nf (df hx hx).2.1 (rd hx hx), N.nf_of_zero z0]; rfl
      rw [this]; rfl
    | false =>
      cases h : negB (x.sum y.neg) with
      | true => rfl
      | false =>
        cases k : negB (y.sum x.neg) with
        | true => rfl
        | false =>
          exfalso
          rw [back] at k
          have := zero_sub kx ky (zero_of (rd hx hy) h k)
          rw [hx.least, hy.least] at this
          rw [(eqN_iff _ _).2 this] at he
          cases he
  · have e : ((x.sum z).nf.sum (y.sum z).nf.neg).nf = (x.sum y.neg).nf := by
      rw [← N.nf_neg, N.nf_sum_left (sm hx hz).2.1 (N.nf_k (x := (y.sum z).neg) (sm hy hz).2.1).1, N.nf_sum_right (y := (y.sum z).neg) (sm hx hz).2.1 (sm hy hz).2.1, add_sub kx ky]
    have r1 : (x.sum z).nf.conj = (x.sum z).nf := by rw [← N.nf_conj, real_sum hx.real hz.real]
    have r2 : (y.sum z).nf.conj = (y.sum z).nf := by rw [← N.nf_conj, real_sum hy.real hz.real]
    have k1 : 0 ≤ ((x.sum z).nf.sum (y.sum z).nf.neg).k := by
      rw [N.sum_k]; have := (N.nf_k (sm hx hz).2.1).1; omega
    rw [lesS_sub r1 r2 oxz oyz (by rw [e]; exact okB_Sz (df hx hy).nf (by omega) (by omega)) k1, negB_of_nf k1 (df hx hy).2.1 (real_sum r1 (real_neg r2)) (rd hx hy) e]
  · have := negB_sum (rd hx hy) (rd hy hz) h1 h2
    rw [← negB_of_nf (by rw [N.sum_k]; have := (df hx hy).2.1; omega) (df hx hz).2.1 (real_sum (rd hx hy) (rd hy hz)) (rd hx hz) (sub_sub kx kz)]
    exact this
/-- A difference of norms. -/
def dfN (x y : N) : N := (x.nrm.nf.sum y.nrm.nf.neg).nf
theorem dfN_rl {x y : N} (hx : x.Sz 40 6) (hy : y.Sz 40 6) : Rl (dfN x y) ∧ norS x = (x.nrm.nf, 0) ∧ norS y = (y.nrm.nf, 0) ∧ twoS x.nrm.nf y.nrm.nf (x.nrm.nf.sum y.nrm.nf.neg) = (dfN x y, 0) := by
  have nx : x.nrm.Sz 6400 12 := (hx.mul (turn_conj.Sz hx)).mono (by omega) (by omega)
  have ny : y.nrm.Sz 6400 12 := (hy.mul (turn_conj.Sz hy)).mono (by omega) (by omega)
  have s : (x.nrm.nf.sum y.nrm.nf.neg).Sz 819200 12 := (N.Sz.sum 6 nx.nf ny.nf.neg (by omega)).mono (by omega) (by omega)
  have ox := okB_Sz nx.nf (by omega) (by omega)
  have oy := okB_Sz ny.nf (by omega) (by omega)
  refine ⟨⟨?_, N.nf_nf _, s.nf⟩, norS_of (okB_Sz hx (by omega) (by omega)) ox, norS_of (okB_Sz hy (by omega) (by omega)) oy, twoS_of ox oy (okB_Sz s.nf (by omega) (by omega))⟩
  unfold dfN
  rw [← N.nf_conj, real_sum (by rw [← N.nf_conj, nrm_conj]) (real_neg (by rw [← N.nf_conj, nrm_conj]))]
end Go.Proofs.YtonjnnjnojmpjaaDoor.R
