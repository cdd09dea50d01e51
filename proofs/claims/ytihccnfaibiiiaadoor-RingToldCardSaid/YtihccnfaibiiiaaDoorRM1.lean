/- Ring, plain mathematics: numbers, raising, halving, least forms. -/
import Derived.Test.YtihccnfaibiiiaaDoorW3
namespace Go.Proofs.XX.Rm
open Go

structure N where
  (a b c d k : Int)

@[ext] theorem N.ext {x y : N} (h1 : x.a = y.a) (h2 : x.b = y.b) (h3 : x.c = y.c) (h4 : x.d = y.d) (h5 : x.k = y.k) : x = y := by
  cases x; cases y; simp_all

abbrev w (n : Int) : Int := IntKind.i64.wrap n
theorem w_eq (n : Int) (h1 : -9223372036854775808 ≤ n) (h2 : n ≤ 9223372036854775807) : w n = n := by
  unfold w; rw [IntKind.wrap_i64]; omega

/-- Times r, one more r below. -/
def N.up (x : N) : N := ⟨x.b - x.d, x.a + x.c, x.b + x.d, x.c - x.a, x.k + 1⟩
/-- Divided by r. -/
def N.dn (x : N) : N := ⟨(x.b - x.d) / 2, (x.a + x.c) / 2, (x.b + x.d) / 2, (x.c - x.a) / 2, x.k - 1⟩
def N.even (x : N) : Bool := decide ((x.a - x.c) % 2 = 0) && decide ((x.b - x.d) % 2 = 0)
def N.goes (x : N) : Bool := decide (0 < x.k) && x.even
def N.zero (x : N) : Bool := x.a == 0 && x.b == 0 && x.c == 0 && x.d == 0
def O : N := ⟨0, 0, 0, 0, 0⟩

def N.nfL : Nat → N → N
  | 0, x => x
  | n + 1, x => bif x.goes then x.dn.nfL n else x
def N.nf (x : N) : N := bif x.zero then O else x.nfL x.k.toNat

theorem N.dn_up (x : N) : x.up.dn = x := by
  ext <;> simp only [N.up, N.dn] <;> omega
theorem N.up_dn {x : N} (h : x.even = true) : x.dn.up = x := by
  simp only [N.even, Bool.and_eq_true, decide_eq_true_eq] at h
  ext <;> simp only [N.up, N.dn] <;> omega
theorem N.even_iff (x : N) : x.even = true ↔ (x.a - x.c) % 2 = 0 ∧ (x.b - x.d) % 2 = 0 := by
  simp only [N.even, Bool.and_eq_true, decide_eq_true_eq]
theorem N.goes_iff (x : N) : x.goes = true ↔ 0 < x.k ∧ x.even = true := by
  simp only [N.goes, Bool.and_eq_true, decide_eq_true_eq]
theorem N.even_up (x : N) : x.up.even = true := by
  rw [N.even_iff]; simp only [N.up]; omega
theorem N.zero_up (x : N) : x.up.zero = x.zero := by
  rw [Bool.eq_iff_iff]; simp only [N.zero, N.up, Bool.and_eq_true, beq_iff_eq]; omega
theorem N.zero_dn {x : N} (h : x.even = true) : x.dn.zero = x.zero := by
  conv => rhs; rw [← N.up_dn h]
  rw [N.zero_up]
theorem N.nfL_stop {x : N} (h : x.goes = false) : ∀ n, x.nfL n = x
  | 0 => rfl
  | n + 1 => by simp only [N.nfL, h, cond_false]
/-- Fuel enough is fuel enough. -/
theorem N.nfL_more (x : N) : ∀ n, x.k.toNat ≤ n → x.nfL n = x.nfL x.k.toNat := by
  intro n
  induction n generalizing x with
  | zero => intro h; have : x.k.toNat = 0 := by omega
            rw [this]
  | succ n ih =>
    intro h
    by_cases hg : x.goes = true
    · have hk : 0 < x.k := by simp only [N.goes, Bool.and_eq_true, decide_eq_true_eq] at hg; exact hg.1
      obtain ⟨m, hm⟩ : ∃ m, x.k.toNat = m + 1 := ⟨x.k.toNat - 1, by omega⟩
      rw [hm]
      simp only [N.nfL, hg, cond_true]
      have hd : x.dn.k.toNat = m := by simp only [N.dn]; omega
      rw [ih x.dn (by omega), hd]
    · have hg' : x.goes = false := by simpa using hg
      rw [N.nfL_stop hg', N.nfL_stop hg']
theorem N.nf_up {x : N} (h : 0 ≤ x.k) : x.up.nf = x.nf := by
  unfold N.nf
  rw [N.zero_up]
  cases x.zero
  · simp only [cond_false]
    have hk : x.up.k.toNat = x.k.toNat + 1 := by simp only [N.up]; omega
    have hg : x.up.goes = true := by
      simp only [N.goes, Bool.and_eq_true, decide_eq_true_eq]
      exact ⟨by simp only [N.up]; omega, N.even_up x⟩
    rw [hk]
    simp only [N.nfL, hg, cond_true, N.dn_up]
  · rfl

/-- n times up. -/
def N.ups : Nat → N → N
  | 0, x => x
  | n + 1, x => (x.ups n).up
theorem N.ups_k (x : N) : ∀ n, (x.ups n).k = x.k + n
  | 0 => by simp [N.ups]
  | n + 1 => by simp only [N.ups, N.up, N.ups_k x n]; omega
theorem N.ups_add (x : N) (m : Nat) : ∀ n, (x.ups m).ups n = x.ups (m + n)
  | 0 => rfl
  | n + 1 => by simp only [N.ups, N.ups_add x m n]; rfl
theorem N.ups_succ' (x : N) (n : Nat) : x.up.ups n = x.ups (n + 1) := by
  have := N.ups_add x 1 n
  simp only [N.ups] at this
  rw [this, Nat.add_comm]
theorem N.nf_ups {x : N} (h : 0 ≤ x.k) : ∀ n, (x.ups n).nf = x.nf
  | 0 => rfl
  | n + 1 => by
    simp only [N.ups]
    rw [N.nf_up (by rw [N.ups_k]; omega), N.nf_ups h n]
/-- The same value over r^K. -/
def N.lift (x : N) (K : Int) : N := x.ups (K - x.k).toNat
theorem N.lift_k {x : N} {K : Int} (h : x.k ≤ K) : (x.lift K).k = K := by
  unfold N.lift; rw [N.ups_k]; omega
theorem N.lift_lift {x : N} {K L : Int} (h : x.k ≤ K) (h2 : K ≤ L) : (x.lift K).lift L = x.lift L := by
  unfold N.lift; rw [N.ups_add, N.ups_k]; congr 1; omega
theorem N.nf_lift {x : N} {K : Int} (h : 0 ≤ x.k) : (x.lift K).nf = x.nf := N.nf_ups h _
theorem N.ups_zero {x : N} (h : x.zero = true) (n : Nat) : x.ups n = ⟨0, 0, 0, 0, x.k + n⟩ := by
  simp only [N.zero, Bool.and_eq_true, beq_iff_eq] at h
  induction n with
  | zero => ext <;> simp only [N.ups] <;> omega
  | succ n ih => ext <;> simp only [N.ups, ih, N.up] <;> omega
theorem N.nfL_ups (x : N) : ∀ n, 0 ≤ x.k → ∃ m : Nat, (x.nfL n).ups m = x ∧ (x.nfL n).k + m = x.k ∧ 0 ≤ (x.nfL n).k
  | 0 => fun h => ⟨0, rfl, by simp [N.nfL], h⟩
  | n + 1 => by
    intro h
    by_cases hg : x.goes = true
    · simp only [N.nfL, hg, cond_true]
      simp only [N.goes, Bool.and_eq_true, decide_eq_true_eq] at hg
      obtain ⟨m, h1, h2, h3⟩ := N.nfL_ups x.dn n (by simp only [N.dn]; omega)
      refine ⟨m + 1, ?_, ?_, h3⟩
      · simp only [N.ups, h1, N.up_dn hg.2]
      · simp only [N.dn] at h2; simp only [N.dn]; omega
    · have hg' : x.goes = false := by simpa using hg
      rw [N.nfL_stop hg']
      exact ⟨0, rfl, by simp, h⟩
theorem N.lift_nf {x : N} {K : Int} (h : 0 ≤ x.k) (hK : x.k ≤ K) : x.nf.lift K = x.lift K := by
  unfold N.nf
  cases hz : x.zero
  · simp only [cond_false]
    obtain ⟨m, h1, h2, h3⟩ := N.nfL_ups x x.k.toNat h
    unfold N.lift
    conv => rhs; rw [← h1]
    rw [N.ups_add]; congr 1
    rw [N.ups_k]; omega
  · simp only [cond_true]
    unfold N.lift
    rw [N.ups_zero hz, N.ups_zero (by rfl)]
    ext <;> simp only [O] <;> omega
theorem N.nf_k {x : N} (h : 0 ≤ x.k) : 0 ≤ x.nf.k ∧ x.nf.k ≤ x.k := by
  unfold N.nf
  cases hz : x.zero
  · simp only [cond_false]
    obtain ⟨m, h1, h2, h3⟩ := N.nfL_ups x x.k.toNat h
    omega
  · exact ⟨by simp [O], by simpa [O] using h⟩
theorem N.nfL_goes (x : N) : ∀ n, x.k.toNat ≤ n → (x.nfL n).goes = false
  | 0 => fun h => by
    rw [Bool.eq_false_iff, ne_eq, N.goes_iff]; simp only [N.nfL]; omega
  | n + 1 => by
    intro h
    by_cases hg : x.goes = true
    · simp only [N.nfL, hg, cond_true]
      simp only [N.goes, Bool.and_eq_true, decide_eq_true_eq] at hg
      exact N.nfL_goes x.dn n (by simp only [N.dn]; omega)
    · have hg' : x.goes = false := by simpa using hg
      rw [N.nfL_stop hg']; exact hg'
theorem N.nf_goes {x : N} : x.nf.goes = false := by
  unfold N.nf
  cases hz : x.zero
  · exact N.nfL_goes x _ (Nat.le_refl _)
  · rfl
theorem N.nf_of_least {x : N} (hz : x.zero = true → x.k = 0) (h : x.goes = false) : x.nf = x := by
  unfold N.nf
  cases hz' : x.zero
  · exact N.nfL_stop h _
  · have h0 := hz hz'
    simp only [N.zero, Bool.and_eq_true, beq_iff_eq] at hz'
    simp only [cond_true, O]
    ext <;> simp only <;> omega
theorem N.nfL_zero (x : N) : ∀ n, (x.nfL n).zero = x.zero
  | 0 => rfl
  | n + 1 => by
    by_cases hg : x.goes = true
    · simp only [N.nfL, hg, cond_true]
      simp only [N.goes, Bool.and_eq_true, decide_eq_true_eq] at hg
      rw [N.nfL_zero x.dn n, N.zero_dn hg.2]
    · rw [N.nfL_stop (by simpa using hg)]
theorem N.nf_zero (x : N) : x.nf.zero = x.zero := by
  unfold N.nf
  cases hz : x.zero
  · simp only [cond_false, N.nfL_zero, hz]
  · rfl
theorem N.nf_zero_k (x : N) (h : x.nf.zero = true) : x.nf = O := by
  rw [N.nf_zero] at h
  unfold N.nf; rw [h]; rfl
theorem N.nf_nf (x : N) : x.nf.nf = x.nf :=
  N.nf_of_least (fun h => by rw [N.nf_zero_k x h]; rfl) N.nf_goes

/-- Sums, products and the like. -/
def N.add (x y : N) : N := ⟨x.a + y.a, x.b + y.b, x.c + y.c, x.d + y.d, x.k⟩
def N.neg (x : N) : N := ⟨-x.a, -x.b, -x.c, -x.d, x.k⟩
def N.conj (x : N) : N := ⟨x.a, -x.d, -x.c, -x.b, x.k⟩
def N.alt (x : N) : N := ⟨x.a, -x.b, x.c, -x.d, x.k⟩
def N.mul (x y : N) : N := ⟨x.a * y.a - x.b * y.d - x.c * y.c - x.d * y.b, x.a * y.b + x.b * y.a - x.c * y.d - x.d * y.c, x.a * y.c + x.b * y.b + x.c * y.a - x.d * y.d, x.a * y.d + x.b * y.c + x.c * y.b + x.d * y.a, x.k + y.k⟩
theorem N.up_add {x y : N} : (x.add y).up = x.up.add y.up := by
  ext <;> simp only [N.up, N.add] <;> omega
theorem N.ups_addN (x y : N) : ∀ n, (x.add y).ups n = (x.ups n).add (y.ups n)
  | 0 => rfl
  | n + 1 => by simp only [N.ups, N.ups_addN x y n, N.up_add]
theorem N.lift_add {x y : N} {K : Int} (h : x.k = y.k) : (x.add y).lift K = (x.lift K).add (y.lift K) := by
  unfold N.lift
  have : (x.add y).k = x.k := rfl
  rw [this, N.ups_addN, h]
theorem N.up_neg (x : N) : x.neg.up = x.up.neg := by
  ext <;> simp only [N.up, N.neg] <;> omega
theorem N.neg_neg (x : N) : x.neg.neg = x := by
  ext <;> simp only [N.neg] <;> omega
theorem N.even_neg (x : N) : x.neg.even = x.even := by
  rw [Bool.eq_iff_iff, N.even_iff, N.even_iff]; simp only [N.neg]; omega
theorem N.zero_neg (x : N) : x.neg.zero = x.zero := by
  rw [Bool.eq_iff_iff]; simp only [N.zero, N.neg, Bool.and_eq_true, beq_iff_eq]; omega
theorem N.dn_neg {x : N} (h : x.even = true) : x.neg.dn = x.dn.neg := by
  simp only [N.even, Bool.and_eq_true, decide_eq_true_eq] at h
  ext <;> simp only [N.dn, N.neg] <;> omega
theorem N.nfL_neg (x : N) : ∀ n, x.neg.nfL n = (x.nfL n).neg
  | 0 => rfl
  | n + 1 => by
    have hg : x.neg.goes = x.goes := by simp only [N.goes, N.even_neg]; rfl
    simp only [N.nfL, hg]
    cases h : x.goes
    · rfl
    · have he : x.even = true := by simp only [N.goes, Bool.and_eq_true] at h; exact h.2
      simp only [cond_true, N.dn_neg he, N.nfL_neg x.dn n]
theorem N.nf_neg (x : N) : x.neg.nf = x.nf.neg := by
  unfold N.nf
  rw [N.zero_neg]
  cases x.zero
  · exact N.nfL_neg x _
  · rfl
theorem N.even_conj (x : N) : x.conj.even = x.even := by
  rw [Bool.eq_iff_iff, N.even_iff, N.even_iff]; simp only [N.conj]; omega
theorem N.zero_conj (x : N) : x.conj.zero = x.zero := by
  rw [Bool.eq_iff_iff]; simp only [N.zero, N.conj, Bool.and_eq_true, beq_iff_eq]; omega
theorem N.dn_conj {x : N} (h : x.even = true) : x.conj.dn = x.dn.conj := by
  simp only [N.even, Bool.and_eq_true, decide_eq_true_eq] at h
  ext <;> simp only [N.dn, N.conj] <;> omega
theorem N.nfL_conj (x : N) : ∀ n, x.conj.nfL n = (x.nfL n).conj
  | 0 => rfl
  | n + 1 => by
    have hg : x.conj.goes = x.goes := by simp only [N.goes, N.even_conj]; rfl
    simp only [N.nfL, hg]
    cases h : x.goes
    · rfl
    · have he : x.even = true := by simp only [N.goes, Bool.and_eq_true] at h; exact h.2
      simp only [cond_true, N.dn_conj he, N.nfL_conj x.dn n]
theorem N.nf_conj (x : N) : x.conj.nf = x.nf.conj := by
  unfold N.nf
  rw [N.zero_conj]
  cases x.zero
  · exact N.nfL_conj x _
  · rfl
theorem N.mul_up (x y : N) : x.up.mul y = (x.mul y).up := by
  ext <;> simp only [N.up, N.mul, Int.sub_mul, Int.add_mul] <;> omega
theorem N.mul_comm (x y : N) : x.mul y = y.mul x := by
  ext <;> simp only [N.mul, Int.mul_comm, Int.add_comm] <;> omega
theorem N.mul_ups (x y : N) : ∀ n, (x.ups n).mul y = (x.mul y).ups n
  | 0 => rfl
  | n + 1 => by simp only [N.ups, N.mul_up, N.mul_ups x y n]
theorem N.mul_zero {x y : N} (h : x.zero = true) : (x.mul y).zero = true := by
  simp only [N.zero, Bool.and_eq_true, beq_iff_eq] at h
  obtain ⟨⟨⟨h1, h2⟩, h3⟩, h4⟩ := h
  simp only [N.mul, N.zero, h1, h2, h3, h4]; simp
theorem N.nf_of_zero {x : N} (h : x.zero = true) : x.nf = O := by unfold N.nf; rw [h]; rfl
theorem N.nf_mul_left {x y : N} (hx : 0 ≤ x.k) (hy : 0 ≤ y.k) : (x.nf.mul y).nf = (x.mul y).nf := by
  cases hz : x.zero
  · have e : x.nf = x.nfL x.k.toNat := by unfold N.nf; rw [hz]; rfl
    obtain ⟨m, h1, h2, h3⟩ := N.nfL_ups x x.k.toNat hx
    rw [← e] at h1 h2 h3
    conv => rhs; rw [← h1]
    rw [N.mul_ups, N.nf_ups (by show 0 ≤ x.nf.k + y.k; omega)]
  · rw [N.nf_of_zero (N.mul_zero hz), N.nf_of_zero hz, N.nf_of_zero (N.mul_zero (by rfl))]
theorem N.nf_mul_right {x y : N} (hx : 0 ≤ x.k) (hy : 0 ≤ y.k) : (x.mul y.nf).nf = (x.mul y).nf := by
  rw [N.mul_comm, N.nf_mul_left hy hx, N.mul_comm]
/-- A sum of least forms is the least form of the sum. -/
theorem N.nf_sum {x y : N} (hx : 0 ≤ x.k) (hy : 0 ≤ y.k) {K L : Int} (h1 : x.k ≤ K) (h2 : y.k ≤ K) (h3 : x.nf.k ≤ L) (h4 : y.nf.k ≤ L) (h5 : L ≤ K) :
    ((x.nf.lift L).add (y.nf.lift L)).nf = ((x.lift K).add (y.lift K)).nf := by
  have hl : 0 ≤ L := Int.le_trans (N.nf_k hx).1 h3
  have e : ((x.nf.lift L).add (y.nf.lift L)).lift K = (x.lift K).add (y.lift K) := by
    rw [N.lift_add (by rw [N.lift_k h3, N.lift_k h4]), N.lift_lift h3 h5, N.lift_lift h4 h5, N.lift_nf hx h1, N.lift_nf hy h2]
  rw [← e, N.nf_lift]
  show 0 ≤ (x.nf.lift L).k
  rw [N.lift_k h3]; exact hl
end Go.Proofs.XX.Rm
