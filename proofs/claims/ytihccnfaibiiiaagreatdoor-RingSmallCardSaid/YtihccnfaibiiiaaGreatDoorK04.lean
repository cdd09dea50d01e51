/- Ring, plain mathematics: numbers, raising, halving, least forms. -/
import Derived.Test.YtihccnfaibiiiaaGreatDoorK03
import Derived.Test.YtihccnfaibiiiaaGreatDoorProg
import Derived.Shelf.Strings.Builder1
import Derived.Shelf.Small.Bits
import Derived.Shelf.Small.Wraps
import Derived.Shelf.Strings.BuilderF
import Derived.Shelf.Strings.BuilderK
import Derived.Shelf.Strconv.Itoa0
import Derived.Shelf.Strconv.Itoa1
import Derived.Shelf.LaysM
import Derived.Shelf.Strconv.Itoa2
import Derived.Shelf.Strconv.Itoa3
import Derived.Shelf.Strings.Search1
import Derived.Shelf.Strings.Search2
import Derived.Shelf.Strings.Cut
import Derived.Shelf.Strings.Shaped
import Derived.Shelf.Strings.Prefix
import Derived.Shelf.Strings.BuilderCap
namespace Go.Proofs.XX.Rm
open Go

structure N where
  (a b c d k : Int)

@[ext] theorem N.ext {x y : N} (h1 : x.a = y.a) (h2 : x.b = y.b) (h3 : x.c = y.c) (h4 : x.d = y.d) (h5 : x.k = y.k) : x = y := by
  cases x; cases y; simp_all

abbrev w (n : Int) : Int := IntKind.i64.wrap n
theorem w_eq (n : Int) (h1 : -9223372036854775808 ≤ n) (h2 : n ≤ 9223372036854775807) : w n = n := by
  unfold w; rw [IntKind.wrap_i64]; omega

/-- Times r, one more r below. -/
def N.up (x : N) : N := ⟨x.b - x.d, x.a + x.c, x.b + x.d, x.c - x.a, x.k + 1⟩
/-- Divided by r. -/
def N.dn (x : N) : N := ⟨(x.b - x.d) / 2, (x.a + x.c) / 2, (x.b + x.d) / 2, (x.c - x.a) / 2, x.k - 1⟩
def N.even (x : N) : Bool := decide ((x.a - x.c) % 2 = 0) && decide ((x.b - x.d) % 2 = 0)
def N.goes (x : N) : Bool := decide (0 < x.k) && x.even
def N.zero (x : N) : Bool := x.a == 0 && x.b == 0 && x.c == 0 && x.d == 0
def O : N := ⟨0, 0, 0, 0, 0⟩

def N.nfL : Nat → N → N
  | 0, x => x
  | n + 1, x => bif x.goes then x.dn.nfL n else x
def N.nf (x : N) : N := bif x.zero then O else x.nfL x.k.toNat

theorem N.dn_up (x : N) : x.up.dn = x := by
  ext <;> simp only [N.up, N.dn] <;> omega
theorem N.up_dn {x : N} (h : x.even = true) : x.dn.up = x := by
  simp only [N.even, Bool.and_eq_true, decide_eq_true_eq] at h
  ext <;> simp only [N.up, N.dn] <;> omega
theorem N.even_iff (x : N) : x.even = true ↔ (x.a - x.c) % 2 = 0 ∧ (x.b - x.d) % 2 = 0 := by
  simp only [N.even, Bool.and_eq_true, decide_eq_true_eq]
theorem N.goes_iff (x : N) : x.goes = true ↔ 0 < x.k ∧ x.even = true := by
  simp only [N.goes, Bool.and_eq_true, decide_eq_true_eq]
theorem N.even_up (x : N) : x.up.even = true := by
  rw [N.even_iff]; simp only [N.up]; omega
theorem N.zero_up (x : N) : x.up.zero = x.zero := by
  rw [Bool.eq_iff_iff]; simp only [N.zero, N.up, Bool.and_eq_true, beq_iff_eq]; omega
theorem N.zero_dn {x : N} (h : x.even = true) : x.dn.zero = x.zero := by
  conv => rhs; rw [← N.up_dn h]
  rw [N.zero_up]
theorem N.nfL_stop {x : N} (h : x.goes = false) : ∀ n, x.nfL n = x
  | 0 => rfl
  | n + 1 => by simp only [N.nfL, h, cond_false]
/-- Fuel enough is fuel enough. -/
theorem N.nfL_more (x : N) : ∀ n, x.k.toNat ≤ n → x.nfL n = x.nfL x.k.toNat := by
  intro n
  induction n generalizing x with
  | zero => intro h; have : x.k.toNat = 0 := by omega
            rw [this]
  | succ n ih =>
    intro h
    by_cases hg : x.goes = true
    · have hk : 0 < x.k := by simp only [N.goes, Bool.and_eq_true, decide_eq_true_eq] at hg; exact hg.1
      obtain ⟨m, hm⟩ : ∃ m, x.k.toNat = m + 1 := ⟨x.k.toNat - 1, by omega⟩
      rw [hm]
      simp only [N.nfL, hg, cond_true]
      have hd : x.dn.k.toNat = m := by simp only [N.dn]; omega
      rw [ih x.dn (by omega), hd]
    · have hg' : x.goes = false := by simpa using hg
      rw [N.nfL_stop hg', N.nfL_stop hg']
theorem N.nf_up {x : N} (h : 0 ≤ x.k) : x.up.nf = x.nf := by
  unfold N.nf
  rw [N.zero_up]
  cases x.zero
  · simp only [cond_false]
    have hk : x.up.k.toNat = x.k.toNat + 1 := by simp only [N.up]; omega
    have hg : x.up.goes = true := by
      simp only [N.goes, Bool.and_eq_true, decide_eq_true_eq]
      exact ⟨by simp only [N.up]; omega, N.even_up x⟩
    rw [hk]
    simp only [N.nfL, hg, cond_true, N.dn_up]
  · rfl

/-- n times up. -/
def N.ups : Nat → N → N
  | 0, x => x
  | n + 1, x => (x.ups n).up
theorem N.ups_k (x : N) : ∀ n, (x.ups n).k = x.k + n
  | 0 => by simp [N.ups]
  | n + 1 => by simp only [N.ups, N.up, N.ups_k x n]; omega
theorem N.ups_add (x : N) (m : Nat) : ∀ n, (x.ups m).ups n = x.ups (m + n)
  | 0 => rfl
  | n + 1 => by simp only [N.ups, N.ups_add x m n]; rfl
theorem N.ups_succ' (x : N) (n : Nat) : x.up.ups n = x.ups (n + 1) := by
  have := N.ups_add x 1 n
  simp only [N.ups] at this
  rw [this, Nat.add_comm]
theorem N.nf_ups {x : N} (h : 0 ≤ x.k) : ∀ n, (x.ups n).nf = x.nf
  | 0 => rfl
  | n + 1 => by
    simp only [N.ups]
    rw [N.nf_up (by rw [N.ups_k]; omega), N.nf_ups h n]
/-- The same value over r^K. -/
def N.lift (x : N) (K : Int) : N := x.ups (K - x.k).toNat
theorem N.lift_k {x : N} {K : Int} (h : x.k ≤ K) : (x.lift K).k = K := by
  unfold N.lift; rw [N.ups_k]; omega
theorem N.lift_lift {x : N} {K L : Int} (h : x.k ≤ K) (h2 : K ≤ L) : (x.lift K).lift L = x.lift L := by
  unfold N.lift; rw [N.ups_add, N.ups_k]; congr 1; omega
theorem N.nf_lift {x : N} {K : Int} (h : 0 ≤ x.k) : (x.lift K).nf = x.nf := N.nf_ups h _
theorem N.ups_zero {x : N} (h : x.zero = true) (n : Nat) : x.ups n = ⟨0, 0, 0, 0, x.k + n⟩ := by
  simp only [N.zero, Bool.and_eq_true, beq_iff_eq] at h
  induction n with
  | zero => ext <;> simp only [N.ups] <;> omega
  | succ n ih => ext <;> simp only [N.ups, ih, N.up] <;> omega
theorem N.nfL_ups (x : N) : ∀ n, 0 ≤ x.k → ∃ m : Nat, (x.nfL n).ups m = x ∧ (x.nfL n).k + m = x.k ∧ 0 ≤ (x.nfL n).k
  | 0 => fun h => ⟨0, rfl, by simp [N.nfL], h⟩
  | n + 1 => by
    intro h
    by_cases hg : x.goes = true
    · simp only [N.nfL, hg, cond_true]
      simp only [N.goes, Bool.and_eq_true, decide_eq_true_eq] at hg
      obtain ⟨m, h1, h2, h3⟩ := N.nfL_ups x.dn n (by simp only [N.dn]; omega)
      refine ⟨m + 1, ?_, ?_, h3⟩
      · simp only [N.ups, h1, N.up_dn hg.2]
      · simp only [N.dn] at h2; simp only [N.dn]; omega
    · have hg' : x.goes = false := by simpa using hg
      rw [N.nfL_stop hg']
      exact ⟨0, rfl, by simp, h⟩
theorem N.lift_nf {x : N} {K : Int} (h : 0 ≤ x.k) (hK : x.k ≤ K) : x.nf.lift K = x.lift K := by
  unfold N.nf
  cases hz : x.zero
  · simp only [cond_false]
    obtain ⟨m, h1, h2, h3⟩ := N.nfL_ups x x.k.toNat h
    unfold N.lift
    conv => rhs; rw [← h1]
    rw [N.ups_add]; congr 1
    rw [N.ups_k]; omega
  · simp only [cond_true]
    unfold N.lift
    rw [N.ups_zero hz, N.ups_zero (by rfl)]
    ext <;> simp only [O] <;> omega
theorem N.nf_k {x : N} (h : 0 ≤ x.k) : 0 ≤ x.nf.k ∧ x.nf.k ≤ x.k := by
  unfold N.nf
  cases hz : x.zero
  · simp only [cond_false]
    obtain ⟨m, h1, h2, h3⟩ := N.nfL_ups x x.k.toNat h
    omega
  · exact ⟨by simp [O], by simpa [O] using h⟩
theorem N.nfL_goes (x : N) : ∀ n, x.k.toNat ≤ n → (x.nfL n).goes = false
  | 0 => fun h => by
    rw [Bool.eq_false_iff, ne_eq, N.goes_iff]; simp only [N.nfL]; omega
  | n + 1 => by
    intro h
    by_cases hg : x.goes = true
    · simp only [N.nfL, hg, cond_true]
      simp only [N.goes, Bool.and_eq_true, decide_eq_true_eq] at hg
      exact N.nfL_goes x.dn n (by simp only [N.dn]; omega)
    · have hg' : x.goes = false := by simpa using hg
      rw [N.nfL_stop hg']; exact hg'
theorem N.nf_goes {x : N} : x.nf.goes = false := by
  unfold N.nf
  cases hz : x.zero
  · exact N.nfL_goes x _ (Nat.le_refl _)
  · rfl
theorem N.nf_of_least {x : N} (hz : x.zero = true → x.k = 0) (h : x.goes = false) : x.nf = x := by
  unfold N.nf
  cases hz' : x.zero
  · exact N.nfL_stop h _
  · have h0 := hz hz'
    simp only [N.zero, Bool.and_eq_true, beq_iff_eq] at hz'
    simp only [cond_true, O]
    ext <;> simp only <;> omega
theorem N.nfL_zero (x : N) : ∀ n, (x.nfL n).zero = x.zero
  | 0 => rfl
  | n + 1 => by
    by_cases hg : x.goes = true
    · simp only [N.nfL, hg, cond_true]
      simp only [N.goes, Bool.and_eq_true, decide_eq_true_eq] at hg
      rw [N.nfL_zero x.dn n, N.zero_dn hg.2]
    · rw [N.nfL_stop (by simpa using hg)]
theorem N.nf_zero (x : N) : x.nf.zero = x.zero := by
  unfold N.nf
  cases hz : x.zero
  · simp only [cond_false, N.nfL_zero, hz]
  · rfl
theorem N.nf_zero_k (x : N) (h : x.nf.zero = true) : x.nf = O := by
  rw [N.nf_zero] at h
  unfold N.nf; rw [h]; rfl
theorem N.nf_nf (x : N) : x.nf.nf = x.nf :=
  N.nf_of_least (fun h => by rw [N.nf_zero_k x h]; rfl) N.nf_goes

/-- Sums, products and the like. -/
def N.add (x y : N) : N := ⟨x.a + y.a, x.b + y.b, x.c + y.c, x.d + y.d, x.k⟩
def N.neg (x : N) : N := ⟨-x.a, -x.b, -x.c, -x.d, x.k⟩
def N.conj (x : N) : N := ⟨x.a, -x.d, -x.c, -x.b, x.k⟩
def N.alt (x : N) : N := ⟨x.a, -x.b, x.c, -x.d, x.k⟩
def N.mul (x y : N) : N := ⟨x.a * y.a - x.b * y.d - x.c * y.c - x.d * y.b, x.a * y.b + x.b * y.a - x.c * y.d - x.d * y.c, x.a * y.c + x.b * y.b + x.c * y.a - x.d * y.d, x.a * y.d + x.b * y.c + x.c * y.b + x.d * y.a, x.k + y.k⟩
theorem N.up_add {x y : N} : (x.add y).up = x.up.add y.up := by
  ext <;> simp only [N.up, N.add] <;> omega
theorem N.ups_addN (x y : N) : ∀ n, (x.add y).ups n = (x.ups n).add (y.ups n)
  | 0 => rfl
  | n + 1 => by simp only [N.ups, N.ups_addN x y n, N.up_add]
theorem N.lift_add {x y : N} {K : Int} (h : x.k = y.k) : (x.add y).lift K = (x.lift K).add (y.lift K) := by
  unfold N.lift
  have : (x.add y).k = x.k := rfl
  rw [this, N.ups_addN, h]
theorem N.up_neg (x : N) : x.neg.up = x.up.neg := by
  ext <;> simp only [N.up, N.neg] <;> omega
theorem N.neg_neg (x : N) : x.neg.neg = x := by
  ext <;> simp only [N.neg] <;> omega
theorem N.even_neg (x : N) : x.neg.even = x.even := by
  rw [Bool.eq_iff_iff, N.even_iff, N.even_iff]; simp only [N.neg]; omega
theorem N.zero_neg (x : N) : x.neg.zero = x.zero := by
  rw [Bool.eq_iff_iff]; simp only [N.zero, N.neg, Bool.and_eq_true, beq_iff_eq]; omega
theorem N.dn_neg {x : N} (h : x.even = true) : x.neg.dn = x.dn.neg := by
  simp only [N.even, Bool.and_eq_true, decide_eq_true_eq] at h
  ext <;> simp only [N.dn, N.neg] <;> omega
theorem N.nfL_neg (x : N) : ∀ n, x.neg.nfL n = (x.nfL n).neg
  | 0 => rfl
  | n + 1 => by
    have hg : x.neg.goes = x.goes := by simp only [N.goes, N.even_neg]; rfl
    simp only [N.nfL, hg]
    cases h : x.goes
    · rfl
    · have he : x.even = true := by simp only [N.goes, Bool.and_eq_true] at h; exact h.2
      simp only [cond_true, N.dn_neg he, N.nfL_neg x.dn n]
theorem N.nf_neg (x : N) : x.neg.nf = x.nf.neg := by
  unfold N.nf
  rw [N.zero_neg]
  cases x.zero
  · exact N.nfL_neg x _
  · rfl
theorem N.even_conj (x : N) : x.conj.even = x.even := by
  rw [Bool.eq_iff_iff, N.even_iff, N.even_iff]; simp only [N.conj]; omega
theorem N.zero_conj (x : N) : x.conj.zero = x.zero := by
  rw [Bool.eq_iff_iff]; simp only [N.zero, N.conj, Bool.and_eq_true, beq_iff_eq]; omega
theorem N.dn_conj {x : N} (h : x.even = true) : x.conj.dn = x.dn.conj := by
  simp only [N.even, Bool.and_eq_true, decide_eq_true_eq] at h
  ext <;> simp only [N.dn, N.conj] <;> omega
theorem N.nfL_conj (x : N) : ∀ n, x.conj.nfL n = (x.nfL n).conj
  | 0 => rfl
  | n + 1 => by
    have hg : x.conj.goes = x.goes := by simp only [N.goes, N.even_conj]; rfl
    simp only [N.nfL, hg]
    cases h : x.goes
    · rfl
    · have he : x.even = true := by simp only [N.goes, Bool.and_eq_true] at h; exact h.2
      simp only [cond_true, N.dn_conj he, N.nfL_conj x.dn n]
theorem N.nf_conj (x : N) : x.conj.nf = x.nf.conj := by
  unfold N.nf
  rw [N.zero_conj]
  cases x.zero
  · exact N.nfL_conj x _
  · rfl
theorem N.mul_up (x y : N) : x.up.mul y = (x.mul y).up := by
  ext <;> simp only [N.up, N.mul, Int.sub_mul, Int.add_mul] <;> omega
theorem N.mul_comm (x y : N) : x.mul y = y.mul x := by
  ext <;> simp only [N.mul, Int.mul_comm, Int.add_comm] <;> omega
theorem N.mul_ups (x y : N) : ∀ n, (x.ups n).mul y = (x.mul y).ups n
  | 0 => rfl
  | n + 1 => by simp only [N.ups, N.mul_up, N.mul_ups x y n]
theorem N.mul_zero {x y : N} (h : x.zero = true) : (x.mul y).zero = true := by
  simp only [N.zero, Bool.and_eq_true, beq_iff_eq] at h
  obtain ⟨⟨⟨h1, h2⟩, h3⟩, h4⟩ := h
  simp only [N.mul, N.zero, h1, h2, h3, h4]; simp
theorem N.nf_of_zero {x : N} (h : x.zero = true) : x.nf = O := by unfold N.nf; rw [h]; rfl
theorem N.nf_mul_left {x y : N} (hx : 0 ≤ x.k) (hy : 0 ≤ y.k) : (x.nf.mul y).nf = (x.mul y).nf := by
  cases hz : x.zero
  · have e : x.nf = x.nfL x.k.toNat := by unfold N.nf; rw [hz]; rfl
    obtain ⟨m, h1, h2, h3⟩ := N.nfL_ups x x.k.toNat hx
    rw [← e] at h1 h2 h3
    conv => rhs; rw [← h1]
    rw [N.mul_ups, N.nf_ups (by show 0 ≤ x.nf.k + y.k; omega)]
  · rw [N.nf_of_zero (N.mul_zero hz), N.nf_of_zero hz, N.nf_of_zero (N.mul_zero (by rfl))]
theorem N.nf_mul_right {x y : N} (hx : 0 ≤ x.k) (hy : 0 ≤ y.k) : (x.mul y.nf).nf = (x.mul y).nf := by
  rw [N.mul_comm, N.nf_mul_left hy hx, N.mul_comm]
/-- A sum of least forms is the least form of the sum. -/
theorem N.nf_sum {x y : N} (hx : 0 ≤ x.k) (hy : 0 ≤ y.k) {K L : Int} (h1 : x.k ≤ K) (h2 : y.k ≤ K) (h3 : x.nf.k ≤ L) (h4 : y.nf.k ≤ L) (h5 : L ≤ K) :
    ((x.nf.lift L).add (y.nf.lift L)).nf = ((x.lift K).add (y.lift K)).nf := by
  have hl : 0 ≤ L := Int.le_trans (N.nf_k hx).1 h3
  have e : ((x.nf.lift L).add (y.nf.lift L)).lift K = (x.lift K).add (y.lift K) := by
    rw [N.lift_add (by rw [N.lift_k h3, N.lift_k h4]), N.lift_lift h3 h5, N.lift_lift h4 h5, N.lift_nf hx h1, N.lift_nf hy h2]
  rw [← e, N.nf_lift]
  show 0 ≤ (x.nf.lift L).k
  rw [N.lift_k h3]; exact hl
end Go.Proofs.XX.Rm
/- Ring, plain mathematics: no sum leaves 64 bits. -/
namespace Go.Proofs.XX.Rm
open Go

structure N.In (M : Int) (x : N) : Prop where
  a1 : -M ≤ x.a
  a2 : x.a ≤ M
  b1 : -M ≤ x.b
  b2 : x.b ≤ M
  c1 : -M ≤ x.c
  c2 : x.c ≤ M
  d1 : -M ≤ x.d
  d2 : x.d ≤ M
theorem N.In.mono {M L : Int} {x : N} (h : x.In M) (hl : M ≤ L) : x.In L := by
  obtain ⟨h1, h2, h3, h4, h5, h6, h7, h8⟩ := h
  constructor <;> omega
theorem N.In.up {M : Int} {x : N} (h : x.In M) : x.up.In (2 * M) := by
  obtain ⟨h1, h2, h3, h4, h5, h6, h7, h8⟩ := h
  constructor <;> simp only [N.up] <;> omega
theorem N.In.up2 {M : Int} {x : N} (h : x.In M) : x.up.up.In (2 * M) := by
  obtain ⟨h1, h2, h3, h4, h5, h6, h7, h8⟩ := h
  constructor <;> simp only [N.up] <;> omega
theorem N.In.dn {M : Int} {x : N} (h : x.up.In (2 * M)) : x.dn.In M := by
  obtain ⟨h1, h2, h3, h4, h5, h6, h7, h8⟩ := h
  simp only [N.up] at *
  constructor <;> simp only [N.dn] <;> omega
/-- The greatest coefficient never becomes greater when it is halved. -/
theorem N.In.dn' {M : Int} {x : N} (h : x.In M) : x.dn.In M := N.In.dn h.up
theorem N.In.nfL {M : Int} {x : N} (h : x.In M) : ∀ n, (x.nfL n).In M := by
  intro n
  induction n generalizing x with
  | zero => exact h
  | succ n ih =>
    simp only [N.nfL]
    cases x.goes
    · exact h
    · exact ih h.dn'
theorem N.In.zero {M : Int} (h : 0 ≤ M) : O.In M := by constructor <;> simp only [O] <;> omega
theorem N.In.nf {M : Int} {x : N} (h : x.In M) : x.nf.In M := by
  unfold N.nf
  cases x.zero
  · exact h.nfL _
  · exact N.In.zero (by obtain ⟨h1, h2, _⟩ := h; omega)
theorem N.In.ups2 {M : Int} {x : N} (h : x.In M) : ∀ j : Nat, (x.ups (2 * j)).In (2 ^ j * M) ∧ (x.ups (2 * j + 1)).In (2 ^ (j + 1) * M)
  | 0 => ⟨by simpa [N.ups] using h, by simpa [N.ups] using h.up⟩
  | j + 1 => by
    obtain ⟨h1, h2⟩ := N.In.ups2 h j
    have e1 : (2 : Int) ^ (j + 1) * M = 2 * (2 ^ j * M) := by rw [Int.pow_succ]; simp only [Int.mul_comm, Int.mul_left_comm]
    have e2 : (2 : Int) ^ (j + 1 + 1) * M = 2 * (2 ^ (j + 1) * M) := by rw [Int.pow_succ]; simp only [Int.mul_comm, Int.mul_left_comm]
    constructor
    · rw [e1, show 2 * (j + 1) = 2 * j + 1 + 1 by omega]; exact h1.up2
    · rw [e2, show 2 * (j + 1) + 1 = 2 * j + 1 + 1 + 1 by omega]; exact h2.up2
/-- Raised by at most 60. -/
theorem N.In.ups60 {x : N} (h : x.In (2 ^ 30)) {n : Nat} (hn : n ≤ 60) : (x.ups n).In (2 ^ 60) := by
  have key : ∀ j : Nat, j ≤ 30 → (2 : Int) ^ j * 2 ^ 30 ≤ 2 ^ 60 := by
    intro j hj
    have h0 := Nat.pow_le_pow_right (n := 2) (by omega) hj
    have h2 : ((2 ^ j : Nat) : Int) ≤ ((2 ^ 30 : Nat) : Int) := Int.ofNat_le.2 h0
    rw [Int.natCast_pow] at h2
    have h1 : (2 : Int) ^ j ≤ 1073741824 := by simpa using h2
    omega
  obtain ⟨j, hj⟩ : ∃ j, n = 2 * j ∨ n = 2 * j + 1 := ⟨n / 2, by omega⟩
  rcases hj with rfl | rfl
  · exact (N.In.ups2 h j).1.mono (key j (by omega))
  · exact (N.In.ups2 h j).2.mono (key (j + 1) (by omega))

/-- Nothing is too large for the halves. -/
def N.Fit (x : N) : Prop := x.In (2 ^ 62) ∧ x.up.In (2 ^ 62)
theorem N.Fit.of_in {x : N} (h : x.In (2 ^ 61)) : x.Fit := ⟨h.mono (by omega), h.up.mono (by omega)⟩
theorem N.Fit.dn {x : N} (h : x.Fit) (he : x.even = true) : x.dn.Fit :=
  ⟨(N.In.dn (M := 2 ^ 61) (h.2.mono (by omega))).mono (by omega), by rw [N.up_dn he]; exact h.1⟩
end Go.Proofs.XX.Rm
/- Ring: the program's functions that halve nothing. -/
namespace Go.Proofs.YtihccnfaibiiiaaGreatDoor.R
open Go Go.Proofs.XX.Vm Go.Proofs.XX.Rm
set_option maxRecDepth 100000

def N.v (x : N) : Value := .agg #[.int .i64 x.a, .int .i64 x.b, .int .i64 x.c, .int .i64 x.d, .int .i64 x.k]
def N.cv (x : N) : Value := .agg #[.int .i64 x.a, .int .i64 x.b, .int .i64 x.c, .int .i64 x.d]
def asN : Value → Option N
  | .agg x => match x.toList with
    | [.int .i64 a, .int .i64 b, .int .i64 c, .int .i64 d, .int .i64 k] => some ⟨a, b, c, d, k⟩
    | _ => none
  | _ => none
theorem asN_eq {v : Value} {x : N} (h : asN v = some x) : v = N.v x := by
  unfold asN at h
  split at h
  · rename_i y
    split at h
    · rename_i a b c d k e
      cases h
      cases y
      simp only at e
      subst e
      rfl
    · cases h
  · cases h
/-- The variables that are looked at. -/
def str (l : List UInt8) : Value := .string ⟨l.toArray⟩
def uni : Blk := ⟨[str [], str [119], str [119, 50], str [119, 51]], 97, true, none⟩
def pow : Blk := ⟨[.int .u64 1, .int .u64 10, .int .u64 100, .int .u64 1000, .int .u64 10000, .int .u64 100000, .int .u64 1000000, .int .u64 10000000, .int .u64 100000000, .int .u64 1000000000, .int .u64 10000000000, .int .u64 100000000000, .int .u64 1000000000000, .int .u64 10000000000000, .int .u64 100000000000000, .int .u64 1000000000000000, .int .u64 10000000000000000, .int .u64 100000000000000000, .int .u64 1000000000000000000, .int .u64 10000000000000000000], 136, true, none⟩
def mxl (M : Int) : Blk := ⟨[.int .i64 M], 3, true, none⟩
abbrev Sg1 (M : Int) : List Blk := [uni, pow, mxl M]
theorem sg1 (M : Int) : SgOk (Sg1 M) := by
  unfold SgOk
  have h1 : (uni.cells.all scalar && uni.obj.isNone) = true := by decide
  have h2 : (pow.cells.all scalar && pow.obj.isNone) = true := by decide
  have h3 : ((mxl M).cells.all scalar && (mxl M).obj.isNone) = true := rfl
  simp only [List.all_cons, h1, h2, h3, List.all_nil, Bool.and_self]

/-- Contracts, one for each function, put in a list. -/
structure Con where
  f : FuncId
  dom : List Value → Option OT
def orcV : List Con → FuncId → List Value → Option OT
  | [], _, _ => none
  | c :: l, f, args => match Nat.beq c.f f with
    | true => c.dom args
    | false => orcV l f args
/-- Contracts of calls with memory. -/
structure MCon where
  f : FuncId
  dom : Nat → List Value → List Blk → Option OTM
def orcM : List MCon → Nat → FuncId → List Value → List Blk → Option OTM
  | [], _, _, _, _ => none
  | c :: l, fl, f, args, S => match Nat.beq c.f f with
    | true => c.dom fl args S
    | false => orcM l fl f args S
def orcL (l : List Con) : Orc := ⟨orcV l, fun _ _ _ _ => none⟩
def orcLM (l : List Con) (m : List MCon) : Orc := ⟨orcV l, orcM m⟩
def ConOk (M : Int) (c : Con) : Prop := ∀ (args : List Value) (t : OT) (v : Value), c.dom args = some t → t.get = some v → ∀ w : World, Inv (Sg1 M) (baseRen (Sg1 M).length) (Sg1 M) w →
  Calls Tryz.prog c.f args.toArray w fun e w' => e = .returned v ∧ RowKit.Below w.heap.size w w'
theorem orcV_of {M : Int} {l : List Con} (h : ∀ c ∈ l, ConOk M c) : ∀ (f : FuncId) (args : List Value) (t : OT) (v : Value), orcV l f args = some t → t.get = some v → ∀ w : World, Inv (Sg1 M) (baseRen (Sg1 M).length) (Sg1 M) w →
    Calls Tryz.prog f args.toArray w fun e w' => e = .returned v ∧ RowKit.Below w.heap.size w w' := by
  induction l with
  | nil => intro f args t v hv; simp [orcV] at hv
  | cons c l ih =>
    intro f args t v hv ht w inv
    simp only [orcV] at hv
    cases hb : Nat.beq c.f f with
    | true =>
      rw [hb] at hv
      have hf : c.f = f := Nat.eq_of_beq_eq_true hb
      subst hf
      exact h c (by simp) args t v hv ht w inv
    | false =>
      rw [hb] at hv
      exact ih (fun d hd => h d (by simp [hd])) f args t v hv ht w inv
theorem orcOk_of {M : Int} {l : List Con} (h : ∀ c ∈ l, ConOk M c) : OrcOk Tryz.prog (Sg1 M) (orcOf (orcL l)) := by
  refine ⟨fun f args v hv w inv => ?_, fun _ _ _ _ _ _ hv => ?_⟩
  · simp only [orcOf, orcL] at hv
    split at hv
    · rename_i t ht
      exact orcV_of h f args t v ht hv w inv
    · cases hv
  · simp only [orcOf, orcL] at hv; cases hv
def MConOk (M : Int) (c : MCon) : Prop := ∀ (fl : Nat) (args : List Value) (S : List Blk) (t : OTM) (v : Value) (S' : List Blk), c.dom fl args S = some t → t.get = some (v, S') → (Sg1 M).length ≤ fl → (Sg1 M).length ≤ S.length →
  CallAt Tryz.prog (Sg1 M) fl c.f args S v S'
theorem orcLM_ok {M : Int} {l : List Con} {m : List MCon} (h : ∀ c ∈ l, ConOk M c) (hm : ∀ c ∈ m, MConOk M c) : OrcOk Tryz.prog (Sg1 M) (orcOf (orcLM l m)) := by
  refine ⟨fun f args v hv w inv => ?_, fun fl f args S v S' hv h1 h2 => ?_⟩
  · simp only [orcOf, orcLM] at hv
    split at hv
    · rename_i t ht
      exact orcV_of h f args t v ht hv w inv
    · cases hv
  · have key : ∀ m : List MCon, (∀ c ∈ m, MConOk M c) → ∀ t, orcM m fl f args S = some t → t.get = some (v, S') → CallAt Tryz.prog (Sg1 M) fl f args S v S' := by
      intro m
      induction m with
      | nil => intro _ t ht; simp [orcM] at ht
      | cons c m ih =>
        intro hm t ht hg
        simp only [orcM] at ht
        cases hb : Nat.beq c.f f with
        | true =>
          rw [hb] at ht
          have hf : c.f = f := Nat.eq_of_beq_eq_true hb
          subst hf
          exact hm c (by simp) fl args S t v S' ht hg h1 h2
        | false =>
          rw [hb] at ht
          exact ih (fun d hd => hm d (by simp [hd])) t ht hg
    simp only [orcOf, orcLM] at hv
    split at hv
    · rename_i t ht
      exact key m hm t ht hv
    · cases hv
theorem mem_cons_mok {M : Int} {c : MCon} {l : List MCon} (h : MConOk M c) (hl : ∀ d ∈ l, MConOk M d) : ∀ d ∈ c :: l, MConOk M d := by
  intro d hd
  rcases List.mem_cons.1 hd with rfl | hd
  · exact h
  · exact hl d hd
theorem nil_mok {M : Int} : ∀ d ∈ ([] : List MCon), MConOk M d := by simp
theorem conOk_of_evF {M : Int} {l : List Con} (hl : ∀ c ∈ l, ConOk M c) {c : Con} (h : ∀ args t v, c.dom args = some t → t.get = some v → args.all plain = true ∧ EvF Tryz.prog (orcL l) (Sg1 M) c.f args v) : ConOk M c := by
  intro args t v ht hv w inv
  obtain ⟨h1, h2⟩ := h args t v ht hv
  exact h2.calls (sg1 M) (orcOk_of hl) h1 inv
theorem plainN (x : N) : plain (N.v x) = true := rfl

/-- Check. -/
def mn (x y : Int) : Int := if y < x then y else x
def mx (x y : Int) : Int := if y > x then y else x
def withinB (a b c d l : Int) : Bool := (mn (mn (mn (mn (IntKind.i64.wrap (0 - l)) a) b) c) d == IntKind.i64.wrap (0 - l)) && ((mx (mx (mx (mx l a) b) c) d == l) && true)
def chkI (x : N) : Int := bif decide (x.k < 0) then 3 else bif decide (x.k > 60) then 3 else bif !(withinB x.a x.b x.c x.d 1073741824) then 8 else 0
theorem t17 (M : Int) (m : Nat) (x : N) : runK Tryz.prog (orcL []) (Sg1 M) (m + 60) 62 [N.v x] =
    bif decide (x.k < 0) then some (.int .i64 3) else bif decide (x.k > 60) then some (.int .i64 3) else bif !(withinB x.a x.b x.c x.d 1073741824) then some (.int .i64 8) else some (.int .i64 0) := by kernel_rfl
theorem e17 (M : Int) (x : N) : EvF Tryz.prog (orcL []) (Sg1 M) 62 [N.v x] (.int .i64 (chkI x)) :=
  EvF.of_eq 60 fun m => by
    rw [t17]; unfold chkI
    cases decide (x.k < 0) <;> cases decide (x.k > 60) <;> cases withinB x.a x.b x.c x.d 1073741824 <;> rfl
/-- Contracts of functions of one number, and of two. -/
def con1 (f : FuncId) (g : N → OT) : Con := ⟨f, fun args => match args with
  | [v] => match asN v with
    | some x => some (g x)
    | none => none
  | _ => none⟩
theorem con1_ok {M : Int} {l : List Con} {f : FuncId} {g : N → OT} (hl : ∀ c ∈ l, ConOk M c) (h : ∀ x v, (g x).get = some v → EvF Tryz.prog (orcL l) (Sg1 M) f [N.v x] v) : ConOk M (con1 f g) := by
  refine conOk_of_evF hl ?_
  intro args t v ht hv
  simp only [con1] at ht
  split at ht
  · rename_i u
    split at ht
    · rename_i x hx
      rw [asN_eq hx]
      cases ht
      exact ⟨rfl, h x v hv⟩
    · cases ht
  · cases ht
def con2 (f : FuncId) (g : N → N → OT) : Con := ⟨f, fun args => match args with
  | [u, v] => match asN u, asN v with
    | some x, some y => some (g x y)
    | _, _ => none
  | _ => none⟩
theorem con2_ok {M : Int} {l : List Con} {f : FuncId} {g : N → N → OT} (hl : ∀ c ∈ l, ConOk M c) (h : ∀ x y v, (g x y).get = some v → EvF Tryz.prog (orcL l) (Sg1 M) f [N.v x, N.v y] v) : ConOk M (con2 f g) := by
  refine conOk_of_evF hl ?_
  intro args t v ht hv
  simp only [con2] at ht
  split at ht
  · rename_i u t'
    split at ht
    · rename_i x y hx hy
      rw [asN_eq hx, asN_eq hy]
      cases ht
      exact ⟨rfl, h x y v hv⟩
    · cases ht
  · cases ht
theorem mem_cons_ok {M : Int} {c : Con} {l : List Con} (h : ConOk M c) (hl : ∀ d ∈ l, ConOk M d) : ∀ d ∈ c :: l, ConOk M d := by
  intro d hd
  rcases List.mem_cons.1 hd with rfl | hd
  · exact h
  · exact hl d hd
theorem nil_ok {M : Int} : ∀ d ∈ ([] : List Con), ConOk M d := by simp
/-- Right numbers, and those with a right power of r. -/
def rgB (x : N) : Bool := !(decide (x.k < 0)) && !(decide (x.k > 60))
def inB (x : N) : Bool := withinB x.a x.b x.c x.d 1073741824
/-- Check, by tests. -/
def cChk : Con := con1 62 fun x => .ite (rgB x) (.ite (inB x) (.val (.int .i64 0)) (.val (.int .i64 8))) (.val (.int .i64 3))
theorem chkI_eq (x : N) : chkI x = bif rgB x then (bif inB x then 0 else 8) else 3 := by
  unfold chkI rgB inB
  cases decide (x.k < 0) <;> cases decide (x.k > 60) <;> cases withinB x.a x.b x.c x.d 1073741824 <;> rfl
theorem cChk_ok (M : Int) : ConOk M cChk := con1_ok nil_ok fun x v h => by
  have e := chkI_eq x
  simp only [OT.get] at h
  have h2 : v = .int .i64 (chkI x) := by
    rw [e]
    cases h1 : rgB x <;> cases h3 : inB x <;> rw [h1, h3] at h <;> cases h <;> rfl
  rw [h2]
  exact e17 M x
abbrev L1 : List Con := [cChk]
theorem L1_ok (M : Int) : ∀ c ∈ L1, ConOk M c := mem_cons_ok (cChk_ok M) nil_ok
end Go.Proofs.YtihccnfaibiiiaaGreatDoor.R
/- Ring: the least form. -/
namespace Go.Proofs.YtihccnfaibiiiaaGreatDoor.R
open Go Go.Proofs.XX.Vm Go.Proofs.XX.Rm
set_option maxRecDepth 100000



noncomputable def L46 : List Code := pcs Tryz.prog 84
noncomputable abbrev q46 (i : Nat) : Code := nthC (pcs Tryz.prog 84) i
noncomputable abbrev B46 (i : Nat) : Code := loopOf Tryz.prog 84 i
theorem L46_eq : pcs Tryz.prog 84 = [q46 0, q46 1, q46 2, .block 0 (.loop (B46 0)), q46 4, .block 2 (.loop (B46 1)), q46 6, q46 7, q46 8, q46 9] := by kernel_rfl

/-- The number at work, and the result. -/
def wb (x : N) : Blk := ⟨[.int .i64 x.a, .int .i64 x.b, .int .i64 x.c, .int .i64 x.d, .int .i64 x.k], 57, false, none⟩
def rb (x : N) : Blk := ⟨[.int .i64 x.a, .int .i64 x.b, .int .i64 x.c, .int .i64 x.d, .int .i64 x.k], 23, false, none⟩
def z0 (x : N) : Bool := (x.a == 0) && ((x.b == 0) && ((x.c == 0) && ((x.d == 0) && true)))
def p1 : Value := .pointer (some ⟨3, 0, none⟩)
def p2 : Value := .pointer (some ⟨4, 0, none⟩)
def hv : Value := .func (.func 106) #[p1] #[]
def T46 (x : N) (v4 v5 v6 v7 v8 v9 v10 v11 v12 v13 v14 v15 v16 v17 v18 v19 v20 v21 v22 v23 v24 v25 v26 v27 v28 v29 v30 v31 : Value) : List Value :=
  [N.v x, p1, p2, .int .i64 0, v4, v5, v6, v7, v8, v9, v10, v11, v12, v13, v14, v15, v16, v17, v18, v19, v20, v21, v22, v23, v24, v25, v26, v27, v28, v29, v30, v31]
theorem head46 {α : Type} (M : Int) (fs : Nat → Nat) (x : N) (l : List Code) (k : Kont α) :
    evP Tryz.prog (orcL L1) (Sg1 M) 3 fs 0 (q46 0 :: q46 1 :: q46 2 :: l) (N.v x :: List.replicate 31 undef) (Sg1 M) k =
    bif z0 x then k .ret (T46 x undef p1 (N.v x) (N.cv x) (N.cv O) (.bool true) (N.v O) undef undef undef undef undef undef undef undef undef undef undef undef undef undef undef undef undef undef undef undef undef) [uni, pow, mxl M, wb x, rb O]
    else evP Tryz.prog (orcL L1) (Sg1 M) 3 fs 3 l (T46 x undef p1 (N.v x) (N.cv x) (N.cv O) (.bool false) undef undef undef undef undef undef undef undef undef undef undef undef undef undef undef undef undef undef undef undef undef undef) [uni, pow, mxl M, wb x, rb O] k := by kernel_rfl
def p14 : Value := .pointer (some ⟨3, 4, none⟩)
def wB (y : N) : Bool := withinB y.a y.b y.c y.d 1073741824
def N.upW (x : N) : N := ⟨w (x.b - x.d), w (x.a + x.c), w (x.b + x.d), w (x.c - x.a), w (x.k + 1)⟩
def N.dnW (x : N) : N := ⟨w ((w (x.b - x.d)).tdiv 2), w ((w (x.a + x.c)).tdiv 2), w ((w (x.b + x.d)).tdiv 2), w ((w (x.c - x.a)).tdiv 2), w (x.k - 1)⟩
theorem up46 {α : Type} (M : Int) (n : Nat) (x y : N) (R : Blk) (v4 v5 v6 v7 v8 v9 v10 v11 v12 v13 v14 v15 v16 v17 v18 v19 v20 v21 v22 v23 v24 v25 v26 v27 v28 v29 v30 v31 : Value) (k : Kont α) :
    evCodeK Tryz.prog (orcL L1) (Sg1 M) (n + 60) 3 (B46 0) (T46 x v4 v5 v6 v7 v8 v9 v10 v11 v12 v13 v14 v15 v16 v17 v18 v19 v20 v21 v22 v23 v24 v25 v26 v27 v28 v29 v30 v31) [uni, pow, mxl M, wb y, R] k =
    bif decide (y.k < 0) then (bif wB y then k .normal (T46 x v4 v5 v6 v7 v8 v9 v10 p1 p14 (.int .i64 y.k) (.bool (decide (y.k < 0))) (.bool true) p1 (N.v y) (N.cv y) (.bool (wB y)) (.bool true) undef v22 v23 v24 v25 v26 v27 v28 v29 v30 v31) [uni, pow, mxl M, wb (N.upW y), R] else k (.exit 0) (T46 x v4 v5 v6 v7 v8 v9 v10 p1 p14 (.int .i64 y.k) (.bool (decide (y.k < 0))) (.bool true) p1 (N.v y) (N.cv y) (.bool (wB y)) (.bool false) v21 v22 v23 v24 v25 v26 v27 v28 v29 v30 v31) [uni, pow, mxl M, wb y, R])
    else k (.exit 0) (T46 x v4 v5 v6 v7 v8 v9 v10 p1 p14 (.int .i64 y.k) (.bool (decide (y.k < 0))) (.bool false) undef undef undef undef (.bool false) v21 v22 v23 v24 v25 v26 v27 v28 v29 v30 v31) [uni, pow, mxl M, wb y, R] := by kernel_rfl
def rem2 (x y : Int) : Int := (w (x - y)).tmod 2
theorem dn46 {α : Type} (M : Int) (n : Nat) (x y : N) (R : Blk) (v5 v6 v7 v8 v9 v10 v11 v12 v13 v14 v15 v16 v17 v18 v19 v20 v21 v22 v23 v24 v25 v26 v27 v28 v29 v30 v31 : Value) (k : Kont α) :
    evCodeK Tryz.prog (orcL L1) (Sg1 M) (n + 60) 3 (B46 1) (T46 x hv v5 v6 v7 v8 v9 v10 v11 v12 v13 v14 v15 v16 v17 v18 v19 v20 v21 v22 v23 v24 v25 v26 v27 v28 v29 v30 v31) [uni, pow, mxl M, wb y, R] k =
    bif decide (y.k ≤ 0) then k (.exit 2) (T46 x hv v5 v6 v7 v8 v9 v10 v11 v12 v13 v14 v15 v16 v17 v18 v19 v20 v21 v22 hv (.bool false) v25 v26 v27 v28 v29 v30 v31) [uni, pow, mxl M, wb y, R]
    else bif rem2 y.a y.c != 0 then k (.exit 2) (T46 x hv v5 v6 v7 v8 v9 v10 v11 v12 v13 v14 v15 v16 v17 v18 v19 v20 v21 v22 hv (.bool false) v25 v26 v27 v28 v29 v30 v31) [uni, pow, mxl M, wb y, R]
    else bif rem2 y.b y.d != 0 then k (.exit 2) (T46 x hv v5 v6 v7 v8 v9 v10 v11 v12 v13 v14 v15 v16 v17 v18 v19 v20 v21 v22 hv (.bool false) v25 v26 v27 v28 v29 v30 v31) [uni, pow, mxl M, wb y, R]
    else k .normal (T46 x hv v5 v6 v7 v8 v9 v10 v11 v12 v13 v14 v15 v16 v17 v18 v19 v20 v21 v22 hv (.bool true) v25 v26 v27 v28 v29 v30 v31) [uni, pow, mxl M, wb (N.dnW y), R] := by kernel_rfl

theorem mid46 {α : Type} (M : Int) (fs : Nat → Nat) (x y : N) (R : Blk) (v4 v5 v6 v7 v8 v9 v10 v11 v12 v13 v14 v15 v16 v17 v18 v19 v20 v21 v22 v23 v24 v25 v26 v27 v28 v29 v30 v31 : Value) (l : List Code) (k : Kont α) :
    evP Tryz.prog (orcL L1) (Sg1 M) 3 fs 4 (q46 4 :: l) (T46 x v4 v5 v6 v7 v8 v9 v10 v11 v12 v13 v14 v15 v16 v17 v18 v19 v20 v21 v22 v23 v24 v25 v26 v27 v28 v29 v30 v31) [uni, pow, mxl M, wb y, R] k = evP Tryz.prog (orcL L1) (Sg1 M) 3 fs 5 l (T46 x hv v5 v6 v7 v8 v9 v10 v11 v12 v13 v14 v15 v16 v17 v18 v19 v20 v21 hv v23 v24 v25 v26 v27 v28 v29 v30 v31) [uni, pow, mxl M, wb y, R] k := by kernel_rfl
theorem tail46 {α : Type} (M : Int) (fs : Nat → Nat) (x y : N) (R : N) (v5 v6 v7 v8 v9 v10 v11 v12 v13 v14 v15 v16 v17 v18 v19 v20 v21 v22 v23 v24 v25 v26 v27 v28 v29 v30 v31 : Value) (k : Kont α) :
    evP Tryz.prog (orcL L1) (Sg1 M) 3 fs 6 [q46 6, q46 7, q46 8, q46 9] (T46 x hv v5 v6 v7 v8 v9 v10 v11 v12 v13 v14 v15 v16 v17 v18 v19 v20 v21 v22 v23 v24 v25 v26 v27 v28 v29 v30 v31) [uni, pow, mxl M, wb y, rb R] k =
    bif rgB y then (bif inB y then k .ret ((T46 x hv v5 v6 v7 v8 v9 v10 v11 v12 v13 v14 v15 v16 v17 v18 v19 v20 v21 v22 v23 v24 p1 (N.v y) (.int .i64 0) (.bool false) v29 p1 (N.v y)).set 3 (.int .i64 0)) [uni, pow, mxl M, wb y, rb y] else k .ret ((T46 x hv v5 v6 v7 v8 v9 v10 v11 v12 v13 v14 v15 v16 v17 v18 v19 v20 v21 v22 v23 v24 p1 (N.v y) (.int .i64 8) (.bool true) (N.v O) v30 v31).set 3 (.int .i64 8)) [uni, pow, mxl M, wb y, rb O])
    else k .ret ((T46 x hv v5 v6 v7 v8 v9 v10 v11 v12 v13 v14 v15 v16 v17 v18 v19 v20 v21 v22 v23 v24 p1 (N.v y) (.int .i64 3) (.bool true) (N.v O) v30 v31).set 3 (.int .i64 8)) [uni, pow, mxl M, wb y, rb O] := by kernel_rfl

def N.upWL : Nat → N → N
  | 0, x => x
  | n + 1, x => bif decide (x.k < 0) && wB x then upWL n (N.upW x) else x
def N.goesW (y : N) : Bool := !(decide (y.k ≤ 0)) && (!(rem2 y.a y.c != 0) && !(rem2 y.b y.d != 0))
def N.dnWL : Nat → N → N
  | 0, x => x
  | n + 1, x => bif N.goesW x then dnWL n (N.dnW x) else x
/-- The number at work at the loops' ends. -/
def midW (x : N) : N := N.upWL (-x.k).toNat x
def endW (x : N) : N := N.dnWL (midW x).k.toNat (midW x)
def leastW (x : N) : N × Int := bif z0 x then (O, 0) else bif rgB (endW x) then (bif inB (endW x) then (endW x, 0) else (O, 8)) else (O, 8)
def resV (r : N × Int) : Value := .tuple #[N.v r.1, .int .i64 r.2]
theorem w_id {n : Int} (h1 : -9223372036854775808 ≤ n) (h2 : n ≤ 9223372036854775807) : w n = n := w_eq n h1 h2

theorem loop1 (M : Int) (x : N) (h1 : -9223372036854775808 ≤ x.k) (h2 : x.k ≤ 9223372036854775807) (L : List Value) (hL : L.length = 28) :
    Ev Tryz.prog (orcL L1) (Sg1 M) Value 3 (.loop (B46 0)) (N.v x :: p1 :: p2 :: .int .i64 0 :: L) [uni, pow, mxl M, wb x, rb O] fun e T S => e = .exit 0 ∧ (∃ L : List Value, L.length = 28 ∧ T = N.v x :: p1 :: p2 :: .int .i64 0 :: L) ∧ S = [uni, pow, mxl M, wb (midW x), rb O] ∧ -9223372036854775808 ≤ (midW x).k ∧ (midW x).k ≤ 9223372036854775807 := by
  refine Ev.loop (fun m T S => ∃ (L : List Value) (y : N), L.length = 28 ∧ T = N.v x :: p1 :: p2 :: .int .i64 0 :: L ∧ S = [uni, pow, mxl M, wb y, rb O] ∧ m = (-y.k).toNat ∧ N.upWL m y = midW x ∧ -9223372036854775808 ≤ y.k ∧ y.k ≤ 9223372036854775807) ?_ (-x.k).toNat _ _ ⟨L, x, hL, rfl, rfl, rfl, rfl, h1, h2⟩
  rintro m T S ⟨L, y, hL, rfl, rfl, rfl, hm, h1, h2⟩
  match L, hL with
  | [v4, v5, v6, v7, v8, v9, v10, v11, v12, v13, v14, v15, v16, v17, v18, v19, v20, v21, v22, v23, v24, v25, v26, v27, v28, v29, v30, v31], _ =>
  by_cases hk : y.k < 0
  · obtain ⟨n, hn⟩ : ∃ n, (-y.k).toNat = n + 1 := ⟨(-y.k).toNat - 1, by omega⟩
    rw [hn] at hm ⊢
    simp only [N.upWL, hk, decide_true, Bool.true_and] at hm
    cases hw : wB y with
    | true =>
      rw [hw] at hm
      simp only [cond_true] at hm
      refine Ev.of_eq 60 (fun n k => (up46 M n x y _ v4 v5 v6 v7 v8 v9 v10 v11 v12 v13 v14 v15 v16 v17 v18 v19 v20 v21 v22 v23 v24 v25 v26 v27 v28 v29 v30 v31 k).trans (by rw [hw, decide_eq_true hk]; rfl)) ?_
      have hk2 : (N.upW y).k = y.k + 1 := w_id (by omega) (by omega)
      exact ⟨n, Nat.lt_succ_self n, _, N.upW y, rfl, rfl, rfl, by omega, hm, by omega, by omega⟩
    | false =>
      rw [hw] at hm
      simp only [cond_false] at hm
      subst hm
      refine Ev.of_eq 60 (fun n k => (up46 M n x _ _ v4 v5 v6 v7 v8 v9 v10 v11 v12 v13 v14 v15 v16 v17 v18 v19 v20 v21 v22 v23 v24 v25 v26 v27 v28 v29 v30 v31 k).trans (by rw [hw, decide_eq_true hk]; rfl)) ?_
      exact ⟨rfl, ⟨_, rfl, rfl⟩, rfl, h1, h2⟩
  · have h0 : (-y.k).toNat = 0 := by omega
    rw [h0] at hm
    simp only [N.upWL] at hm
    subst hm
    refine Ev.of_eq 60 (fun n k => (up46 M n x _ _ v4 v5 v6 v7 v8 v9 v10 v11 v12 v13 v14 v15 v16 v17 v18 v19 v20 v21 v22 v23 v24 v25 v26 v27 v28 v29 v30 v31 k).trans (by rw [decide_eq_false hk]; rfl)) ?_
    exact ⟨rfl, ⟨_, rfl, rfl⟩, rfl, h1, h2⟩

theorem loop2 (M : Int) (x y0 : N) (h2 : y0.k ≤ 9223372036854775807) (L : List Value) (hL : L.length = 27) :
    Ev Tryz.prog (orcL L1) (Sg1 M) Value 3 (.loop (B46 1)) (N.v x :: p1 :: p2 :: .int .i64 0 :: hv :: L) [uni, pow, mxl M, wb y0, rb O] fun e T S => e = .exit 2 ∧ (∃ L : List Value, L.length = 27 ∧ T = N.v x :: p1 :: p2 :: .int .i64 0 :: hv :: L) ∧ S = [uni, pow, mxl M, wb (N.dnWL y0.k.toNat y0), rb O] := by
  refine Ev.loop (fun m T S => ∃ (L : List Value) (y : N), L.length = 27 ∧ T = N.v x :: p1 :: p2 :: .int .i64 0 :: hv :: L ∧ S = [uni, pow, mxl M, wb y, rb O] ∧ m = y.k.toNat ∧ N.dnWL m y = N.dnWL y0.k.toNat y0 ∧ y.k ≤ 9223372036854775807) ?_ y0.k.toNat _ _ ⟨L, y0, hL, rfl, rfl, rfl, rfl, h2⟩
  rintro m T S ⟨L, y, hL, rfl, rfl, rfl, hm, h2⟩
  match L, hL with
  | [v5, v6, v7, v8, v9, v10, v11, v12, v13, v14, v15, v16, v17, v18, v19, v20, v21, v22, v23, v24, v25, v26, v27, v28, v29, v30, v31], _ =>
  by_cases hk : y.k ≤ 0
  · have h0 : y.k.toNat = 0 := by omega
    rw [h0] at hm
    simp only [N.dnWL] at hm
    subst hm
    refine Ev.of_eq 60 (fun n k => (dn46 M n x _ _ v5 v6 v7 v8 v9 v10 v11 v12 v13 v14 v15 v16 v17 v18 v19 v20 v21 v22 v23 v24 v25 v26 v27 v28 v29 v30 v31 k).trans (by rw [decide_eq_true hk]; rfl)) ?_
    exact ⟨rfl, ⟨_, rfl, rfl⟩, rfl⟩
  · obtain ⟨n, hn⟩ : ∃ n, y.k.toNat = n + 1 := ⟨y.k.toNat - 1, by omega⟩
    rw [hn] at hm ⊢
    simp only [N.dnWL, N.goesW, hk, decide_false, Bool.not_false, Bool.true_and] at hm
    cases ha : (rem2 y.a y.c != 0) with
    | true =>
      rw [ha] at hm
      simp only [Bool.not_true, Bool.false_and, cond_false] at hm
      subst hm
      refine Ev.of_eq 60 (fun n k => (dn46 M n x _ _ v5 v6 v7 v8 v9 v10 v11 v12 v13 v14 v15 v16 v17 v18 v19 v20 v21 v22 v23 v24 v25 v26 v27 v28 v29 v30 v31 k).trans (by rw [decide_eq_false hk, ha]; rfl)) ?_
      exact ⟨rfl, ⟨_, rfl, rfl⟩, rfl⟩
    | false =>
      cases hb : (rem2 y.b y.d != 0) with
      | true =>
        rw [ha, hb] at hm
        simp only [Bool.not_true, Bool.not_false, Bool.and_false, cond_false] at hm
        subst hm
        refine Ev.of_eq 60 (fun n k => (dn46 M n x _ _ v5 v6 v7 v8 v9 v10 v11 v12 v13 v14 v15 v16 v17 v18 v19 v20 v21 v22 v23 v24 v25 v26 v27 v28 v29 v30 v31 k).trans (by rw [decide_eq_false hk, ha, hb]; rfl)) ?_
        exact ⟨rfl, ⟨_, rfl, rfl⟩, rfl⟩
      | false =>
        rw [ha, hb] at hm
        simp only [Bool.not_false, Bool.and_true, cond_true] at hm
        refine Ev.of_eq 60 (fun n k => (dn46 M n x y _ v5 v6 v7 v8 v9 v10 v11 v12 v13 v14 v15 v16 v17 v18 v19 v20 v21 v22 v23 v24 v25 v26 v27 v28 v29 v30 v31 k).trans (by rw [decide_eq_false hk, ha, hb]; rfl)) ?_
        have hk2 : (N.dnW y).k = y.k - 1 := w_id (by omega) (by omega)
        exact ⟨n, Nat.lt_succ_self n, _, N.dnW y, rfl, rfl, rfl, by omega, hm, by omega⟩

theorem tmps46 (x : N) : tmps0Of Tryz.prog 84 [N.v x] = N.v x :: List.replicate 31 undef := by kernel_rfl
theorem out46 (x y : N) (e : Int) (L : List Value) (b0 b1 b2 b3 : Blk) : outOf Tryz.prog 84 (N.v x :: p1 :: p2 :: .int .i64 e :: L) [b0, b1, b2, b3, rb y] = some (resV (y, e)) := by kernel_rfl

end Go.Proofs.YtihccnfaibiiiaaGreatDoor.R
/- Ring: the least form, whole. -/
namespace Go.Proofs.YtihccnfaibiiiaaGreatDoor.R
open Go Go.Proofs.XX.Vm Go.Proofs.XX.Rm
set_option maxRecDepth 100000
theorem condT {α : Type} {b : Bool} {x y : α} (h : b = true) : (bif b then x else y) = x := by subst h; rfl
theorem condF {α : Type} {b : Bool} {x y : α} (h : b = false) : (bif b then x else y) = y := by subst h; rfl

theorem e46 (M : Int) (x : N) (h1 : -9223372036854775808 ≤ x.k) (h2 : x.k ≤ 9223372036854775807) : EvF Tryz.prog (orcL L1) (Sg1 M) 84 [N.v x] (resV (leastW x)) := by
  refine EvF.of_body rfl ?_
  rw [tmps46]
  show Ev Tryz.prog (orcL L1) (Sg1 M) Value 3 _ _ _ _
  refine Ev.of_pieces ?_
  rw [show flatC (bodyOf Tryz.prog 84) = _ from L46_eq]
  cases hz : z0 x with
  | true =>
    refine EvP.stop (fun fs k => (head46 M fs x _ k).trans (condT hz)) ⟨trivial, ?_⟩
    unfold leastW
    rw [hz]
    exact out46 x O 0 _ _ _ _ _
  | false =>
    refine EvP.run (fun fs k => (head46 M fs x _ k).trans (condF hz)) ?_
    refine EvP.step (Ev.block ((loop1 M x h1 h2 _ rfl).mono ?_))
    rintro e T S ⟨rfl, ⟨L, hL, rfl⟩, rfl, h3, h4⟩
    match L, hL with
    | [v4, v5, v6, v7, v8, v9, v10, v11, v12, v13, v14, v15, v16, v17, v18, v19, v20, v21, v22, v23, v24, v25, v26, v27, v28, v29, v30, v31], _ =>
    refine EvP.run (fun fs k => mid46 M fs x _ _ v4 v5 v6 v7 v8 v9 v10 v11 v12 v13 v14 v15 v16 v17 v18 v19 v20 v21 v22 v23 v24 v25 v26 v27 v28 v29 v30 v31 _ k) ?_
    refine EvP.step (Ev.block ((loop2 M x (midW x) h4 _ rfl).mono ?_))
    rintro e T S ⟨rfl, ⟨L, hL, rfl⟩, rfl⟩
    match L, hL with
    | [v5, v6, v7, v8, v9, v10, v11, v12, v13, v14, v15, v16, v17, v18, v19, v20, v21, v22, v23, v24, v25, v26, v27, v28, v29, v30, v31], _ =>
    have hl : leastW x = bif rgB (endW x) then (bif inB (endW x) then (endW x, 0) else (O, 8)) else (O, 8) := by unfold leastW; rw [hz]; rfl
    cases h1 : rgB (endW x) with
    | false =>
      refine EvP.stop (fun fs k => (tail46 M fs x _ _ v5 v6 v7 v8 v9 v10 v11 v12 v13 v14 v15 v16 v17 v18 v19 v20 v21 v22 v23 v24 v25 v26 v27 v28 v29 v30 v31 k).trans (condF h1)) ⟨trivial, ?_⟩
      rw [hl, h1]
      exact out46 x O 8 _ _ _ _ _
    | true =>
      cases h2 : inB (endW x) with
      | false =>
        refine EvP.stop (fun fs k => (tail46 M fs x _ _ v5 v6 v7 v8 v9 v10 v11 v12 v13 v14 v15 v16 v17 v18 v19 v20 v21 v22 v23 v24 v25 v26 v27 v28 v29 v30 v31 k).trans ((condT h1).trans (condF h2))) ⟨trivial, ?_⟩
        rw [hl, h1, h2]
        exact out46 x O 8 _ _ _ _ _
      | true =>
        refine EvP.stop (fun fs k => (tail46 M fs x _ _ v5 v6 v7 v8 v9 v10 v11 v12 v13 v14 v15 v16 v17 v18 v19 v20 v21 v22 v23 v24 v25 v26 v27 v28 v29 v30 v31 k).trans ((condT h1).trans (condT h2))) ⟨trivial, ?_⟩
        rw [hl, h1, h2]
        exact out46 x (endW x) 0 _ _ _ _ _
end Go.Proofs.YtihccnfaibiiiaaGreatDoor.R
/- The contracts of the library that this program can use, laid at it. -/
namespace Go.Proofs
open Go.Shelf
def Tryz.lays170_ren : Go.Shelf.Ren := ⟨fun | 170 => 98 | n => n, fun | 70 => 86 | 3 => 3 | 0 => 0 | 72 => 89 | 37 => 87 | 5 => 5 | n => n, fun | n => n⟩
theorem Tryz.lays170 : Go.Proofs.Lays.n170 Tryz.prog Tryz.lays170_ren := {
  mixed := by kernel_rfl
  f170 := Tryz.func98.trans (congrArg some (by kernel_rfl))
  t0 := Tryz.underlying0
  a0 := Tryz.isAgg0
  z0 := Tryz.sizeOf0
  v0 := Tryz.zeroValue0
  t3 := Tryz.underlying3
  a3 := Tryz.isAgg3
  z3 := Tryz.sizeOf3
  v3 := Tryz.zeroValue3
  t37 := Tryz.underlying87
  a37 := Tryz.isAgg87
  z37 := Tryz.sizeOf87
  v37 := Tryz.zeroValue87
  t70 := Tryz.underlying86
  a70 := Tryz.isAgg86
  z70 := Tryz.sizeOf86
  v70 := Tryz.zeroValue86
  t72 := Tryz.underlying89
  a72 := Tryz.isAgg89
  z72 := Tryz.sizeOf89
  v72 := Tryz.zeroValue89 }
open Go.RowKit in
theorem Tryz.Builder_Len (B b : Nat) (bs : List Value) (w : World) (h : Lib.IsBuilder 89 5 B b bs w) :
    Calls Tryz.prog 98 #[.pointer (some ⟨b, 0, none⟩)] w fun e w' => e = .returned (.int .i64 bs.length) ∧ w' = w := Any.Builder_Len Tryz.lays170 B b bs w h
def Tryz.lays169_ren : Go.Shelf.Ren := ⟨fun | 169 => 102 | n => n, fun | 70 => 86 | 9 => 9 | 0 => 0 | 72 => 89 | 37 => 87 | 127 => 118 | 3 => 3 | 5 => 5 | n => n, fun | n => n⟩
theorem Tryz.lays169 : Go.Proofs.Lays.n169 Tryz.prog Tryz.lays169_ren := {
  mixed := by kernel_rfl
  f169 := Tryz.func102.trans (congrArg some (by kernel_rfl))
  t0 := Tryz.underlying0
  a0 := Tryz.isAgg0
  z0 := Tryz.sizeOf0
  v0 := Tryz.zeroValue0
  t3 := Tryz.underlying3
  a3 := Tryz.isAgg3
  z3 := Tryz.sizeOf3
  v3 := Tryz.zeroValue3
  t9 := Tryz.underlying9
  a9 := Tryz.isAgg9
  z9 := Tryz.sizeOf9
  v9 := Tryz.zeroValue9
  t37 := Tryz.underlying87
  a37 := Tryz.isAgg87
  z37 := Tryz.sizeOf87
  v37 := Tryz.zeroValue87
  t70 := Tryz.underlying86
  a70 := Tryz.isAgg86
  z70 := Tryz.sizeOf86
  v70 := Tryz.zeroValue86
  t72 := Tryz.underlying89
  a72 := Tryz.isAgg89
  z72 := Tryz.sizeOf89
  v72 := Tryz.zeroValue89
  t127 := Tryz.underlying118
  a127 := Tryz.isAgg118
  z127 := Tryz.sizeOf118
  v127 := Tryz.zeroValue118 }
theorem Tryz.Builder_Extra_169 : Builder.Extra Tryz.prog Tryz.lays169_ren := {
  sizeBuilder := by kernel_rfl
  liesBuilder := by kernel_rfl
  t5 := Tryz.underlying5
  a5 := Tryz.isAgg5
  z5 := Tryz.sizeOf5
  v5 := Tryz.zeroValue5
  infoByte := by kernel_rfl
  cellsByte := by kernel_rfl
  sizeByte := by kernel_rfl
  neB5 := by decide }
open Go.RowKit in
theorem Tryz.Builder_String_any (B b : Nat) (l : List UInt8) (w : World) (h : Lib.IsBuilder 89 5 B b (Lib.byteCells l) w) (hBw : B ≤ w.heap.size) :
    Calls Tryz.prog 102 #[.pointer (some ⟨b, 0, none⟩)] w fun e w' => e = .returned (.string ⟨l.toArray⟩) ∧ Below B w w' := Any.Builder_String_any Tryz.lays169 Tryz.Builder_Extra_169 B b l w h hBw
def Tryz.lays125_ren : Go.Shelf.Ren := ⟨fun | 125 => 118 | 128 => 127 | 129 => 128 | n => n, fun | 46 => 101 | 3 => 3 | 51 => 132 | 53 => 126 | 4 => 4 | 5 => 5 | 9 => 9 | n => n, fun | n => n⟩
theorem Tryz.lays125 : Go.Proofs.Lays.n125 Tryz.prog Tryz.lays125_ren := {
  mixed := by kernel_rfl
  f125 := Tryz.func118.trans (congrArg some (by kernel_rfl))
  f128 := Tryz.func127.trans (congrArg some (by kernel_rfl))
  f129 := Tryz.func128.trans (congrArg some (by kernel_rfl))
  t3 := Tryz.underlying3
  a3 := Tryz.isAgg3
  z3 := Tryz.sizeOf3
  v3 := Tryz.zeroValue3
  t4 := Tryz.underlying4
  a4 := Tryz.isAgg4
  z4 := Tryz.sizeOf4
  v4 := Tryz.zeroValue4
  t5 := Tryz.underlying5
  a5 := Tryz.isAgg5
  z5 := Tryz.sizeOf5
  v5 := Tryz.zeroValue5
  t9 := Tryz.underlying9
  a9 := Tryz.isAgg9
  z9 := Tryz.sizeOf9
  v9 := Tryz.zeroValue9
  t46 := Tryz.underlying101
  a46 := Tryz.isAgg101
  z46 := Tryz.sizeOf101
  v46 := Tryz.zeroValue101
  t51 := Tryz.underlying132
  a51 := Tryz.isAgg132
  z51 := Tryz.sizeOf132
  v51 := Tryz.zeroValue132
  t53 := Tryz.underlying126
  a53 := Tryz.isAgg126
  z53 := Tryz.sizeOf126
  v53 := Tryz.zeroValue126 }
theorem Tryz.bits_Len (x : Int) (w : World) (h0 : 0 ≤ x) (h1 : x ≤ 18446744073709551615) :
    Calls Tryz.prog 118 #[.int .u64 x] w fun e w' => e = .returned (.int .i64 (Lib.bitLen x.toNat)) ∧ w' = w := Any.bits_Len Tryz.lays125 x w h0 h1
def Tryz.lays103_ren : Go.Shelf.Ren := ⟨fun | 103 => 111 | 210 => 119 | 206 => 129 | n => n, fun | 9 => 9 | 4 => 4 | 24 => 110 | 3 => 3 | n => n, fun | n => n⟩
theorem Tryz.lays103 : Go.Proofs.Lays.n103 Tryz.prog Tryz.lays103_ren := {
  mixed := by kernel_rfl
  f103 := Tryz.func111.trans (congrArg some (by kernel_rfl))
  f206 := Tryz.func129.trans (congrArg some (by kernel_rfl))
  f210 := Tryz.func119.trans (congrArg some (by kernel_rfl))
  t3 := Tryz.underlying3
  a3 := Tryz.isAgg3
  z3 := Tryz.sizeOf3
  v3 := Tryz.zeroValue3
  t4 := Tryz.underlying4
  a4 := Tryz.isAgg4
  z4 := Tryz.sizeOf4
  v4 := Tryz.zeroValue4
  t9 := Tryz.underlying9
  a9 := Tryz.isAgg9
  z9 := Tryz.sizeOf9
  v9 := Tryz.zeroValue9
  t24 := Tryz.underlying110
  a24 := Tryz.isAgg110
  z24 := Tryz.sizeOf110
  v24 := Tryz.zeroValue110 }
open Go.RowKit in
theorem Tryz.strings_CutPrefix (s p : ByteArray) (w : World) :
    Calls Tryz.prog 111 #[.string s, .string p] w fun e w' => e = .returned (.tuple #[.string ⟨(Lib.trimPrefix s.data.toList p.data.toList).toArray⟩, .bool (Lib.hasPrefix s.data.toList p.data.toList)]) ∧ w' = w := Any.strings_CutPrefix Tryz.lays103 s p w
def Tryz.laysM171_ren : Go.Shelf.Ren := ⟨fun | 171 => 76 | 243 => 103 | 246 => 116 | 283 => 123 | 284 => 124 | 285 => 125 | 286 => 126 | 129 => 128 | 317 => 132 | 318 => 133 | 319 => 134 | 320 => 135 | 337 => 140 | 338 => 141 | n => n, fun | 3 => 3 | 9 => 9 | 2 => 2 | 4 => 4 | 171 => 125 | 0 => 0 | 53 => 126 | 37 => 87 | 5 => 5 | 173 => 129 | 212 => 136 | 51 => 132 | 20 => 20 | 213 => 137 | 46 => 101 | 232 => 141 | 233 => 142 | n => n, fun | 17 => 1 | 18 => 3 | 19 => 4 | n => n⟩
theorem Tryz.laysM171 : Go.Proofs.LaysM.n171 Tryz.prog Tryz.laysM171_ren := {
  mixed := by kernel_rfl
  f129 := Tryz.func128.trans (congrArg some (by kernel_rfl))
  f171 := Tryz.func76.trans (congrArg some (by kernel_rfl))
  f243 := Tryz.func103.trans (congrArg some (by kernel_rfl))
  f246 := Tryz.func116.trans (congrArg some (by kernel_rfl))
  f283 := Tryz.func123.trans (congrArg some (by kernel_rfl))
  f284 := Tryz.func124.trans (congrArg some (by kernel_rfl))
  f285 := Tryz.func125.trans (congrArg some (by kernel_rfl))
  f286 := Tryz.func126.trans (congrArg some (by kernel_rfl))
  f317 := Tryz.func132.trans (congrArg some (by kernel_rfl))
  f318 := Tryz.func133.trans (congrArg some (by kernel_rfl))
  f319 := Tryz.func134.trans (congrArg some (by kernel_rfl))
  f320 := Tryz.func135.trans (congrArg some (by kernel_rfl))
  f337 := Tryz.func140.trans (congrArg some (by kernel_rfl))
  f338 := Tryz.func141.trans (congrArg some (by kernel_rfl))
  t0 := Tryz.underlying0
  a0 := Tryz.isAgg0
  z0 := Tryz.sizeOf0
  v0 := Tryz.zeroValue0
  t2 := Tryz.underlying2
  a2 := Tryz.isAgg2
  z2 := Tryz.sizeOf2
  v2 := Tryz.zeroValue2
  t3 := Tryz.underlying3
  a3 := Tryz.isAgg3
  z3 := Tryz.sizeOf3
  v3 := Tryz.zeroValue3
  t4 := Tryz.underlying4
  a4 := Tryz.isAgg4
  z4 := Tryz.sizeOf4
  v4 := Tryz.zeroValue4
  t5 := Tryz.underlying5
  a5 := Tryz.isAgg5
  z5 := Tryz.sizeOf5
  v5 := Tryz.zeroValue5
  t9 := Tryz.underlying9
  a9 := Tryz.isAgg9
  z9 := Tryz.sizeOf9
  v9 := Tryz.zeroValue9
  t20 := Tryz.underlying20
  a20 := Tryz.isAgg20
  z20 := Tryz.sizeOf20
  v20 := Tryz.zeroValue20
  t37 := Tryz.underlying87
  a37 := Tryz.isAgg87
  z37 := Tryz.sizeOf87
  v37 := Tryz.zeroValue87
  t46 := Tryz.underlying101
  a46 := Tryz.isAgg101
  z46 := Tryz.sizeOf101
  v46 := Tryz.zeroValue101
  t51 := Tryz.underlying132
  a51 := Tryz.isAgg132
  z51 := Tryz.sizeOf132
  v51 := Tryz.zeroValue132
  t53 := Tryz.underlying126
  a53 := Tryz.isAgg126
  z53 := Tryz.sizeOf126
  v53 := Tryz.zeroValue126
  t171 := Tryz.underlying125
  a171 := Tryz.isAgg125
  z171 := Tryz.sizeOf125
  v171 := Tryz.zeroValue125
  t173 := Tryz.underlying129
  a173 := Tryz.isAgg129
  z173 := Tryz.sizeOf129
  v173 := Tryz.zeroValue129
  t212 := Tryz.underlying136
  a212 := Tryz.isAgg136
  z212 := Tryz.sizeOf136
  v212 := Tryz.zeroValue136
  t213 := Tryz.underlying137
  a213 := Tryz.isAgg137
  z213 := Tryz.sizeOf137
  t232 := Tryz.underlying141
  a232 := Tryz.isAgg141
  z232 := Tryz.sizeOf141
  v232 := Tryz.zeroValue141
  t233 := Tryz.underlying142
  a233 := Tryz.isAgg142
  z233 := Tryz.sizeOf142
  v233 := Tryz.zeroValue142
  g17 := by kernel_rfl
  g18 := by kernel_rfl
  g19 := by kernel_rfl
  i0 := by kernel_rfl
  i2 := by kernel_rfl
  i3 := by kernel_rfl
  i4 := by kernel_rfl
  i5 := by kernel_rfl
  i9 := by kernel_rfl
  i20 := by kernel_rfl
  i37 := by kernel_rfl
  i46 := by kernel_rfl
  i51 := by kernel_rfl
  i53 := by kernel_rfl
  i171 := by kernel_rfl
  i173 := by kernel_rfl
  i212 := by kernel_rfl
  i232 := by kernel_rfl
  i233 := by kernel_rfl
  m17 := by kernel_rfl
  m18 := by kernel_rfl
  m19 := by kernel_rfl }
open Go.RowKit Go.Sort Go.Lib in
theorem Tryz.strconv_Itoa (n : Int) (h0 : -9223372036854775808 ≤ n) (h1 : n ≤ 9223372036854775807) (w : World) (htab : Lib.TabIs Tryz.prog w "internal/strconv.uint64pow10" .u64 Lib.pow10Tab) :
    Calls Tryz.prog 76 #[.int .i64 n] w fun e w' => e = .returned (.string ⟨(Lib.itoa n).toArray⟩) ∧ ∃ k os, w' = grow (w.drewN k) os := Any.strconv_Itoa Tryz.laysM171 n h0 h1 w htab
def Tryz.lays145_ren : Go.Shelf.Ren := ⟨fun | 145 => 113 | 220 => 121 | 219 => 131 | 217 => 136 | 225 => 137 | 224 => 138 | 267 => 139 | 266 => 142 | 314 => 143 | n => n, fun | 9 => 9 | 4 => 4 | 59 => 114 | 3 => 3 | 5 => 5 | 46 => 101 | 146 => 139 | 51 => 132 | n => n, fun | 1 => 2 | n => n⟩
theorem Tryz.lays145 : Go.Proofs.Lays.n145 Tryz.prog Tryz.lays145_ren := {
  mixed := by kernel_rfl
  f145 := Tryz.func113.trans (congrArg some (by kernel_rfl))
  f217 := Tryz.func136.trans (congrArg some (by kernel_rfl))
  f219 := Tryz.func131.trans (congrArg some (by kernel_rfl))
  f220 := Tryz.func121.trans (congrArg some (by kernel_rfl))
  f224 := Tryz.func138.trans (congrArg some (by kernel_rfl))
  f225 := Tryz.func137.trans (congrArg some (by kernel_rfl))
  f266 := Tryz.func142.trans (congrArg some (by kernel_rfl))
  f267 := Tryz.func139.trans (congrArg some (by kernel_rfl))
  f314 := Tryz.func143.trans (congrArg some (by kernel_rfl))
  t3 := Tryz.underlying3
  a3 := Tryz.isAgg3
  z3 := Tryz.sizeOf3
  v3 := Tryz.zeroValue3
  t4 := Tryz.underlying4
  a4 := Tryz.isAgg4
  z4 := Tryz.sizeOf4
  v4 := Tryz.zeroValue4
  t5 := Tryz.underlying5
  a5 := Tryz.isAgg5
  z5 := Tryz.sizeOf5
  v5 := Tryz.zeroValue5
  t9 := Tryz.underlying9
  a9 := Tryz.isAgg9
  z9 := Tryz.sizeOf9
  v9 := Tryz.zeroValue9
  t46 := Tryz.underlying101
  a46 := Tryz.isAgg101
  z46 := Tryz.sizeOf101
  v46 := Tryz.zeroValue101
  t51 := Tryz.underlying132
  a51 := Tryz.isAgg132
  z51 := Tryz.sizeOf132
  v51 := Tryz.zeroValue132
  t59 := Tryz.underlying114
  a59 := Tryz.isAgg114
  z59 := Tryz.sizeOf114
  v59 := Tryz.zeroValue114
  t146 := Tryz.underlying139
  a146 := Tryz.isAgg139
  z146 := Tryz.sizeOf139
  v146 := Tryz.zeroValue139
  g1 := by kernel_rfl }
open Go.RowKit Go.Lib in
theorem Tryz.strings_Cut (s sep : ByteArray) (m : Int) (w : World) (hs : s.size < 4294967281) (hm : w.cell? ⟨2, 0, none⟩ = some (.int .i64 m)) :
    Calls Tryz.prog 113 #[.string s, .string sep] w fun e w' => e = .returned (.tuple #[.string ⟨(Lib.cut s.data.toList sep.data.toList).1.toArray⟩, .string ⟨(Lib.cut s.data.toList sep.data.toList).2.1.toArray⟩, .bool (Lib.cut s.data.toList sep.data.toList).2.2]) ∧ ∃ n, w' = w.drewN n := Any.strings_Cut Tryz.lays145 s sep m w hs hm
def Tryz.lays99_ren : Go.Shelf.Ren := ⟨fun | 99 => 130 | 206 => 129 | n => n, fun | 9 => 9 | 4 => 4 | 3 => 3 | n => n, fun | n => n⟩
theorem Tryz.lays99 : Go.Proofs.Lays.n99 Tryz.prog Tryz.lays99_ren := {
  mixed := by kernel_rfl
  f99 := Tryz.func130.trans (congrArg some (by kernel_rfl))
  f206 := Tryz.func129.trans (congrArg some (by kernel_rfl))
  t3 := Tryz.underlying3
  a3 := Tryz.isAgg3
  z3 := Tryz.sizeOf3
  v3 := Tryz.zeroValue3
  t4 := Tryz.underlying4
  a4 := Tryz.isAgg4
  z4 := Tryz.sizeOf4
  v4 := Tryz.zeroValue4
  t9 := Tryz.underlying9
  a9 := Tryz.isAgg9
  z9 := Tryz.sizeOf9
  v9 := Tryz.zeroValue9 }
open Go.RowKit Go.Lib in
theorem Tryz.strings_HasPrefix (s p : ByteArray) (w : World) :
    Calls Tryz.prog 130 #[.string s, .string p] w fun e w' => e = .returned (.bool (Lib.hasPrefix s.data.toList p.data.toList)) ∧ w' = w := Any.strings_HasPrefix Tryz.lays99 s p w
end Go.Proofs
