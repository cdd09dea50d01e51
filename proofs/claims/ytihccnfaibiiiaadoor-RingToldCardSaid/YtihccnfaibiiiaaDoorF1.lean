/- Ring, plain mathematics: quotients. -/
import Derived.Test.YtihccnfaibiiiaaDoorRM3
namespace Go.Proofs.XX.Rm
open Go

theorem bd_mul {a p A B : Int} (h1 : -A ≤ a) (h2 : a ≤ A) (h3 : -B ≤ p) (h4 : p ≤ B) : -(A * B) ≤ a * p ∧ a * p ≤ A * B := by
  have ha : a.natAbs ≤ A.natAbs := by omega
  have hp : p.natAbs ≤ B.natAbs := by omega
  have h := Nat.mul_le_mul ha hp
  have e : (a * p).natAbs = a.natAbs * p.natAbs := Int.natAbs_mul a p
  have e2 : (A * B).natAbs = A.natAbs * B.natAbs := Int.natAbs_mul A B
  have h5 : 0 ≤ A * B := Int.mul_nonneg (by omega) (by omega)
  omega
theorem N.In.mul {x y : N} {A B : Int} (hx : x.In A) (hy : y.In B) : (x.mul y).In (4 * (A * B)) := by
  obtain ⟨a1, a2, b1, b2, c1, c2, d1, d2⟩ := hx
  obtain ⟨p1, p2, q1, q2, r1, r2, s1, s2⟩ := hy
  have aa := bd_mul a1 a2 p1 p2
  have ab := bd_mul a1 a2 q1 q2
  have ac := bd_mul a1 a2 r1 r2
  have ad := bd_mul a1 a2 s1 s2
  have ba := bd_mul b1 b2 p1 p2
  have bb := bd_mul b1 b2 q1 q2
  have bc := bd_mul b1 b2 r1 r2
  have bd := bd_mul b1 b2 s1 s2
  have ca := bd_mul c1 c2 p1 p2
  have cb := bd_mul c1 c2 q1 q2
  have cc := bd_mul c1 c2 r1 r2
  have cd := bd_mul c1 c2 s1 s2
  have da := bd_mul d1 d2 p1 p2
  have db := bd_mul d1 d2 q1 q2
  have dc := bd_mul d1 d2 r1 r2
  have dd := bd_mul d1 d2 s1 s2
  constructor <;> simp only [N.mul] <;> omega
theorem N.mul_assoc (x y z : N) : (x.mul y).mul z = x.mul (y.mul z) := by
  ext <;> simp only [N.mul] <;> grind
theorem N.In.conj {x : N} {A : Int} (hx : x.In A) : x.conj.In A := by
  obtain ⟨a1, a2, b1, b2, c1, c2, d1, d2⟩ := hx
  constructor <;> simp only [N.conj] <;> omega
theorem N.In.alt {x : N} {A : Int} (hx : x.In A) : x.alt.In A := by
  obtain ⟨a1, a2, b1, b2, c1, c2, d1, d2⟩ := hx
  constructor <;> simp only [N.alt] <;> omega
/-- The number that y times becomes a whole number, and that whole number. -/
def N.nrm (y : N) : N := y.mul y.conj
def N.oth (y : N) : N := y.conj.mul y.nrm.alt
def N.bel (y : N) : Int := (y.nrm.mul y.nrm.alt).a
/-- No square is twice a square. -/
theorem sq_two : ∀ (n : Nat) (a b : Int), a.natAbs ≤ n → a * a = 2 * (b * b) → a = 0 := by
  intro n
  induction n using Nat.strongRecOn with
  | ind n ih =>
    intro a b hn h
    by_cases h0 : a = 0
    · exact h0
    exfalso
    have ev : a % 2 = 0 := by
      by_cases e : a % 2 = 0
      · exact e
      exfalso
      obtain ⟨k, hk⟩ : ∃ k, a = 2 * k + 1 := ⟨a / 2, by omega⟩
      rw [hk] at h
      have : (2 * k + 1) * (2 * k + 1) = 2 * (2 * (k * k) + 2 * k) + 1 := by grind
      omega
    obtain ⟨k, hk⟩ : ∃ k, a = 2 * k := ⟨a / 2, by omega⟩
    have h2 : b * b = 2 * (k * k) := by
      rw [hk] at h
      have : 2 * k * (2 * k) = 4 * (k * k) := by grind
      omega
    have ev2 : b % 2 = 0 := by
      by_cases e : b % 2 = 0
      · exact e
      exfalso
      obtain ⟨j, hj⟩ : ∃ j, b = 2 * j + 1 := ⟨b / 2, by omega⟩
      rw [hj] at h2
      have : (2 * j + 1) * (2 * j + 1) = 2 * (2 * (j * j) + 2 * j) + 1 := by grind
      omega
    obtain ⟨j, hj⟩ : ∃ j, b = 2 * j := ⟨b / 2, by omega⟩
    have h3 : k * k = 2 * (j * j) := by
      rw [hj] at h2
      have : 2 * j * (2 * j) = 4 * (j * j) := by grind
      omega
    have hk0 := ih k.natAbs (by omega) k j (Nat.le_refl _) h3
    omega
theorem N.bel_eq (y : N) : y.bel = (y.a * y.a - y.c * y.c + 2 * (y.b * y.d)) * (y.a * y.a - y.c * y.c + 2 * (y.b * y.d)) + (2 * (y.a * y.c) - y.b * y.b + y.d * y.d) * (2 * (y.a * y.c) - y.b * y.b + y.d * y.d) := by
  simp only [N.bel, N.nrm, N.mul, N.conj, N.alt]; grind
theorem sq_nonneg (a : Int) : 0 ≤ a * a := by
  rcases Int.le_total 0 a with h | h
  · exact Int.mul_nonneg h h
  · exact Int.mul_nonneg_of_nonpos_of_nonpos h h
theorem N.bel_eq2 (y : N) : y.bel = (y.a * y.a + y.b * y.b + y.c * y.c + y.d * y.d) * (y.a * y.a + y.b * y.b + y.c * y.c + y.d * y.d) - 2 * ((y.a * y.b + y.b * y.c + y.c * y.d - y.d * y.a) * (y.a * y.b + y.b * y.c + y.c * y.d - y.d * y.a)) := by
  simp only [N.bel, N.nrm, N.mul, N.conj, N.alt]; grind
theorem sq_zero {a : Int} (h : a * a = 0) : a = 0 := by
  rcases Int.mul_eq_zero.1 h with h | h <;> exact h
theorem N.bel_pos {y : N} (h : y.zero = false) : 0 < y.bel := by
  have h1 : 0 ≤ y.bel := by
    rw [N.bel_eq]
    have e1 := sq_nonneg (y.a * y.a - y.c * y.c + 2 * (y.b * y.d))
    have e2 := sq_nonneg (2 * (y.a * y.c) - y.b * y.b + y.d * y.d)
    omega
  rcases Int.lt_or_eq_of_le h1 with h2 | h2
  · exact h2
  exfalso
  rw [N.bel_eq2] at h2
  have h3 := sq_two _ (y.a * y.a + y.b * y.b + y.c * y.c + y.d * y.d) (y.a * y.b + y.b * y.c + y.c * y.d - y.d * y.a) (Nat.le_refl _) (by omega)
  have ga := sq_nonneg y.a
  have gb := sq_nonneg y.b
  have gc := sq_nonneg y.c
  have gd := sq_nonneg y.d
  have za := sq_zero (a := y.a) (by omega)
  have zb := sq_zero (a := y.b) (by omega)
  have zc := sq_zero (a := y.c) (by omega)
  have zd := sq_zero (a := y.d) (by omega)
  have : y.zero = true := by simp only [N.zero, za, zb, zc, zd]; rfl
  rw [h] at this; cases this
theorem N.bel_le {y : N} (h : y.In 4096) : y.bel ≤ 18014398509481984 := by
  have h1 : y.nrm.In 67108864 := (h.mul h.conj).mono (by omega)
  have h2 := (h1.mul h1.alt).a2
  simp only [N.bel]
  omega
/-- The odd part, and how often it could be halved. -/
def oddL : Nat → Int → Int × Nat
  | 0, n => (n, 0)
  | r + 1, n => if n % 2 = 0 then ((oddL r (n / 2)).1, (oddL r (n / 2)).2 + 1) else (n, 0)
theorem oddL_odd : ∀ (r : Nat) (n : Int), 0 < n → n < 2 ^ r → (oddL r n).1 % 2 = 1
  | 0, n => by intro h1 h2; simp only [Int.pow_zero] at h2; omega
  | r + 1, n => by
    intro h1 h2
    rw [Int.pow_succ] at h2
    simp only [oddL]
    by_cases e : n % 2 = 0
    · rw [if_pos e]; exact oddL_odd r (n / 2) (by omega) (by omega)
    · rw [if_neg e]; show n % 2 = 1; omega
theorem oddL_more : ∀ (r s : Nat) (n : Int), 0 < n → n < 2 ^ r → r ≤ s → oddL s n = oddL r n
  | 0, s, n => by intro h1 h2; simp only [Int.pow_zero] at h2; omega
  | r + 1, 0, n => by intro _ _ h; omega
  | r + 1, s + 1, n => by
    intro h1 h2 h3
    rw [Int.pow_succ] at h2
    simp only [oddL]
    by_cases e : n % 2 = 0
    · rw [if_pos e, if_pos e, oddL_more r s (n / 2) (by omega) (by omega) (by omega)]
    · rw [if_neg e, if_neg e]
theorem oddL_pos : ∀ (r : Nat) (n : Int), 0 < n → n < 2 ^ r → 0 < (oddL r n).1 ∧ (oddL r n).1 ≤ n ∧ (oddL r n).2 ≤ r
  | 0, n => by intro h1 h2; simp only [Int.pow_zero] at h2; omega
  | r + 1, n => by
    intro h1 h2
    rw [Int.pow_succ] at h2
    simp only [oddL]
    by_cases e : n % 2 = 0
    · rw [if_pos e]
      obtain ⟨g1, g2, g3⟩ := oddL_pos r (n / 2) (by omega) (by omega)
      exact ⟨g1, by show (oddL r (n / 2)).1 ≤ n; omega, by show (oddL r (n / 2)).2 + 1 ≤ r + 1; omega⟩
    · rw [if_neg e]; exact ⟨h1, Int.le_refl _, Nat.zero_le _⟩
end Go.Proofs.XX.Rm
