/- Ring: the order of real numbers, as plain mathematics: what is less than 0 stays so in sums. -/
import Derived.Test.YtonjnnjnojmpjaaDoorT5
namespace Go.Proofs.YtonjnnjnojmpjaaDoor.R
open Go Go.Proofs.XX.Vm Go.Proofs.XX.Rm Go.RowKit
set_option maxRecDepth 100000

theorem sgn2_lt {n : Int} (h : n < 0) : sgn2 n = -(n * n) := by unfold sgn2; rw [decide_eq_true h]; rfl
theorem sgn2_ge {n : Int} (h : 0 ≤ n) : sgn2 n = n * n := by unfold sgn2; rw [decide_eq_false (by omega)]; rfl
theorem sq_le {a b : Int} (h0 : 0 ≤ a) (h : a ≤ b) : a * a ≤ b * b := Int.mul_le_mul h h h0 (by omega)
theorem sq_lt {a b : Int} (h0 : 0 ≤ a) (h : a < b) : a * a < b * b := by
  have h1 : a * a ≤ a * b := Int.mul_le_mul_of_nonneg_left (by omega) h0
  have h2 : a * b < b * b := Int.mul_lt_mul_of_pos_right h (by omega)
  omega
theorem gtAdd {u v m b : Int} (hu : 0 ≤ u) (_ : 0 ≤ v) (hm : 0 ≤ m) (_ : 0 ≤ b) (h1 : 2 * (v * v) ≤ u * u) (h2 : 2 * (b * b) < m * m) : 2 * ((v + b) * (v + b)) < (u + m) * (u + m) := by
  have h3 : 2 * (v * b) ≤ u * m := by
    refine Int.not_lt.1 fun h => ?_
    have a := sq_lt (Int.mul_nonneg hu hm) h
    have vv := sq_nonneg v; have bb := sq_nonneg b; have uu := sq_nonneg u
    have c : (2 * (v * v)) * (2 * (b * b)) ≤ (u * u) * (m * m) := Int.mul_le_mul h1 (by omega) (by omega) uu
    have e1 : (u * m) * (u * m) = (u * u) * (m * m) := by grind
    have e2 : (2 * (v * b)) * (2 * (v * b)) = (2 * (v * v)) * (2 * (b * b)) := by grind
    omega
  have e1 : (u + m) * (u + m) = u * u + 2 * (u * m) + m * m := by grind
  have e2 : (v + b) * (v + b) = v * v + 2 * (v * b) + b * b := by grind
  omega
theorem ltAdd {u v c e : Int} (_ : 0 ≤ u) (hv : 0 ≤ v) (_ : 0 ≤ c) (he : 0 ≤ e) (h1 : u * u ≤ 2 * (v * v)) (h2 : c * c < 2 * (e * e)) : (u + c) * (u + c) < 2 * ((v + e) * (v + e)) := by
  have h3 : u * c ≤ 2 * (v * e) := by
    refine Int.not_lt.1 fun h => ?_
    have ve := Int.mul_nonneg hv he
    have a := sq_lt (a := 2 * (v * e)) (by omega) h
    have vv := sq_nonneg v; have cc := sq_nonneg c
    have d : (u * u) * (c * c) ≤ (2 * (v * v)) * (2 * (e * e)) := Int.mul_le_mul h1 (by omega) cc (by omega)
    have e1 : (u * c) * (u * c) = (u * u) * (c * c) := by grind
    have e2 : (2 * (v * e)) * (2 * (v * e)) = (2 * (v * v)) * (2 * (e * e)) := by grind
    omega
  have e1 : (u + c) * (u + c) = u * u + 2 * (u * c) + c * c := by grind
  have e2 : (v + e) * (v + e) = v * v + 2 * (v * e) + e * e := by grind
  omega
/-- a is less than b times the root of 2: of three kinds. -/
def T1 (a b : Int) : Prop := 0 ≤ a ∧ 0 < b ∧ a * a < 2 * (b * b)
def T2 (a b : Int) : Prop := a < 0 ∧ 0 ≤ b
def T3 (a b : Int) : Prop := a < 0 ∧ b < 0 ∧ 2 * (b * b) < a * a
theorem kinds {a b : Int} : sgn2 a < 2 * sgn2 b ↔ T1 a b ∨ T2 a b ∨ T3 a b := by
  have aa := sq_nonneg a; have bb := sq_nonneg b
  unfold T1 T2 T3
  by_cases ha : a < 0 <;> by_cases hb : b < 0
  · rw [sgn2_lt ha, sgn2_lt hb]; omega
  · rw [sgn2_lt ha, sgn2_ge (by omega)]
    have : 0 < a * a := by have := sq_lt (a := 0) (b := -a) (by omega) (by omega); rw [Int.neg_mul_neg] at this; omega
    omega
  · rw [sgn2_ge (by omega), sgn2_lt hb]; omega
  · rw [sgn2_ge (by omega), sgn2_ge (by omega)]
    by_cases hb0 : b = 0
    · subst hb0; omega
    · omega
theorem nn (a : Int) : (-a) * (-a) = a * a := Int.neg_mul_neg a a
theorem tm11 {a b c d : Int} (h : T1 a b) (k : T1 c d) : T1 (a + c) (b + d) := by
  obtain ⟨h1, h2, h3⟩ := h; obtain ⟨k1, k2, k3⟩ := k
  exact ⟨by omega, by omega, ltAdd h1 (by omega) k1 (by omega) (by omega) k3⟩
theorem tm33 {a b c d : Int} (h : T3 a b) (k : T3 c d) : T3 (a + c) (b + d) := by
  obtain ⟨h1, h2, h3⟩ := h; obtain ⟨k1, k2, k3⟩ := k
  have := gtAdd (u := -a) (v := -b) (m := -c) (b := -d) (by omega) (by omega) (by omega) (by omega) (by rw [nn, nn]; omega) (by rw [nn, nn]; omega)
  rw [show -b + -d = -(b + d) by omega, show -a + -c = -(a + c) by omega, nn, nn] at this
  exact ⟨by omega, by omega, this⟩
theorem tm12 {a b c d : Int} (h : T1 a b) (k : T2 c d) : T1 (a + c) (b + d) ∨ T2 (a + c) (b + d) := by
  obtain ⟨h1, h2, h3⟩ := h; obtain ⟨k1, k2⟩ := k
  by_cases hA : a + c < 0
  · exact .inr ⟨hA, by omega⟩
  · have e1 := sq_le (a := a + c) (b := a) (by omega) (by omega)
    have e2 := sq_le (a := b) (b := b + d) (by omega) (by omega)
    exact .inl ⟨by omega, by omega, by omega⟩
theorem tm23 {a b c d : Int} (h : T2 a b) (k : T3 c d) : T2 (a + c) (b + d) ∨ T3 (a + c) (b + d) := by
  obtain ⟨h1, h2⟩ := h; obtain ⟨k1, k2, k3⟩ := k
  by_cases hB : b + d < 0
  · have e1 := sq_le (a := -(b + d)) (b := -d) (by omega) (by omega)
    have e2 := sq_le (a := -c) (b := -(a + c)) (by omega) (by omega)
    rw [nn, nn] at e1 e2
    exact .inr ⟨by omega, hB, by omega⟩
  · exact .inl ⟨by omega, by omega⟩
theorem tm13 {a b c d : Int} (h : T1 a b) (k : T3 c d) : T1 (a + c) (b + d) ∨ T2 (a + c) (b + d) ∨ T3 (a + c) (b + d) := by
  obtain ⟨h1, h2, h3⟩ := h; obtain ⟨k1, k2, k3⟩ := k
  by_cases hA : a + c < 0 <;> by_cases hB : b + d < 0
  · refine .inr (.inr ⟨hA, hB, Int.lt_of_not_ge fun hn => ?_⟩)
    have := ltAdd (u := -(a + c)) (v := -(b + d)) (c := a) (e := b) (by omega) (by omega) h1 (by omega) (by rw [nn, nn]; exact hn) h3
    rw [show -(a + c) + a = -c by omega, show -(b + d) + b = -d by omega, nn, nn] at this
    omega
  · exact .inr (.inl ⟨hA, by omega⟩)
  · exfalso
    have e1 := sq_le (a := -c) (b := a) (by omega) (by omega)
    have e2 := sq_le (a := b) (b := -d) (by omega) (by omega)
    rw [nn] at e1 e2
    omega
  · by_cases hB0 : b + d = 0
    · exfalso
      have e1 := sq_le (a := -c) (b := a) (by omega) (by omega)
      have e2 := sq_le (a := b) (b := -d) (by omega) (by omega)
      rw [nn] at e1 e2
      omega
    · refine .inl ⟨by omega, by omega, Int.lt_of_not_ge fun hn => ?_⟩
      have := gtAdd (u := a + c) (v := b + d) (m := -c) (b := -d) (by omega) (by omega) (by omega) (by omega) hn (by rw [nn, nn]; exact k3)
      rw [show a + c + -c = a by omega, show b + d + -d = b by omega] at this
      omega
theorem less_add {a b c d : Int} (h : sgn2 a < 2 * sgn2 b) (k : sgn2 c < 2 * sgn2 d) : sgn2 (a + c) < 2 * sgn2 (b + d) := by
  rw [kinds] at h k ⊢
  rcases h with h | h | h <;> rcases k with k | k | k
  · exact .inl (tm11 h k)
  · rcases tm12 h k with x | x
    · exact .inl x
    · exact .inr (.inl x)
  · exact tm13 h k
  · rw [Int.add_comm a c, Int.add_comm b d]
    rcases tm12 k h with x | x
    · exact .inl x
    · exact .inr (.inl x)
  · exact .inr (.inl ⟨by have := h.1; have := k.1; omega, by have := h.2; have := k.2; omega⟩)
  · exact .inr (tm23 h k)
  · rw [Int.add_comm a c, Int.add_comm b d]
    exact tm13 k h
  · rw [Int.add_comm a c, Int.add_comm b d]
    exact .inr (tm23 k h)
  · exact .inr (.inr (tm33 h k))
theorem sgn2_neg (n : Int) : sgn2 (-n) = -sgn2 n := by
  by_cases h : n < 0
  · rw [sgn2_lt h, sgn2_ge (by omega), nn]; omega
  · by_cases h0 : n = 0
    · subst h0; rfl
    · rw [sgn2_ge (n := n) (by omega), sgn2_lt (by omega), nn]
/-- Sums of numbers less than 0 are. -/
theorem negB_add {x y : N} (h : negB x = true) (k : negB y = true) : negB (x.add y) = true := by
  have h1 : sgn2 x.a + 2 * sgn2 x.b < 0 := of_decide_eq_true h
  have k1 : sgn2 y.a + 2 * sgn2 y.b < 0 := of_decide_eq_true k
  have := less_add (a := x.a) (b := -x.b) (c := y.a) (d := -y.b) (by rw [sgn2_neg]; omega) (by rw [sgn2_neg]; omega)
  rw [show -x.b + -y.b = -(x.b + y.b) by omega, sgn2_neg] at this
  refine decide_eq_true ?_
  show sgn2 (x.a + y.a) + 2 * sgn2 (x.b + y.b) < 0
  omega
/-- A number or its negative is less than 0, or it is 0. -/
theorem negB_neg (x : N) : negB x = true → negB x.neg = false := by
  intro h
  have h1 : sgn2 x.a + 2 * sgn2 x.b < 0 := of_decide_eq_true h
  refine decide_eq_false ?_
  show ¬ sgn2 (-x.a) + 2 * sgn2 (-x.b) < 0
  rw [sgn2_neg, sgn2_neg]; omega
end Go.Proofs.YtonjnnjnojmpjaaDoor.R
