/- Ring, plain mathematics: bounds of sums and products. -/
import Derived.Test.YtihccnfaibiiiaaDoorRM2
namespace Go.Proofs.XX.Rm
open Go

theorem mul_bd {a p : Int} (h1 : -1073741824 ≤ a) (h2 : a ≤ 1073741824) : (0 ≤ p ∧ -(1073741824 * p) ≤ a * p ∧ a * p ≤ 1073741824 * p) ∨ (p ≤ 0 ∧ 1073741824 * p ≤ a * p ∧ a * p ≤ -(1073741824 * p)) := by
  by_cases hp : 0 ≤ p
  · left
    have e1 := Int.mul_le_mul_of_nonneg_right h2 hp
    have e2 := Int.mul_le_mul_of_nonneg_right h1 hp
    rw [Int.neg_mul] at e2
    exact ⟨hp, e2, e1⟩
  · right
    have hq : p ≤ 0 := by omega
    have e1 := Int.mul_le_mul_of_nonpos_right h2 hq
    have e2 := Int.mul_le_mul_of_nonpos_right h1 hq
    rw [Int.neg_mul] at e2
    exact ⟨hq, e1, e2⟩
theorem N.mul_In {x y : N} (hx : x.In 1073741824) {P Q R S : Int} (e : y.a = P ∧ y.b = Q ∧ y.c = R ∧ y.d = S)
    (h : ∀ p q r s : Int, (p = P ∨ p = -P) → (q = Q ∨ q = -Q) → (r = R ∨ r = -R) → (s = S ∨ s = -S) → p + q + r + s ≤ 4294967296) : (x.mul y).In (2 ^ 62) := by
  obtain ⟨rfl, rfl, rfl, rfl⟩ := e
  obtain ⟨a1, a2, b1, b2, c1, c2, d1, d2⟩ := hx
  have one : ∀ (p q r s k1 k2 k3 k4 : Int), -1073741824 ≤ k1 → k1 ≤ 1073741824 → -1073741824 ≤ k2 → k2 ≤ 1073741824 → -1073741824 ≤ k3 → k3 ≤ 1073741824 → -1073741824 ≤ k4 → k4 ≤ 1073741824 →
      (∀ p' q' r' s' : Int, (p' = p ∨ p' = -p) → (q' = q ∨ q' = -q) → (r' = r ∨ r' = -r) → (s' = s ∨ s' = -s) → p' + q' + r' + s' ≤ 4294967296) →
      ∀ s1 s2 s3 s4 : Int, (s1 = k1 * p ∨ s1 = -(k1 * p)) → (s2 = k2 * q ∨ s2 = -(k2 * q)) → (s3 = k3 * r ∨ s3 = -(k3 * r)) → (s4 = k4 * s ∨ s4 = -(k4 * s)) → s1 + s2 + s3 + s4 ≤ 4611686018427387904 := by
    intro p q r s k1 k2 k3 k4 h1 h2 h3 h4 h5 h6 h7 h8 h s1 s2 s3 s4 e1 e2 e3 e4
    have up : ∀ (k p t : Int), -1073741824 ≤ k → k ≤ 1073741824 → (t = k * p ∨ t = -(k * p)) → ∃ p', (p' = p ∨ p' = -p) ∧ t ≤ 1073741824 * p' := by
      intro k p t g1 g2 g3
      rcases mul_bd (p := p) g1 g2 with ⟨m0, m1, m2⟩ | ⟨m0, m1, m2⟩
      · exact ⟨p, .inl rfl, by rcases g3 with rfl | rfl <;> omega⟩
      · exact ⟨-p, .inr rfl, by rcases g3 with rfl | rfl <;> omega⟩
    obtain ⟨p', hp, u1⟩ := up k1 p s1 h1 h2 e1
    obtain ⟨q', hq, u2⟩ := up k2 q s2 h3 h4 e2
    obtain ⟨r', hr, u3⟩ := up k3 r s3 h5 h6 e3
    obtain ⟨s', hs, u4⟩ := up k4 s s4 h7 h8 e4
    have := h p' q' r' s' hp hq hr hs
    omega
  have hp := h
  have ca := one y.a y.d y.c y.b x.a x.b x.c x.d a1 a2 b1 b2 c1 c2 d1 d2 (fun p q r s e1 e2 e3 e4 => by have := h p s r q e1 e4 e3 e2; omega)
  have cb := one y.b y.a y.d y.c x.a x.b x.c x.d a1 a2 b1 b2 c1 c2 d1 d2 (fun p q r s e1 e2 e3 e4 => by have := h q p s r e2 e1 e4 e3; omega)
  have cc := one y.c y.b y.a y.d x.a x.b x.c x.d a1 a2 b1 b2 c1 c2 d1 d2 (fun p q r s e1 e2 e3 e4 => by have := h r q p s e3 e2 e1 e4; omega)
  have cd := one y.d y.c y.b y.a x.a x.b x.c x.d a1 a2 b1 b2 c1 c2 d1 d2 (fun p q r s e1 e2 e3 e4 => by have := h s r q p e4 e3 e2 e1; omega)
  constructor
  · have := ca _ _ _ _ (.inr rfl) (.inl rfl) (.inl rfl) (.inl rfl); simp only [N.mul]; omega
  · have := ca _ _ _ _ (.inl rfl) (.inr rfl) (.inr rfl) (.inr rfl); simp only [N.mul]; omega
  · have := cb _ _ _ _ (.inr rfl) (.inr rfl) (.inl rfl) (.inl rfl); simp only [N.mul]; omega
  · have := cb _ _ _ _ (.inl rfl) (.inl rfl) (.inr rfl) (.inr rfl); simp only [N.mul]; omega
  · have := cc _ _ _ _ (.inr rfl) (.inr rfl) (.inr rfl) (.inl rfl); simp only [N.mul]; omega
  · have := cc _ _ _ _ (.inl rfl) (.inl rfl) (.inl rfl) (.inr rfl); simp only [N.mul]; omega
  · have := cd _ _ _ _ (.inr rfl) (.inr rfl) (.inr rfl) (.inr rfl); simp only [N.mul]; omega
  · have := cd _ _ _ _ (.inl rfl) (.inl rfl) (.inl rfl) (.inl rfl); simp only [N.mul]; omega
theorem N.mul_fit {x y : N} (hx : x.In 1073741824) (hy : y.In 1073741824) : (x.mul y).Fit := by
  refine ⟨N.mul_In hx ⟨rfl, rfl, rfl, rfl⟩ ?_, ?_⟩
  · obtain ⟨h1, h2, h3, h4, h5, h6, h7, h8⟩ := hy
    intro p q r s e1 e2 e3 e4
    omega
  · rw [← N.mul_up, N.mul_comm, N.mul_comm] 
    rw [show x.up.mul y = x.mul y.up by rw [N.mul_up, N.mul_comm x y, ← N.mul_up, N.mul_comm]]
    refine N.mul_In hx ⟨rfl, rfl, rfl, rfl⟩ ?_
    obtain ⟨h1, h2, h3, h4, h5, h6, h7, h8⟩ := hy
    simp only [N.up]
    intro p q r s e1 e2 e3 e4
    omega
/-- Sums of raised numbers. -/
def N.sum (x y : N) : N := (x.lift (max x.k y.k)).add (y.lift (max x.k y.k))
theorem N.lift_in {x : N} (h : x.In 1073741824) {K : Int} (h0 : 0 ≤ x.k) (hK : K ≤ 60) : (x.lift K).In (2 ^ 60) :=
  N.In.ups60 (h.mono (by omega)) (by omega)
theorem N.sum_fit {x y : N} (hx : x.In 1073741824) (hy : y.In 1073741824) (h0 : 0 ≤ x.k) (h1 : x.k ≤ 60) (h2 : 0 ≤ y.k) (h3 : y.k ≤ 60) : (x.sum y).Fit := by
  have a := N.lift_in hx (K := max x.k y.k) h0 (by omega)
  have b := N.lift_in hy (K := max x.k y.k) h2 (by omega)
  refine N.Fit.of_in ?_
  obtain ⟨a1, a2, a3, a4, a5, a6, a7, a8⟩ := a
  obtain ⟨b1, b2, b3, b4, b5, b6, b7, b8⟩ := b
  constructor <;> simp only [N.sum, N.add] <;> omega
theorem N.sum_k {x y : N} : (x.sum y).k = max x.k y.k := by
  show (x.lift _).k = _
  rw [N.lift_k (by omega)]
end Go.Proofs.XX.Rm
