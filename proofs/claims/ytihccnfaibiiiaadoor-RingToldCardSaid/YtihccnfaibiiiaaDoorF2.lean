/- Ring: plain mathematics: sums and products of least forms in any order, and how large they become. -/
import Derived.Test.YtihccnfaibiiiaaDoorRM3
import Derived.Test.YtihccnfaibiiiaaDoorF1
namespace Go.Proofs.XX.Rm

theorem N.sum_comm (x y : N) : x.sum y = y.sum x := by
  have e : max x.k y.k = max y.k x.k := by omega
  have hk : (x.lift (max y.k x.k)).k = (y.lift (max y.k x.k)).k := by rw [N.lift_k (by omega), N.lift_k (by omega)]
  unfold N.sum
  rw [e]
  ext
  · simp only [N.add]; omega
  · simp only [N.add]; omega
  · simp only [N.add]; omega
  · simp only [N.add]; omega
  · simp only [N.add]; exact hk
theorem N.sum_lift {x y : N} {K : Int} (hx : x.k ≤ K) (hy : y.k ≤ K) : (x.sum y).lift K = (x.lift K).add (y.lift K) := by
  unfold N.sum
  rw [N.lift_add (by rw [N.lift_k (by omega), N.lift_k (by omega)]), N.lift_lift (by omega) (by omega), N.lift_lift (by omega) (by omega)]
theorem N.lift_self (x : N) : x.lift x.k = x := by
  unfold N.lift
  rw [show (x.k - x.k).toNat = 0 by omega]; rfl
theorem N.sum_assoc (x y z : N) : (x.sum y).sum z = x.sum (y.sum z) := by
  have e1 : (x.sum y).k = max x.k y.k := N.sum_k
  have e2 : (y.sum z).k = max y.k z.k := N.sum_k
  have l : (x.sum y).sum z = ((x.lift (max (max x.k y.k) z.k)).add (y.lift (max (max x.k y.k) z.k))).add (z.lift (max (max x.k y.k) z.k)) := by
    show ((x.sum y).lift _).add _ = _
    rw [e1, N.sum_lift (by omega) (by omega)]
  have r : x.sum (y.sum z) = (x.lift (max (max x.k y.k) z.k)).add ((y.lift (max (max x.k y.k) z.k)).add (z.lift (max (max x.k y.k) z.k))) := by
    show (x.lift _).add ((y.sum z).lift _) = _
    rw [e2, show max x.k (max y.k z.k) = max (max x.k y.k) z.k by omega, N.sum_lift (by omega) (by omega)]
  rw [l, r]
  ext <;> simp only [N.add] <;> omega
theorem N.add_mul {x y z : N} (_ : x.k = y.k) : (x.add y).mul z = (x.mul z).add (y.mul z) := by
  ext <;> simp only [N.add, N.mul] <;> grind
theorem N.sum_mul (x y z : N) : (x.sum y).mul z = (x.mul z).sum (y.mul z) := by
  have hk : (x.lift (max x.k y.k)).k = (y.lift (max x.k y.k)).k := by rw [N.lift_k (by omega), N.lift_k (by omega)]
  unfold N.sum
  rw [N.add_mul hk]
  unfold N.lift
  rw [N.mul_ups, N.mul_ups]
  have a1 : (x.mul z).k = x.k + z.k := rfl
  have a2 : (y.mul z).k = y.k + z.k := rfl
  rw [a1, a2, show (max (x.k + z.k) (y.k + z.k) - (x.k + z.k)).toNat = (max x.k y.k - x.k).toNat by omega, show (max (x.k + z.k) (y.k + z.k) - (y.k + z.k)).toNat = (max x.k y.k - y.k).toNat by omega]
theorem N.nf_sum_left {x y : N} (hx : 0 ≤ x.k) (hy : 0 ≤ y.k) : (x.nf.sum y).nf = (x.sum y).nf := by
  have h := N.nf_k hx
  have key : (x.nf.sum y).lift (max x.k y.k) = x.sum y := by
    rw [N.sum_lift (by omega) (by omega), N.lift_nf hx (by omega)]; rfl
  rw [← key, N.nf_lift (by rw [N.sum_k]; omega)]
theorem N.nf_sum_right {x y : N} (hx : 0 ≤ x.k) (hy : 0 ≤ y.k) : (x.sum y.nf).nf = (x.sum y).nf := by
  rw [N.sum_comm, N.nf_sum_left hy hx, N.sum_comm]
theorem N.sum_zero {x y : N} (hx : 0 ≤ x.k) (hz : y.zero = true) : (x.sum y).nf = x.nf := by
  have e : x.sum y = x.lift (max x.k y.k) := by
    unfold N.sum
    have : y.lift (max x.k y.k) = ⟨0, 0, 0, 0, y.k + ((max x.k y.k - y.k).toNat : Nat)⟩ := N.ups_zero hz _
    rw [this]
    ext <;> simp [N.add]
  rw [e, N.nf_lift hx]
theorem N.sum_neg_zero (y : N) : (y.sum y.neg).zero = true := by
  have e : y.sum y.neg = y.add y.neg := by
    unfold N.sum
    rw [show max y.k y.neg.k = y.k from Int.max_self _]
    rw [N.lift_self, show y.neg.lift y.k = y.neg.lift y.neg.k from rfl, N.lift_self]
  rw [e]
  simp [N.zero, N.add, N.neg]
  omega
/-- How large: the coefficients, and the power of r. -/
def N.Sz (x : N) (A K : Int) : Prop := x.In A ∧ 0 ≤ x.k ∧ x.k ≤ K
theorem N.Sz.nf {x : N} {A K : Int} (h : x.Sz A K) : x.nf.Sz A K := by
  have := N.nf_k h.2.1
  exact ⟨h.1.nf, this.1, by have := h.2.2; omega⟩
theorem N.Sz.neg {x : N} {A K : Int} (h : x.Sz A K) : x.neg.Sz A K := by
  obtain ⟨⟨h1, h2, h3, h4, h5, h6, h7, h8⟩, h9, h10⟩ := h
  exact ⟨by constructor <;> simp only [N.neg] <;> omega, h9, h10⟩
theorem N.Sz.mul {x y : N} {A B K L : Int} (hx : x.Sz A K) (hy : y.Sz B L) : (x.mul y).Sz (4 * (A * B)) (K + L) :=
  ⟨hx.1.mul hy.1, by show 0 ≤ x.k + y.k; have := hx.2.1; have := hy.2.1; omega, by show x.k + y.k ≤ K + L; have := hx.2.2; have := hy.2.2; omega⟩
theorem N.In.nonneg {x : N} {A : Int} (h : x.In A) : 0 ≤ A := by obtain ⟨h1, h2, _⟩ := h; omega
theorem N.In.ups_le {x : N} {A : Int} (h : x.In A) {n j : Nat} (hn : n ≤ 2 * j) : (x.ups n).In (2 ^ j * A) := by
  have hA := h.nonneg
  have mono : ∀ i : Nat, i ≤ j → (2 : Int) ^ i * A ≤ 2 ^ j * A := by
    intro i hi
    refine Int.mul_le_mul_of_nonneg_right ?_ hA
    exact_mod_cast Nat.pow_le_pow_right (by omega) hi
  have h2 := N.In.ups2 h (n / 2)
  by_cases he : n % 2 = 0
  · have := h2.1.mono (mono (n / 2) (by omega))
    rwa [show 2 * (n / 2) = n by omega] at this
  · have := h2.2.mono (mono (n / 2 + 1) (by omega))
    rwa [show 2 * (n / 2) + 1 = n by omega] at this
theorem N.Sz.sum {x y : N} {A B K : Int} (j : Nat) (hx : x.Sz A K) (hy : y.Sz B K) (hj : K ≤ 2 * (j : Int)) : (x.sum y).Sz (2 ^ j * A + 2 ^ j * B) K := by
  have a := hx.2.1; have b := hx.2.2; have c := hy.2.1; have d := hy.2.2
  have e1 : (x.lift (max x.k y.k)).In (2 ^ j * A) := hx.1.ups_le (by omega)
  have e2 : (y.lift (max x.k y.k)).In (2 ^ j * B) := hy.1.ups_le (by omega)
  refine ⟨?_, by rw [N.sum_k]; omega, by rw [N.sum_k]; omega⟩
  obtain ⟨a1, a2, a3, a4, a5, a6, a7, a8⟩ := e1
  obtain ⟨b1, b2, b3, b4, b5, b6, b7, b8⟩ := e2
  unfold N.sum
  constructor <;> simp only [N.add] <;> omega
theorem N.Sz.mono {x : N} {A B K L : Int} (h : x.Sz A K) (h1 : A ≤ B) (h2 : K ≤ L) : x.Sz B L := ⟨h.1.mono h1, h.2.1, by have := h.2.2; omega⟩
theorem O_sum {x : N} (h : 0 ≤ x.k) : O.sum x = x := by
  unfold N.sum
  rw [show max O.k x.k = x.k by show max 0 x.k = x.k; omega]
  have : O.lift x.k = ⟨0, 0, 0, 0, O.k + ((x.k - O.k).toNat : Nat)⟩ := N.ups_zero rfl _
  rw [this, N.lift_self]
  have hk : O.k + ((x.k - O.k).toNat : Nat) = x.k := by
    show (0 : Int) + ((x.k - 0).toNat : Nat) = x.k
    omega
  rw [hk]
  ext <;> simp [N.add]
end Go.Proofs.XX.Rm
