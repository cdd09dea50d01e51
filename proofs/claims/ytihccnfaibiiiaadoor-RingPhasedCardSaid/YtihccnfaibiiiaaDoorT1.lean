/- Ring: conjugates and dots of sums and products, as plain mathematics. -/
import Derived.Test.YtihccnfaibiiiaaDoorF5
namespace Go.Proofs.YtihccnfaibiiiaaDoor.R
open Go Go.Proofs.XX.Vm Go.Proofs.XX.Rm Go.RowKit
set_option maxRecDepth 100000

/-- A turn: it keeps sums and products, and done twice it changes nothing. -/
structure Turn (f : N → N) : Prop where
  k : ∀ x, (f x).k = x.k
  up : ∀ x : N, f x.up = (f x).up
  inv : ∀ x, f (f x) = x
  add : ∀ x y : N, x.k = y.k → f (x.add y) = (f x).add (f y)
  mul : ∀ x y : N, f (x.mul y) = (f x).mul (f y)
  neg : ∀ x : N, f x.neg = (f x).neg
  bd : ∀ {x : N} {A : Int}, x.In A → (f x).In A
theorem oddB_iff (x : N) : oddB x = true ↔ x.k % 2 ≠ 0 := by
  unfold oddB
  rw [bne_iff_ne]
  exact ⟨fun h e => h (Int.tmod_eq_zero_of_dvd (Int.dvd_of_emod_eq_zero e)), fun h e => h (Int.emod_eq_zero_of_dvd (Int.dvd_of_tmod_eq_zero e))⟩
theorem dot_even {x : N} (h : x.k % 2 = 0) : N.dot x = x.alt := by
  unfold N.dot
  cases ho : oddB x
  · rfl
  · exact absurd h ((oddB_iff x).1 ho)
theorem dot_odd {x : N} (h : x.k % 2 ≠ 0) : N.dot x = x.alt.neg := by
  unfold N.dot
  rw [(oddB_iff x).2 h]; rfl
theorem dot_k (x : N) : (N.dot x).k = x.k := by
  by_cases h : x.k % 2 = 0
  · rw [dot_even h]; rfl
  · rw [dot_odd h]; rfl
theorem turn_dot : Turn N.dot where
  k := dot_k
  up x := by
    by_cases h : x.k % 2 = 0
    · rw [dot_even h, dot_odd (x := x.up) (by show (x.k + 1) % 2 ≠ 0; omega)]
      ext <;> simp only [N.up, N.alt, N.neg] <;> omega
    · rw [dot_odd h, dot_even (x := x.up) (by show (x.k + 1) % 2 = 0; omega)]
      ext <;> simp only [N.up, N.alt, N.neg] <;> omega
  inv x := by
    by_cases h : x.k % 2 = 0
    · rw [dot_even (x := N.dot x) (by rw [dot_k]; exact h), dot_even h]
      ext <;> simp only [N.alt] <;> omega
    · rw [dot_odd (x := N.dot x) (by rw [dot_k]; exact h), dot_odd h]
      ext <;> simp only [N.alt, N.neg] <;> omega
  add x y e := by
    have hk : (x.add y).k = x.k := rfl
    by_cases h : x.k % 2 = 0
    · rw [dot_even (x := x.add y) (by rw [hk]; exact h), dot_even h, dot_even (x := y) (by rw [← e]; exact h)]
      ext <;> simp only [N.alt, N.add] <;> omega
    · rw [dot_odd (x := x.add y) (by rw [hk]; exact h), dot_odd h, dot_odd (x := y) (by rw [← e]; exact h)]
      ext <;> simp only [N.alt, N.add, N.neg] <;> omega
  mul x y := by
    have hk : (x.mul y).k = x.k + y.k := rfl
    by_cases h : x.k % 2 = 0 <;> by_cases h2 : y.k % 2 = 0
    · rw [dot_even (x := x.mul y) (by rw [hk]; omega), dot_even h, dot_even h2]
      ext <;> simp only [N.alt, N.mul, Int.mul_neg, Int.neg_mul] <;> omega
    · rw [dot_odd (x := x.mul y) (by rw [hk]; omega), dot_even h, dot_odd h2]
      ext <;> simp only [N.alt, N.mul, N.neg, Int.mul_neg, Int.neg_mul] <;> omega
    · rw [dot_odd (x := x.mul y) (by rw [hk]; omega), dot_odd h, dot_even h2]
      ext <;> simp only [N.alt, N.mul, N.neg, Int.mul_neg, Int.neg_mul] <;> omega
    · rw [dot_even (x := x.mul y) (by rw [hk]; omega), dot_odd h, dot_odd h2]
      ext <;> simp only [N.alt, N.mul, N.neg, Int.mul_neg, Int.neg_mul] <;> omega
  neg x := by
    by_cases h : x.k % 2 = 0
    · rw [dot_even h, dot_even (x := x.neg) h]
      ext <;> simp only [N.alt, N.neg]
    · rw [dot_odd h, dot_odd (x := x.neg) h]
      ext <;> simp only [N.alt, N.neg]
  bd {x A} h := by
    obtain ⟨h1, h2, h3, h4, h5, h6, h7, h8⟩ := h
    by_cases h : x.k % 2 = 0
    · rw [dot_even h]; constructor <;> simp only [N.alt] <;> omega
    · rw [dot_odd h]; constructor <;> simp only [N.alt, N.neg] <;> omega
theorem turn_conj : Turn N.conj where
  k _ := rfl
  up x := by ext <;> simp only [N.up, N.conj] <;> omega
  inv x := by ext <;> simp only [N.conj] <;> omega
  add x y _ := by ext <;> simp only [N.add, N.conj] <;> omega
  mul x y := by ext <;> simp only [N.mul, N.conj, Int.mul_neg, Int.neg_mul] <;> omega
  neg x := by ext <;> simp only [N.neg, N.conj]
  bd h := h.conj
theorem Turn.ups {f : N → N} (t : Turn f) (x : N) : ∀ n, f (x.ups n) = (f x).ups n
  | 0 => rfl
  | n + 1 => by simp only [N.ups, t.up, t.ups x n]
theorem Turn.lift {f : N → N} (t : Turn f) (x : N) (K : Int) : f (x.lift K) = (f x).lift K := by
  unfold N.lift; rw [t.ups, t.k]
theorem Turn.sum {f : N → N} (t : Turn f) (x y : N) : f (x.sum y) = (f x).sum (f y) := by
  unfold N.sum
  rw [t.add _ _ (by rw [N.lift_k (by omega), N.lift_k (by omega)]), t.lift, t.lift, t.k, t.k]
theorem Turn.nf {f : N → N} (t : Turn f) {x : N} (h : 0 ≤ x.k) : (f x.nf).nf = (f x).nf := by
  have h1 := N.nf_k h
  have e : (f x.nf).lift x.k = (f x).lift x.k := by rw [← t.lift, ← t.lift, N.lift_nf h (Int.le_refl _)]
  have e2 := congrArg N.nf e
  rwa [N.nf_lift (by rw [t.k]; exact h1.1), N.nf_lift (by rw [t.k]; exact h)] at e2
theorem Turn.Sz {f : N → N} (t : Turn f) {x : N} {A K : Int} (h : x.Sz A K) : (f x).Sz A K := ⟨t.bd h.1, by rw [t.k]; exact h.2⟩
/-- What the law asks of one turn. -/
theorem turned {f : N → N} (t : Turn f) {x y : N} (hx : x.Sz 60 8) (hy : y.Sz 60 8) :
    oneS x (f x) = ((f x).nf, 0) ∧ oneS y (f y) = ((f y).nf, 0) ∧ oneS (f x).nf (f (f x).nf) = (x.nf, 0) ∧
    (twoS x y (x.sum y) = ((x.sum y).nf, 0) ∧ oneS (x.sum y).nf (f (x.sum y).nf) = ((f (x.sum y)).nf, 0) ∧ twoS (f x).nf (f y).nf ((f x).nf.sum (f y).nf) = ((f (x.sum y)).nf, 0)) ∧
    (twoS x y (x.mul y) = ((x.mul y).nf, 0) ∧ oneS (x.mul y).nf (f (x.mul y).nf) = ((f (x.mul y)).nf, 0) ∧ twoS (f x).nf (f y).nf ((f x).nf.mul (f y).nf) = ((f (x.mul y)).nf, 0)) ∧
    (twoS x y (x.sum y.neg) = ((x.sum y.neg).nf, 0) ∧ oneS (x.sum y.neg).nf (f (x.sum y.neg).nf) = ((f (x.sum y.neg)).nf, 0) ∧ twoS (f x).nf (f y).nf ((f x).nf.sum (f y).nf.neg) = ((f (x.sum y.neg)).nf, 0)) ∧ leaS x = (x.nf, 0) := by
  have ok : ∀ {u : N} {A K : Int}, u.Sz A K → A ≤ 1073741824 → K ≤ 60 → okB u = true := fun h a b => okB_Sz h a b
  have s1 : (x.sum y).Sz 1920 8 := (N.Sz.sum 4 hx hy (by omega)).mono (by omega) (by omega)
  have s2 : (x.mul y).Sz 14400 16 := (hx.mul hy).mono (by omega) (by omega)
  have s3 : (x.sum y.neg).Sz 1920 8 := (N.Sz.sum 4 hx hy.neg (by omega)).mono (by omega) (by omega)
  have fx := t.Sz hx
  have fy := t.Sz hy
  have kx := fx.2.1
  have ky := fy.2.1
  have e1 : ((f x).nf.sum (f y).nf).nf = (f (x.sum y)).nf := by rw [N.nf_sum_left kx (N.nf_k ky).1, N.nf_sum_right kx ky, t.sum]
  have e2 : ((f x).nf.mul (f y).nf).nf = (f (x.mul y)).nf := by rw [N.nf_mul_left kx (N.nf_k ky).1, N.nf_mul_right kx ky, t.mul]
  have e3 : ((f x).nf.sum (f y).nf.neg).nf = (f (x.sum y.neg)).nf := by
    rw [← N.nf_neg, ← t.neg, N.nf_sum_left kx (N.nf_k (by rw [t.k]; exact hy.neg.2.1)).1, N.nf_sum_right kx (by rw [t.k]; exact hy.neg.2.1), t.sum]
  refine ⟨oneS_of (ok hx (by omega) (by omega)), oneS_of (ok hy (by omega) (by omega)), ?_, ⟨twoS_of (ok hx (by omega) (by omega)) (ok hy (by omega) (by omega)) (ok s1.nf (by omega) (by omega)), ?_, ?_⟩, ⟨twoS_of (ok hx (by omega) (by omega)) (ok hy (by omega) (by omega)) (ok s2.nf (by omega) (by omega)), ?_, ?_⟩, ⟨twoS_of (ok hx (by omega) (by omega)) (ok hy (by omega) (by omega)) (ok s3.nf (by omega) (by omega)), ?_, ?_⟩, leaS_of (ok hx (by omega) (by omega))⟩
  · rw [oneS_of (ok fx.nf (by omega) (by omega)), t.nf kx, t.inv]
  · rw [oneS_of (ok s1.nf (by omega) (by omega)), t.nf s1.2.1]
  · rw [twoS_of (ok fx.nf (by omega) (by omega)) (ok fy.nf (by omega) (by omega)) (by rw [e1]; exact ok (t.Sz s1).nf (by omega) (by omega)), e1]
  · rw [oneS_of (ok s2.nf (by omega) (by omega)), t.nf s2.2.1]
  · rw [twoS_of (ok fx.nf (by omega) (by omega)) (ok fy.nf (by omega) (by omega)) (by rw [e2]; exact ok (t.Sz s2).nf (by omega) (by omega)), e2]
  · rw [oneS_of (ok s3.nf (by omega) (by omega)), t.nf s3.2.1]
  · rw [twoS_of (ok fx.nf (by omega) (by omega)) (ok fy.nf (by omega) (by omega)) (by rw [e3]; exact ok (t.Sz s3).nf (by omega) (by omega)), e3]
theorem dot_conj (x : N) : N.dot x.conj = (N.dot x).conj := by
  by_cases h : x.k % 2 = 0
  · rw [dot_even h, dot_even (x := x.conj) h]
    ext <;> simp only [N.alt, N.conj]
  · rw [dot_odd h, dot_odd (x := x.conj) h]
    ext <;> simp only [N.alt, N.conj, N.neg]
theorem turned2 {x : N} (hx : x.Sz 60 8) : oneS x.conj.nf (N.dot x.conj.nf) = ((N.dot x.conj).nf, 0) ∧ oneS (N.dot x).nf (N.dot x).nf.conj = ((N.dot x.conj).nf, 0) := by
  have a := turn_conj.Sz hx
  have b := turn_dot.Sz hx
  refine ⟨?_, ?_⟩
  · rw [oneS_of (okB_Sz a.nf (by omega) (by omega)), turn_dot.nf a.2.1]
  · rw [oneS_of (okB_Sz b.nf (by omega) (by omega)), turn_conj.nf b.2.1, dot_conj]
end Go.Proofs.YtihccnfaibiiiaaDoor.R
