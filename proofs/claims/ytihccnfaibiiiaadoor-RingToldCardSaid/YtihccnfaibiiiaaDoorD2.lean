/- Ring: products, and the calculating functions. -/
import Derived.Test.YtihccnfaibiiiaaDoorD1
namespace Go.Proofs.YtihccnfaibiiiaaDoor.R
open Go Go.Proofs.XX.Vm Go.Proofs.XX.Rm Go.RowKit
set_option maxRecDepth 100000

/-- A product as the program takes it. -/
def mulW (x y : N) : N :=
  ⟨w (w (w (w (0 + w (x.a * y.a)) - w (x.b * y.d)) - w (x.c * y.c)) - w (x.d * y.b)), w (w (w (w (0 + w (x.a * y.b)) + w (x.b * y.a)) - w (x.c * y.d)) - w (x.d * y.c)),
   w (w (w (w (0 + w (x.a * y.c)) + w (x.b * y.b)) + w (x.c * y.a)) - w (x.d * y.d)), w (w (w (w (0 + w (x.a * y.d)) + w (x.b * y.c)) + w (x.c * y.b)) + w (x.d * y.a)), w (x.k + y.k)⟩
theorem tP (M : Int) (m : Nat) (x y : N) : runK Tryd.prog (orcL []) (Sg1 M) (m + 60) 68 [N.v x, N.v y] = some (N.v (mulW x y)) := by kernel_rfl
theorem w_mod (a : Int) : ∃ q : Int, w a = a + 18446744073709551616 * q := ⟨-((a + 9223372036854775808) / 18446744073709551616), by show IntKind.i64.wrap a = _; rw [IntKind.wrap_i64]; omega⟩
theorem w_of {a b : Int} (h1 : -9223372036854775808 ≤ b) (h2 : b ≤ 9223372036854775807) (h : ∃ q : Int, a = b + 18446744073709551616 * q) : w a = b := by
  obtain ⟨q, rfl⟩ := h
  show IntKind.i64.wrap _ = _
  rw [IntKind.wrap_i64]; omega
theorem mulW_eq {x y : N} (hx : okB x = true) (hy : okB y = true) : mulW x y = x.mul y := by
  obtain ⟨x0, x1, x2⟩ := (okB_iff x).1 hx
  obtain ⟨y0, y1, y2⟩ := (okB_iff y).1 hy
  obtain ⟨⟨a1, a2, b1, b2, c1, c2, d1, d2⟩, -⟩ := N.mul_fit x2 y2
  simp only [N.mul] at a1 a2 b1 b2 c1 c2 d1 d2
  have sum4 : ∀ (p q r s P Q R S g1 g2 g3 : Int), (∃ k, P = p + 18446744073709551616 * k) → (∃ k, Q = q + 18446744073709551616 * k) → (∃ k, R = r + 18446744073709551616 * k) → (∃ k, S = s + 18446744073709551616 * k) →
      (∃ k, g1 = 0 + P + 18446744073709551616 * k) → (∃ k, g2 = g1 + Q + 18446744073709551616 * k) → (∃ k, g3 = g2 + R + 18446744073709551616 * k) → ∃ k, g3 + S = (p + q + r + s) + 18446744073709551616 * k := by
    rintro p q r s P Q R S g1 g2 g3 ⟨k1, h1⟩ ⟨k2, h2⟩ ⟨k3, h3⟩ ⟨k4, h4⟩ ⟨k5, h5⟩ ⟨k6, h6⟩ ⟨k7, h7⟩
    exact ⟨k1 + k2 + k3 + k4 + k5 + k6 + k7, by omega⟩
  have neg : ∀ a : Int, ∃ k, -(w a) = -a + 18446744073709551616 * k := fun a => by obtain ⟨q, hq⟩ := w_mod a; exact ⟨-q, by omega⟩
  have wm : ∀ a b : Int, ∃ k, w (a - w b) = a + -(w b) + 18446744073709551616 * k := fun a b => by obtain ⟨q, hq⟩ := w_mod (a - w b); exact ⟨q, by omega⟩
  have r1 : w (w (w (w (0 + w (x.a * y.a)) - w (x.b * y.d)) - w (x.c * y.c)) - w (x.d * y.b)) = x.a * y.a - x.b * y.d - x.c * y.c - x.d * y.b := w_of (by omega) (by omega) (by
    obtain ⟨k, h⟩ := sum4 _ _ _ _ _ _ _ _ _ _ _ (w_mod (x.a * y.a)) (neg (x.b * y.d)) (neg (x.c * y.c)) (neg (x.d * y.b)) (w_mod (0 + w (x.a * y.a))) (wm _ _) (wm _ _)
    exact ⟨k, by rw [Int.sub_eq_add_neg, h]; omega⟩)
  have r2 : w (w (w (w (0 + w (x.a * y.b)) + w (x.b * y.a)) - w (x.c * y.d)) - w (x.d * y.c)) = x.a * y.b + x.b * y.a - x.c * y.d - x.d * y.c := w_of (by omega) (by omega) (by
    obtain ⟨k, h⟩ := sum4 _ _ _ _ _ _ _ _ _ _ _ (w_mod (x.a * y.b)) (w_mod (x.b * y.a)) (neg (x.c * y.d)) (neg (x.d * y.c)) (w_mod (0 + w (x.a * y.b))) (w_mod (w (0 + w (x.a * y.b)) + w (x.b * y.a))) (wm _ _)
    exact ⟨k, by rw [Int.sub_eq_add_neg, h]; omega⟩)
  have r3 : w (w (w (w (0 + w (x.a * y.c)) + w (x.b * y.b)) + w (x.c * y.a)) - w (x.d * y.d)) = x.a * y.c + x.b * y.b + x.c * y.a - x.d * y.d := w_of (by omega) (by omega) (by
    obtain ⟨k, h⟩ := sum4 _ _ _ _ _ _ _ _ _ _ _ (w_mod (x.a * y.c)) (w_mod (x.b * y.b)) (w_mod (x.c * y.a)) (neg (x.d * y.d)) (w_mod (0 + w (x.a * y.c))) (w_mod (w (0 + w (x.a * y.c)) + w (x.b * y.b))) (w_mod (w (w (0 + w (x.a * y.c)) + w (x.b * y.b)) + w (x.c * y.a)))
    exact ⟨k, by rw [Int.sub_eq_add_neg, h]; omega⟩)
  have r4 : w (w (w (w (0 + w (x.a * y.d)) + w (x.b * y.c)) + w (x.c * y.b)) + w (x.d * y.a)) = x.a * y.d + x.b * y.c + x.c * y.b + x.d * y.a := w_of (by omega) (by omega) (by
    obtain ⟨k, h⟩ := sum4 _ _ _ _ _ _ _ _ _ _ _ (w_mod (x.a * y.d)) (w_mod (x.b * y.c)) (w_mod (x.c * y.b)) (w_mod (x.d * y.a)) (w_mod (0 + w (x.a * y.d))) (w_mod (w (0 + w (x.a * y.d)) + w (x.b * y.c))) (w_mod (w (w (0 + w (x.a * y.d)) + w (x.b * y.c)) + w (x.c * y.b)))
    exact ⟨k, by rw [h]⟩)
  ext
  · exact r1
  · exact r2
  · exact r3
  · exact r4
  · exact w_eq _ (by omega) (by omega)
theorem cPro_ok (M : Int) : ConOk M (con2 68 fun x y => .ite (okB2 x y) (.val (N.v (x.mul y))) .no) := con2_ok nil_ok fun x y v h => by
  obtain ⟨h0, rfl⟩ := OT.pre h
  obtain ⟨h1, h2⟩ := okB2_iff h0
  refine EvF.of_eq 60 fun m => ?_
  rw [tP, mulW_eq h1 h2]

/-- What two numbers make, as the chapter has it. -/
def twoT (x y : N) (z : N) : OT := okT x (okT y (fitT z.nf) badN) badN
noncomputable abbrev LD : List Con := [cChk, cLsF, con2 66 fun x y => .ite (okB2 x y) (.val (N.v (x.sum y))) .no, con2 68 fun x y => .ite (okB2 x y) (.val (N.v (x.mul y))) .no]
theorem LD_ok (M : Int) : ∀ c ∈ LD, ConOk M c := mem_cons_ok (cChk_ok M) (mem_cons_ok (cLsF_ok M) (mem_cons_ok (cSum_ok M) (mem_cons_ok (cPro_ok M) nil_ok)))
theorem tAdd (M : Int) (m : Nat) (x y : N) : runK Tryd.prog (orcL LD) (Sg1 M) (m + 60) 28 [N.v x, N.v y] =
    bif3 x (bif3 y (bif okB2 x y then bif fitB (x.sum y) then bif okB (x.sum y).nf then some (resV ((x.sum y).nf, 0)) else some (resV (O, 8)) else none else none) fun n => some (resV (O, n))) fun n => some (resV (O, n)) := by kernel_rfl
theorem tMul (M : Int) (m : Nat) (x y : N) : runK Tryd.prog (orcL LD) (Sg1 M) (m + 60) 29 [N.v x, N.v y] =
    bif3 x (bif3 y (bif okB2 x y then bif fitB (x.mul y) then bif okB (x.mul y).nf then some (resV ((x.mul y).nf, 0)) else some (resV (O, 8)) else none else none) fun n => some (resV (O, n))) fun n => some (resV (O, n)) := by kernel_rfl
theorem fit_sum {x y : N} (hx : okB x = true) (hy : okB y = true) : fitB (x.sum y) = true := by
  obtain ⟨x0, x1, x2⟩ := (okB_iff x).1 hx
  obtain ⟨y0, y1, y2⟩ := (okB_iff y).1 hy
  exact fitB_iff.2 ⟨N.sum_fit x2 y2 x0 x1 y0 y1, by rw [N.sum_k]; omega, by rw [N.sum_k]; omega⟩
theorem fit_mul {x y : N} (hx : okB x = true) (hy : okB y = true) : fitB (x.mul y) = true := by
  obtain ⟨x0, x1, x2⟩ := (okB_iff x).1 hx
  obtain ⟨y0, y1, y2⟩ := (okB_iff y).1 hy
  exact fitB_iff.2 ⟨N.mul_fit x2 y2, by show 0 ≤ x.k + y.k; omega, by show x.k + y.k ≤ _; omega⟩
theorem okB2_mk {x y : N} (hx : okB x = true) (hy : okB y = true) : okB2 x y = true := by unfold okB2; rw [hx, hy]; rfl
theorem cAdd_ok (M : Int) : ConOk M (con2 28 fun x y => twoT x y (x.sum y)) := con2_ok (LD_ok M) fun x y v h => by
  refine EvF.of_eq 60 fun m => get_some h ?_
  rw [tAdd]
  unfold twoT
  rw [okT_get]
  refine bif3_ext (fun hx => ?_) fun n => rfl
  rw [okT_get]
  refine bif3_ext (fun hy => ?_) fun n => rfl
  rw [okB2_mk hx hy, fit_sum hx hy]; rfl
theorem cMul_ok (M : Int) : ConOk M (con2 29 fun x y => twoT x y (x.mul y)) := con2_ok (LD_ok M) fun x y v h => by
  refine EvF.of_eq 60 fun m => get_some h ?_
  rw [tMul]
  unfold twoT
  rw [okT_get]
  refine bif3_ext (fun hx => ?_) fun n => rfl
  rw [okT_get]
  refine bif3_ext (fun hy => ?_) fun n => rfl
  rw [okB2_mk hx hy, fit_mul hx hy]; rfl
end Go.Proofs.YtihccnfaibiiiaaDoor.R
