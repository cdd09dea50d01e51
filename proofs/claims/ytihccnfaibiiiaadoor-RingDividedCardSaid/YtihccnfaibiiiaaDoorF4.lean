/- Ring: the program's quotients, put together. -/
import Derived.Test.YtihccnfaibiiiaaDoorF3
namespace Go.Proofs.YtihccnfaibiiiaaDoor.R
open Go Go.Proofs.XX.Vm Go.Proofs.XX.Rm Go.RowKit
set_option maxRecDepth 100000

/-- Raised while nothing is too large. -/
def N.rises : Nat → N → N
  | 0, x => x
  | n + 1, x => bif inB x then N.rises n x.up else x
theorem N.rises_k : ∀ (n : Nat) (x : N), (N.rises n x).k ≤ x.k + n
  | 0, x => by simp [N.rises]
  | n + 1, x => by
    simp only [N.rises]
    cases inB x
    · show x.k ≤ _; omega
    · have := N.rises_k n x.up; simp only [N.up] at this; show (N.rises n x.up).k ≤ _; simp only [N.up]; omega
/-- What has been divided, put into its least form. -/
def N.qf (x : N) : N := bif decide (x.k < 0) then N.rises (-x.k).toNat x else x.nfL x.k.toNat
def quoN (x : N) : N × Int := bif x.zero then (O, 0) else bif okB (N.qf x) then (N.qf x, 0) else (O, 8)
theorem upW_in {x : N} (h : x.In 1073741824) (h0 : -9223372036854775808 ≤ x.k) (h1 : x.k ≤ 60) : N.upW x = x.up := by
  obtain ⟨a1, a2, b1, b2, c1, c2, d1, d2⟩ := h
  have e1 : w (x.b - x.d) = x.b - x.d := w_eq _ (by omega) (by omega)
  have e2 : w (x.a + x.c) = x.a + x.c := w_eq _ (by omega) (by omega)
  have e3 : w (x.b + x.d) = x.b + x.d := w_eq _ (by omega) (by omega)
  have e4 : w (x.c - x.a) = x.c - x.a := w_eq _ (by omega) (by omega)
  have e5 : w (x.k + 1) = x.k + 1 := w_eq _ (by omega) (by omega)
  ext
  · exact e1
  · exact e2
  · exact e3
  · exact e4
  · exact e5
theorem upWL_eq : ∀ (n : Nat) (x : N), x.k + n ≤ 0 → -9223372036854775808 ≤ x.k → N.upWL n x = N.rises n x
  | 0, x => fun _ _ => rfl
  | n + 1, x => by
    intro h1 h2
    simp only [N.upWL, N.rises]
    rw [decide_eq_true (show x.k < 0 by omega), Bool.true_and, show wB x = inB x from rfl]
    cases hi : inB x with
    | false => rfl
    | true =>
      rw [cond_true, cond_true, upW_in ((inB_iff x).1 hi) h2 (by omega)]
      exact upWL_eq n x.up (by simp only [N.up]; omega) (by simp only [N.up]; omega)
theorem leastW_q {x : N} (h : x.Fit) (h1 : -4611686018427387904 ≤ x.k) (h2 : x.k ≤ 4611686018427387904) : leastW x = quoN x := by
  by_cases hk : x.k < 0
  · have hm : midW x = N.rises (-x.k).toNat x := upWL_eq _ _ (by omega) (by omega)
    have hr := N.rises_k (-x.k).toNat x
    have he : endW x = N.rises (-x.k).toNat x := by
      unfold endW
      rw [hm, show (N.rises (-x.k).toNat x).k.toNat = 0 by omega]; rfl
    unfold leastW quoN N.qf okB
    rw [he, z0_eq, decide_eq_true hk, cond_true]
    cases x.zero <;> cases rgB (N.rises (-x.k).toNat x) <;> cases inB (N.rises (-x.k).toNat x) <;> rfl
  · rw [leastW_eq h (by omega) (by omega)]
    unfold quoN N.qf fitS N.nf
    rw [decide_eq_false hk, cond_false]
    cases x.zero
    · rfl
    · rw [cond_true, cond_true, okB_O]; rfl
noncomputable def qfit (x : N) : Bool := @decide (x.Fit ∧ -4611686018427387904 ≤ x.k ∧ x.k ≤ 4611686018427387904) (Classical.propDecidable _)
theorem qfit_iff {x : N} : qfit x = true ↔ x.Fit ∧ -4611686018427387904 ≤ x.k ∧ x.k ≤ 4611686018427387904 := by unfold qfit; simp
noncomputable def cLsQ : Con := con1 46 fun x => .ite (qfit x) (.val (resV (quoN x))) .no
theorem cLsQ_ok (M : Int) : ConOk M cLsQ := con1_ok (L1_ok M) fun x v h => by
  obtain ⟨h0, rfl⟩ := OT.pre h
  obtain ⟨h1, h2, h3⟩ := qfit_iff.1 h0
  rw [← leastW_q h1 h2 h3]
  exact e46 M x (by omega) (by omega)
/-- Products without sums that are too large. -/
theorem mulW_eq' {x y : N} (h : (x.mul y).In 9223372036854775807) (h1 : -9223372036854775808 ≤ x.k + y.k) (h2 : x.k + y.k ≤ 9223372036854775807) : mulW x y = x.mul y := by
  obtain ⟨a1, a2, b1, b2, c1, c2, d1, d2⟩ := h
  simp only [N.mul] at a1 a2 b1 b2 c1 c2 d1 d2
  have sum4 : ∀ (p q r s P Q R S g1 g2 g3 : Int), (∃ k, P = p + 18446744073709551616 * k) → (∃ k, Q = q + 18446744073709551616 * k) → (∃ k, R = r + 18446744073709551616 * k) → (∃ k, S = s + 18446744073709551616 * k) →
      (∃ k, g1 = 0 + P + 18446744073709551616 * k) → (∃ k, g2 = g1 + Q + 18446744073709551616 * k) → (∃ k, g3 = g2 + R + 18446744073709551616 * k) → ∃ k, g3 + S = (p + q + r + s) + 18446744073709551616 * k := by
    rintro p q r s P Q R S g1 g2 g3 ⟨k1, h1⟩ ⟨k2, h2⟩ ⟨k3, h3⟩ ⟨k4, h4⟩ ⟨k5, h5⟩ ⟨k6, h6⟩ ⟨k7, h7⟩
    exact ⟨k1 + k2 + k3 + k4 + k5 + k6 + k7, by omega⟩
  have neg : ∀ a : Int, ∃ k, -(w a) = -a + 18446744073709551616 * k := fun a => by obtain ⟨q, hq⟩ := w_mod a; exact ⟨-q, by omega⟩
  have wm : ∀ a b : Int, ∃ k, w (a - w b) = a + -(w b) + 18446744073709551616 * k := fun a b => by obtain ⟨q, hq⟩ := w_mod (a - w b); exact ⟨q, by omega⟩
  have r1 : w (w (w (w (0 + w (x.a * y.a)) - w (x.b * y.d)) - w (x.c * y.c)) - w (x.d * y.b)) = x.a * y.a - x.b * y.d - x.c * y.c - x.d * y.b := w_of (by omega) (by omega) (by
    obtain ⟨k, h⟩ := sum4 _ _ _ _ _ _ _ _ _ _ _ (w_mod (x.a * y.a)) (neg (x.b * y.d)) (neg (x.c * y.c)) (neg (x.d * y.b)) (w_mod (0 + w (x.a * y.a))) (wm _ _) (wm _ _)
    exact ⟨k, by rw [Int.sub_eq_add_neg, h]; omega⟩)
  have r2 : w (w (w (w (0 + w (x.a * y.b)) + w (x.b * y.a)) - w (x.c * y.d)) - w (x.d * y.c)) = x.a * y.b + x.b * y.a - x.c * y.d - x.d * y.c := w_of (by omega) (by omega) (by
    obtain ⟨k, h⟩ := sum4 _ _ _ _ _ _ _ _ _ _ _ (w_mod (x.a * y.b)) (w_mod (x.b * y.a)) (neg (x.c * y.d)) (neg (x.d * y.c)) (w_mod (0 + w (x.a * y.b))) (w_mod (w (0 + w (x.a * y.b)) + w (x.b * y.a))) (wm _ _)
    exact ⟨k, by rw [Int.sub_eq_add_neg, h]; omega⟩)
  have r3 : w (w (w (w (0 + w (x.a * y.c)) + w (x.b * y.b)) + w (x.c * y.a)) - w (x.d * y.d)) = x.a * y.c + x.b * y.b + x.c * y.a - x.d * y.d := w_of (by omega) (by omega) (by
    obtain ⟨k, h⟩ := sum4 _ _ _ _ _ _ _ _ _ _ _ (w_mod (x.a * y.c)) (w_mod (x.b * y.b)) (w_mod (x.c * y.a)) (neg (x.d * y.d)) (w_mod (0 + w (x.a * y.c))) (w_mod (w (0 + w (x.a * y.c)) + w (x.b * y.b))) (w_mod (w (w (0 + w (x.a * y.c)) + w (x.b * y.b)) + w (x.c * y.a)))
    exact ⟨k, by rw [Int.sub_eq_add_neg, h]; omega⟩)
  have r4 : w (w (w (w (0 + w (x.a * y.d)) + w (x.b * y.c)) + w (x.c * y.b)) + w (x.d * y.a)) = x.a * y.d + x.b * y.c + x.c * y.b + x.d * y.a := w_of (by omega) (by omega) (by
    obtain ⟨k, h⟩ := sum4 _ _ _ _ _ _ _ _ _ _ _ (w_mod (x.a * y.d)) (w_mod (x.b * y.c)) (w_mod (x.c * y.b)) (w_mod (x.d * y.a)) (w_mod (0 + w (x.a * y.d))) (w_mod (w (0 + w (x.a * y.d)) + w (x.b * y.c))) (w_mod (w (w (0 + w (x.a * y.d)) + w (x.b * y.c)) + w (x.c * y.b)))
    exact ⟨k, by rw [h]⟩)
  ext
  · exact r1
  · exact r2
  · exact r3
  · exact r4
  · exact w_eq _ h1 h2
noncomputable def smB (x : N) : Bool := @decide (x.In 4096) (Classical.propDecidable _)
theorem smB_iff {x : N} : smB x = true ↔ x.In 4096 := by unfold smB; simp
noncomputable def tmB (x y : N) : Bool := @decide (x.In 4096 ∧ y.In 1099511627776) (Classical.propDecidable _)
theorem tmB_iff {x y : N} : tmB x y = true ↔ x.In 4096 ∧ y.In 1099511627776 := by unfold tmB; simp
def oB (n : Int) : Bool := decide (0 < n) && decide (n ≤ 18014398509481984)
theorem oB_iff {n : Int} : oB n = true ↔ 0 < n ∧ n ≤ 18014398509481984 := by simp [oB]
noncomputable def cTmsS : Con := conC2 86 fun x y => .ite (tmB x y) (.val (N.cv (x.mul y))) .no
def N.z (x : N) : N := ⟨x.a, x.b, x.c, x.d, 0⟩
theorem cv_z (x : N) : N.cv (N.z x) = N.cv x := rfl
theorem In_z {x : N} {A : Int} (h : x.In A) : (N.z x).In A := ⟨h.a1, h.a2, h.b1, h.b2, h.c1, h.c2, h.d1, h.d2⟩
theorem mul_in_of {x y : N} (h1 : x.In 4096) (h2 : y.In 1099511627776) : (x.mul y).In 18014398509481984 := (h1.mul h2).mono (by omega)
theorem cTmsS_ok (M : Int) : ConOk M cTmsS := conC2_ok nil_ok fun x y v h => by
  obtain ⟨h0, rfl⟩ := OT.pre h
  obtain ⟨h1, h2⟩ := tmB_iff.1 h0
  have e : mulW (N.z x) (N.z y) = (N.z x).mul (N.z y) := mulW_eq' ((mul_in_of (In_z h1) (In_z h2)).mono (by omega)) (by show _ ≤ (0 : Int) + 0; omega) (by show (0 : Int) + 0 ≤ _; omega)
  have e2 : N.cv (x.mul y) = N.cv (mulW (N.z x) (N.z y)) := by rw [e]; rfl
  rw [e2]
  exact EvF.of_eq 60 fun m => tTms M m (N.z x) (N.z y)
theorem oth_in {y : N} (h : y.In 4096) : y.oth.In 1099511627776 := by
  have h1 : y.nrm.In 67108864 := (h.mul h.conj).mono (by omega)
  exact (h.conj.mul h1.alt).mono (by omega)
noncomputable def cCmpS : Con := conC 85 fun x => .ite (smB (N.z x)) (.val (.tuple #[N.cv (N.z x).oth, .int .i64 (N.z x).bel])) .no
theorem conjW_in {x : N} {A : Int} (h : x.In A) (hA : A ≤ 9223372036854775807) : conjW x = x.conj := by
  obtain ⟨a1, a2, b1, b2, c1, c2, d1, d2⟩ := h
  have n1 : w (0 - x.d) = -x.d := by rw [w_eq _ (by omega) (by omega)]; omega
  have n2 : w (0 - x.c) = -x.c := by rw [w_eq _ (by omega) (by omega)]; omega
  have n3 : w (0 - x.b) = -x.b := by rw [w_eq _ (by omega) (by omega)]; omega
  unfold conjW N.conj; rw [n1, n2, n3]
theorem altW_in {x : N} {A : Int} (h : x.In A) (hA : A ≤ 9223372036854775807) : altW x = x.alt := by
  obtain ⟨a1, a2, b1, b2, c1, c2, d1, d2⟩ := h
  have n1 : w (0 - x.d) = -x.d := by rw [w_eq _ (by omega) (by omega)]; omega
  have n3 : w (0 - x.b) = -x.b := by rw [w_eq _ (by omega) (by omega)]; omega
  unfold altW N.alt; rw [n1, n3]
theorem cCmpS_ok (M : Int) : ConOk M cCmpS := conC_ok (mem_cons_ok (cTms_ok M) nil_ok) fun x v h => by
  obtain ⟨h0, rfl⟩ := OT.pre h
  have h1 := smB_iff.1 h0
  have hc := conjW_in h1 (by omega)
  have hn : (N.z x).nrm.In 67108864 := (h1.mul h1.conj).mono (by omega)
  have e1 : mulW (N.z x) (conjW (N.z x)) = (N.z x).nrm := by rw [hc]; exact mulW_eq' ((h1.mul h1.conj).mono (by omega)) (by show _ ≤ (0 : Int) + 0; omega) (by show (0 : Int) + 0 ≤ _; omega)
  have ha := altW_in hn (by omega)
  have e2 : mulW (conjW (N.z x)) (altW (mulW (N.z x) (conjW (N.z x)))) = (N.z x).oth := by rw [e1, ha, hc]; exact mulW_eq' ((h1.conj.mul hn.alt).mono (by omega)) (by show _ ≤ (0 : Int) + (0 + 0); omega) (by show (0 : Int) + (0 + 0) ≤ _; omega)
  have e3 : (mulW (mulW (N.z x) (conjW (N.z x))) (altW (mulW (N.z x) (conjW (N.z x))))).a = (N.z x).bel := by rw [e1, ha, mulW_eq' ((hn.mul hn.alt).mono (by omega)) (by show _ ≤ (0 : Int) + 0 + (0 + 0); omega) (by show (0 : Int) + 0 + (0 + 0) ≤ _; omega)]; rfl
  rw [← e2, ← e3]
  exact EvF.of_eq 60 fun m => tCmp M m (N.z x)
noncomputable def cOddS : Con := conI 87 fun n => .ite (oB n) (.val (.tuple #[.int .i64 (oddS n).1, .int .i64 ((oddS n).2 : Nat)])) .no
theorem bitLen_le {n : Int} (h1 : 0 < n) (h2 : n ≤ 18014398509481984) : Lib.bitLen n.toNat ≤ 64 ∧ n < 2 ^ Lib.bitLen n.toNat := by
  refine ⟨Any.bitLen_le64 n (by omega) (by omega), ?_⟩
  have h3 := (Lib.bitLenAux_bounds 64 n.toNat (by omega) (by omega)).2.2
  have h4 : ((n.toNat : Nat) : Int) < ((2 ^ Lib.bitLen n.toNat : Nat) : Int) := Int.ofNat_lt.2 h3
  rw [Int.natCast_pow] at h4
  have h5 : ((2 : Nat) : Int) = 2 := rfl
  rw [h5] at h4
  omega
theorem cOddS_ok (M : Int) : ConOk M cOddS := conI_ok (LL_ok M) fun n v h => by
  obtain ⟨h0, rfl⟩ := OT.pre h
  obtain ⟨h1, h2⟩ := oB_iff.1 h0
  exact eP M n (by omega) (by omega) (bitLen_le h1 h2).1
end Go.Proofs.YtihccnfaibiiiaaDoor.R
