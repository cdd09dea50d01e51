/- Ring: the program's quotients, put together. -/
import Derived.Test.YtihccnfaibiiiaaGreatDoorK07
namespace Go.Proofs.YtihccnfaibiiiaaGreatDoor.R
open Go Go.Proofs.XX.Vm Go.Proofs.XX.Rm Go.RowKit
set_option maxRecDepth 100000

/-- Raised while nothing is too large. -/
def N.rises : Nat → N → N
  | 0, x => x
  | n + 1, x => bif inB x then N.rises n x.up else x
theorem N.rises_k : ∀ (n : Nat) (x : N), (N.rises n x).k ≤ x.k + n
  | 0, x => by simp [N.rises]
  | n + 1, x => by
    simp only [N.rises]
    cases inB x
    · show x.k ≤ _; omega
    · have := N.rises_k n x.up; simp only [N.up] at this; show (N.rises n x.up).k ≤ _; simp only [N.up]; omega
/-- What has been divided, put into its least form. -/
def N.qf (x : N) : N := bif decide (x.k < 0) then N.rises (-x.k).toNat x else x.nfL x.k.toNat
def quoN (x : N) : N × Int := bif x.zero then (O, 0) else bif okB (N.qf x) then (N.qf x, 0) else (O, 8)
theorem upW_in {x : N} (h : x.In 1073741824) (h0 : -9223372036854775808 ≤ x.k) (h1 : x.k ≤ 60) : N.upW x = x.up := by
  obtain ⟨a1, a2, b1, b2, c1, c2, d1, d2⟩ := h
  have e1 : w (x.b - x.d) = x.b - x.d := w_eq _ (by omega) (by omega)
  have e2 : w (x.a + x.c) = x.a + x.c := w_eq _ (by omega) (by omega)
  have e3 : w (x.b + x.d) = x.b + x.d := w_eq _ (by omega) (by omega)
  have e4 : w (x.c - x.a) = x.c - x.a := w_eq _ (by omega) (by omega)
  have e5 : w (x.k + 1) = x.k + 1 := w_eq _ (by omega) (by omega)
  ext
  · exact e1
  · exact e2
  · exact e3
  · exact e4
  · exact e5
theorem upWL_eq : ∀ (n : Nat) (x : N), x.k + n ≤ 0 → -9223372036854775808 ≤ x.k → N.upWL n x = N.rises n x
  | 0, x => fun _ _ => rfl
  | n + 1, x => by
    intro h1 h2
    simp only [N.upWL, N.rises]
    rw [decide_eq_true (show x.k < 0 by omega), Bool.true_and, show wB x = inB x from rfl]
    cases hi : inB x with
    | false => rfl
    | true =>
      rw [cond_true, cond_true, upW_in ((inB_iff x).1 hi) h2 (by omega)]
      exact upWL_eq n x.up (by simp only [N.up]; omega) (by simp only [N.up]; omega)
theorem leastW_q {x : N} (h : x.Fit) (h1 : -4611686018427387904 ≤ x.k) (h2 : x.k ≤ 4611686018427387904) : leastW x = quoN x := by
  by_cases hk : x.k < 0
  · have hm : midW x = N.rises (-x.k).toNat x := upWL_eq _ _ (by omega) (by omega)
    have hr := N.rises_k (-x.k).toNat x
    have he : endW x = N.rises (-x.k).toNat x := by
      unfold endW
      rw [hm, show (N.rises (-x.k).toNat x).k.toNat = 0 by omega]; rfl
    unfold leastW quoN N.qf okB
    rw [he, z0_eq, decide_eq_true hk, cond_true]
    cases x.zero <;> cases rgB (N.rises (-x.k).toNat x) <;> cases inB (N.rises (-x.k).toNat x) <;> rfl
  · rw [leastW_eq h (by omega) (by omega)]
    unfold quoN N.qf fitS N.nf
    rw [decide_eq_false hk, cond_false]
    cases x.zero
    · rfl
    · rw [cond_true, cond_true, okB_O]; rfl
noncomputable def qfit (x : N) : Bool := @decide (x.Fit ∧ -4611686018427387904 ≤ x.k ∧ x.k ≤ 4611686018427387904) (Classical.propDecidable _)
theorem qfit_iff {x : N} : qfit x = true ↔ x.Fit ∧ -4611686018427387904 ≤ x.k ∧ x.k ≤ 4611686018427387904 := by unfold qfit; simp
noncomputable def cLsQ : Con := con1 84 fun x => .ite (qfit x) (.val (resV (quoN x))) .no
theorem cLsQ_ok (M : Int) : ConOk M cLsQ := con1_ok (L1_ok M) fun x v h => by
  obtain ⟨h0, rfl⟩ := OT.pre h
  obtain ⟨h1, h2, h3⟩ := qfit_iff.1 h0
  rw [← leastW_q h1 h2 h3]
  exact e46 M x (by omega) (by omega)
/-- Products without sums that are too large. -/
theorem mulW_eq' {x y : N} (h : (x.mul y).In 9223372036854775807) (h1 : -9223372036854775808 ≤ x.k + y.k) (h2 : x.k + y.k ≤ 9223372036854775807) : mulW x y = x.mul y := by
  obtain ⟨a1, a2, b1, b2, c1, c2, d1, d2⟩ := h
  simp only [N.mul] at a1 a2 b1 b2 c1 c2 d1 d2
  have sum4 : ∀ (p q r s P Q R S g1 g2 g3 : Int), (∃ k, P = p + 18446744073709551616 * k) → (∃ k, Q = q + 18446744073709551616 * k) → (∃ k, R = r + 18446744073709551616 * k) → (∃ k, S = s + 18446744073709551616 * k) →
      (∃ k, g1 = 0 + P + 18446744073709551616 * k) → (∃ k, g2 = g1 + Q + 18446744073709551616 * k) → (∃ k, g3 = g2 + R + 18446744073709551616 * k) → ∃ k, g3 + S = (p + q + r + s) + 18446744073709551616 * k := by
    rintro p q r s P Q R S g1 g2 g3 ⟨k1, h1⟩ ⟨k2, h2⟩ ⟨k3, h3⟩ ⟨k4, h4⟩ ⟨k5, h5⟩ ⟨k6, h6⟩ ⟨k7, h7⟩
    exact ⟨k1 + k2 + k3 + k4 + k5 + k6 + k7, by omega⟩
  have neg : ∀ a : Int, ∃ k, -(w a) = -a + 18446744073709551616 * k := fun a => by obtain ⟨q, hq⟩ := w_mod a; exact ⟨-q, by omega⟩
  have wm : ∀ a b : Int, ∃ k, w (a - w b) = a + -(w b) + 18446744073709551616 * k := fun a b => by obtain ⟨q, hq⟩ := w_mod (a - w b); exact ⟨q, by omega⟩
  have r1 : w (w (w (w (0 + w (x.a * y.a)) - w (x.b * y.d)) - w (x.c * y.c)) - w (x.d * y.b)) = x.a * y.a - x.b * y.d - x.c * y.c - x.d * y.b := w_of (by omega) (by omega) (by
    obtain ⟨k, h⟩ := sum4 _ _ _ _ _ _ _ _ _ _ _ (w_mod (x.a * y.a)) (neg (x.b * y.d)) (neg (x.c * y.c)) (neg (x.d * y.b)) (w_mod (0 + w (x.a * y.a))) (wm _ _) (wm _ _)
    exact ⟨k, by rw [Int.sub_eq_add_neg, h]; omega⟩)
  have r2 : w (w (w (w (0 + w (x.a * y.b)) + w (x.b * y.a)) - w (x.c * y.d)) - w (x.d * y.c)) = x.a * y.b + x.b * y.a - x.c * y.d - x.d * y.c := w_of (by omega) (by omega) (by
    obtain ⟨k, h⟩ := sum4 _ _ _ _ _ _ _ _ _ _ _ (w_mod (x.a * y.b)) (w_mod (x.b * y.a)) (neg (x.c * y.d)) (neg (x.d * y.c)) (w_mod (0 + w (x.a * y.b))) (w_mod (w (0 + w (x.a * y.b)) + w (x.b * y.a))) (wm _ _)
    exact ⟨k, by rw [Int.sub_eq_add_neg, h]; omega⟩)
  have r3 : w (w (w (w (0 + w (x.a * y.c)) + w (x.b * y.b)) + w (x.c * y.a)) - w (x.d * y.d)) = x.a * y.c + x.b * y.b + x.c * y.a - x.d * y.d := w_of (by omega) (by omega) (by
    obtain ⟨k, h⟩ := sum4 _ _ _ _ _ _ _ _ _ _ _ (w_mod (x.a * y.c)) (w_mod (x.b * y.b)) (w_mod (x.c * y.a)) (neg (x.d * y.d)) (w_mod (0 + w (x.a * y.c))) (w_mod (w (0 + w (x.a * y.c)) + w (x.b * y.b))) (w_mod (w (w (0 + w (x.a * y.c)) + w (x.b * y.b)) + w (x.c * y.a)))
    exact ⟨k, by rw [Int.sub_eq_add_neg, h]; omega⟩)
  have r4 : w (w (w (w (0 + w (x.a * y.d)) + w (x.b * y.c)) + w (x.c * y.b)) + w (x.d * y.a)) = x.a * y.d + x.b * y.c + x.c * y.b + x.d * y.a := w_of (by omega) (by omega) (by
    obtain ⟨k, h⟩ := sum4 _ _ _ _ _ _ _ _ _ _ _ (w_mod (x.a * y.d)) (w_mod (x.b * y.c)) (w_mod (x.c * y.b)) (w_mod (x.d * y.a)) (w_mod (0 + w (x.a * y.d))) (w_mod (w (0 + w (x.a * y.d)) + w (x.b * y.c))) (w_mod (w (w (0 + w (x.a * y.d)) + w (x.b * y.c)) + w (x.c * y.b)))
    exact ⟨k, by rw [h]⟩)
  ext
  · exact r1
  · exact r2
  · exact r3
  · exact r4
  · exact w_eq _ h1 h2
noncomputable def smB (x : N) : Bool := @decide (x.In 4096) (Classical.propDecidable _)
theorem smB_iff {x : N} : smB x = true ↔ x.In 4096 := by unfold smB; simp
noncomputable def tmB (x y : N) : Bool := @decide (x.In 4096 ∧ y.In 1099511627776) (Classical.propDecidable _)
theorem tmB_iff {x y : N} : tmB x y = true ↔ x.In 4096 ∧ y.In 1099511627776 := by unfold tmB; simp
def oB (n : Int) : Bool := decide (0 < n) && decide (n ≤ 18014398509481984)
theorem oB_iff {n : Int} : oB n = true ↔ 0 < n ∧ n ≤ 18014398509481984 := by simp [oB]
noncomputable def cTmsS : Con := conC2 85 fun x y => .ite (tmB x y) (.val (N.cv (x.mul y))) .no
def N.z (x : N) : N := ⟨x.a, x.b, x.c, x.d, 0⟩
theorem cv_z (x : N) : N.cv (N.z x) = N.cv x := rfl
theorem In_z {x : N} {A : Int} (h : x.In A) : (N.z x).In A := ⟨h.a1, h.a2, h.b1, h.b2, h.c1, h.c2, h.d1, h.d2⟩
theorem mul_in_of {x y : N} (h1 : x.In 4096) (h2 : y.In 1099511627776) : (x.mul y).In 18014398509481984 := (h1.mul h2).mono (by omega)
theorem cTmsS_ok (M : Int) : ConOk M cTmsS := conC2_ok nil_ok fun x y v h => by
  obtain ⟨h0, rfl⟩ := OT.pre h
  obtain ⟨h1, h2⟩ := tmB_iff.1 h0
  have e : mulW (N.z x) (N.z y) = (N.z x).mul (N.z y) := mulW_eq' ((mul_in_of (In_z h1) (In_z h2)).mono (by omega)) (by show _ ≤ (0 : Int) + 0; omega) (by show (0 : Int) + 0 ≤ _; omega)
  have e2 : N.cv (x.mul y) = N.cv (mulW (N.z x) (N.z y)) := by rw [e]; rfl
  rw [e2]
  exact EvF.of_eq 60 fun m => tTms M m (N.z x) (N.z y)
theorem oth_in {y : N} (h : y.In 4096) : y.oth.In 1099511627776 := by
  have h1 : y.nrm.In 67108864 := (h.mul h.conj).mono (by omega)
  exact (h.conj.mul h1.alt).mono (by omega)
noncomputable def cCmpS : Con := conC 107 fun x => .ite (smB (N.z x)) (.val (.tuple #[N.cv (N.z x).oth, .int .i64 (N.z x).bel])) .no
theorem conjW_in {x : N} {A : Int} (h : x.In A) (hA : A ≤ 9223372036854775807) : conjW x = x.conj := by
  obtain ⟨a1, a2, b1, b2, c1, c2, d1, d2⟩ := h
  have n1 : w (0 - x.d) = -x.d := by rw [w_eq _ (by omega) (by omega)]; omega
  have n2 : w (0 - x.c) = -x.c := by rw [w_eq _ (by omega) (by omega)]; omega
  have n3 : w (0 - x.b) = -x.b := by rw [w_eq _ (by omega) (by omega)]; omega
  unfold conjW N.conj; rw [n1, n2, n3]
theorem altW_in {x : N} {A : Int} (h : x.In A) (hA : A ≤ 9223372036854775807) : altW x = x.alt := by
  obtain ⟨a1, a2, b1, b2, c1, c2, d1, d2⟩ := h
  have n1 : w (0 - x.d) = -x.d := by rw [w_eq _ (by omega) (by omega)]; omega
  have n3 : w (0 - x.b) = -x.b := by rw [w_eq _ (by omega) (by omega)]; omega
  unfold altW N.alt; rw [n1, n3]
theorem cCmpS_ok (M : Int) : ConOk M cCmpS := conC_ok (mem_cons_ok (cTms_ok M) nil_ok) fun x v h => by
  obtain ⟨h0, rfl⟩ := OT.pre h
  have h1 := smB_iff.1 h0
  have hc := conjW_in h1 (by omega)
  have hn : (N.z x).nrm.In 67108864 := (h1.mul h1.conj).mono (by omega)
  have e1 : mulW (N.z x) (conjW (N.z x)) = (N.z x).nrm := by rw [hc]; exact mulW_eq' ((h1.mul h1.conj).mono (by omega)) (by show _ ≤ (0 : Int) + 0; omega) (by show (0 : Int) + 0 ≤ _; omega)
  have ha := altW_in hn (by omega)
  have e2 : mulW (conjW (N.z x)) (altW (mulW (N.z x) (conjW (N.z x)))) = (N.z x).oth := by rw [e1, ha, hc]; exact mulW_eq' ((h1.conj.mul hn.alt).mono (by omega)) (by show _ ≤ (0 : Int) + (0 + 0); omega) (by show (0 : Int) + (0 + 0) ≤ _; omega)
  have e3 : (mulW (mulW (N.z x) (conjW (N.z x))) (altW (mulW (N.z x) (conjW (N.z x))))).a = (N.z x).bel := by rw [e1, ha, mulW_eq' ((hn.mul hn.alt).mono (by omega)) (by show _ ≤ (0 : Int) + 0 + (0 + 0); omega) (by show (0 : Int) + 0 + (0 + 0) ≤ _; omega)]; rfl
  rw [← e2, ← e3]
  exact EvF.of_eq 60 fun m => tCmp M m (N.z x)
noncomputable def cOddS : Con := conIF 108 fun n => .ite (oB n) (.val (.tuple #[.int .i64 (oddS n).1, .int .i64 ((oddS n).2 : Nat)])) .no
theorem bitLen_le {n : Int} (h1 : 0 < n) (h2 : n ≤ 18014398509481984) : Lib.bitLen n.toNat ≤ 64 ∧ n < 2 ^ Lib.bitLen n.toNat := by
  refine ⟨Any.bitLen_le64 n (by omega) (by omega), ?_⟩
  have h3 := (Lib.bitLenAux_bounds 64 n.toNat (by omega) (by omega)).2.2
  have h4 : ((n.toNat : Nat) : Int) < ((2 ^ Lib.bitLen n.toNat : Nat) : Int) := Int.ofNat_lt.2 h3
  rw [Int.natCast_pow] at h4
  have h5 : ((2 : Nat) : Int) = 2 := rfl
  rw [h5] at h4
  omega
theorem cOddS_ok (M : Int) : ConOk M cOddS := conIF_ok (LL_ok M) fun n v h => by
  obtain ⟨h0, rfl⟩ := OT.pre h
  obtain ⟨h1, h2⟩ := oB_iff.1 h0
  exact eP M n (by omega) (by omega) (bitLen_le h1 h2).1
end Go.Proofs.YtihccnfaibiiiaaGreatDoor.R
/- Ring: the program's Divide. -/
namespace Go.Proofs.YtihccnfaibiiiaaGreatDoor.R
open Go Go.Proofs.XX.Vm Go.Proofs.XX.Rm Go.RowKit
set_option maxRecDepth 100000

/-- What is divided, by what, and how often that was halved. -/
def quA (x y : N) : N := (N.z x).mul (N.z y).oth
def quO (y : N) : Int := (oddS (N.z y).bel).1
def quT (y : N) : Int := ((oddS (N.z y).bel).2 : Nat)
def dv {α : Type} (o : Int) (t : Option α) : Option α := bif o != 0 then t else none
/-- The quotient, before it is put into its least form. -/
def quN (x y : N) : N := ⟨(quA x y).a.tdiv (quO y), (quA x y).b.tdiv (quO y), (quA x y).c.tdiv (quO y), (quA x y).d.tdiv (quO y), x.k - y.k + 2 * quT y⟩
def quW (x y : N) : N := ⟨w ((quA x y).a.tdiv (quO y)), w ((quA x y).b.tdiv (quO y)), w ((quA x y).c.tdiv (quO y)), w ((quA x y).d.tdiv (quO y)), w (w (x.k - y.k) + w (2 * quT y))⟩
noncomputable abbrev LQ : List Con := [cTmsS, cCmpS, cOddS, cLsQ]
theorem LQ_ok (M : Int) : ∀ c ∈ LQ, ConOk M c := mem_cons_ok (cTmsS_ok M) (mem_cons_ok (cCmpS_ok M) (mem_cons_ok (cOddS_ok M) (mem_cons_ok (cLsQ_ok M) nil_ok)))
theorem tQuo (M : Int) (m : Nat) (x y : N) : runK Tryz.prog (orcL LQ) (Sg1 M) (m + 60) 87 [N.v x, N.v y] =
    bif smB (N.z y) then (bif tmB (N.z x) (N.z (N.z y).oth) then (bif oB (N.z y).bel then
      dv (quO y) (bif (quA x y).a.tmod (quO y) != 0 then some (resV (O, 6)) else dv (quO y) (bif (quA x y).b.tmod (quO y) != 0 then some (resV (O, 6)) else
      dv (quO y) (bif (quA x y).c.tmod (quO y) != 0 then some (resV (O, 6)) else dv (quO y) (bif (quA x y).d.tmod (quO y) != 0 then some (resV (O, 6)) else
      dv (quO y) (dv (quO y) (dv (quO y) (dv (quO y) (bif qfit (quW x y) then some (resV (quoN (quW x y))) else none)))))))) else none) else none) else none := by kernel_rfl
def remB (x y : N) : Bool := (quA x y).a.tmod (quO y) != 0 || ((quA x y).b.tmod (quO y) != 0 || ((quA x y).c.tmod (quO y) != 0 || (quA x y).d.tmod (quO y) != 0))
def quoS (x y : N) : N × Int := bif remB x y then (O, 6) else quoN (quN x y)
/-- Numbers that may be divided by each other. -/
noncomputable def quB (x y : N) : Bool := @decide (x.In 4096 ∧ y.In 4096 ∧ y.zero = false ∧ 0 ≤ x.k ∧ x.k ≤ 60 ∧ 0 ≤ y.k ∧ y.k ≤ 60) (Classical.propDecidable _)
theorem quB_iff {x y : N} : quB x y = true ↔ x.In 4096 ∧ y.In 4096 ∧ y.zero = false ∧ 0 ≤ x.k ∧ x.k ≤ 60 ∧ 0 ≤ y.k ∧ y.k ≤ 60 := by unfold quB; simp
theorem quO_pos {y : N} (h : y.In 4096) (hz : y.zero = false) : 0 < quO y ∧ quO y ≤ 18014398509481984 ∧ 0 ≤ quT y ∧ quT y ≤ 64 ∧ oB (N.z y).bel = true := by
  have h1 : 0 < (N.z y).bel := N.bel_pos (y := N.z y) hz
  have h2 : (N.z y).bel ≤ 18014398509481984 := N.bel_le (In_z h)
  obtain ⟨b1, b2⟩ := bitLen_le h1 h2
  obtain ⟨g1, g2, g3⟩ := oddL_pos _ _ h1 b2
  refine ⟨g1, ?_, ?_, ?_, oB_iff.2 ⟨h1, h2⟩⟩
  · show (oddS (N.z y).bel).1 ≤ _; unfold oddS; omega
  · show 0 ≤ (((oddS (N.z y).bel).2 : Nat) : Int); omega
  · show (((oddS (N.z y).bel).2 : Nat) : Int) ≤ 64; unfold oddS; omega
theorem quA_in {x y : N} (hx : x.In 4096) (hy : y.In 4096) : (quA x y).In 18014398509481984 := mul_in_of (In_z hx) (oth_in (In_z hy))
theorem tdiv_in {a o A : Int} (h1 : -A ≤ a) (h2 : a ≤ A) : -A ≤ a.tdiv o ∧ a.tdiv o ≤ A := by
  have := Int.natAbs_tdiv_le_natAbs a o
  omega
theorem quN_in {x y : N} (hx : x.In 4096) (hy : y.In 4096) : (quN x y).In 18014398509481984 := by
  obtain ⟨a1, a2, b1, b2, c1, c2, d1, d2⟩ := quA_in hx hy
  exact ⟨(tdiv_in a1 a2).1, (tdiv_in a1 a2).2, (tdiv_in b1 b2).1, (tdiv_in b1 b2).2, (tdiv_in c1 c2).1, (tdiv_in c1 c2).2, (tdiv_in d1 d2).1, (tdiv_in d1 d2).2⟩
theorem quW_eq {x y : N} (h : quB x y = true) : quW x y = quN x y := by
  obtain ⟨hx, hy, hz, k1, k2, k3, k4⟩ := quB_iff.1 h
  obtain ⟨o1, o2, t1, t2, -⟩ := quO_pos hy hz
  obtain ⟨a1, a2, b1, b2, c1, c2, d1, d2⟩ := quN_in hx hy
  simp only [quN] at a1 a2 b1 b2 c1 c2 d1 d2
  ext
  · exact w_eq _ (by omega) (by omega)
  · exact w_eq _ (by omega) (by omega)
  · exact w_eq _ (by omega) (by omega)
  · exact w_eq _ (by omega) (by omega)
  · show w (w (x.k - y.k) + w (2 * quT y)) = x.k - y.k + 2 * quT y
    rw [w_eq (x.k - y.k) (by omega) (by omega), w_eq (2 * quT y) (by omega) (by omega), w_eq _ (by omega) (by omega)]
theorem quN_fit {x y : N} (h : quB x y = true) : qfit (quN x y) = true := by
  obtain ⟨hx, hy, hz, k1, k2, k3, k4⟩ := quB_iff.1 h
  obtain ⟨o1, o2, t1, t2, -⟩ := quO_pos hy hz
  refine qfit_iff.2 ⟨N.Fit.of_in ((quN_in hx hy).mono (by omega)), ?_, ?_⟩
  · show _ ≤ x.k - y.k + 2 * quT y; omega
  · show x.k - y.k + 2 * quT y ≤ _; omega
theorem z_oth (y : N) : N.z (N.z y).oth = (N.z y).oth := by
  ext
  · rfl
  · rfl
  · rfl
  · rfl
  · show (0 : Int) = 0 + (0 + 0); omega
theorem eQuo (M : Int) (x y : N) (h : quB x y = true) : EvF Tryz.prog (orcL LQ) (Sg1 M) 87 [N.v x, N.v y] (resV (quoS x y)) := by
  refine EvF.of_eq 60 fun m => ?_
  have h' := quB_iff.1 h
  obtain ⟨hx, hy, hz, k1, k2, k3, k4⟩ := h'
  obtain ⟨o1, o2, t1, t2, ob⟩ := quO_pos hy hz
  have hd : ∀ {α : Type} (t : Option α), dv (quO y) t = t := fun t => by
    unfold dv; rw [show (quO y != 0) = true from bne_iff_ne.2 (by omega)]; rfl
  rw [tQuo, smB_iff.2 (In_z hy), z_oth, tmB_iff.2 ⟨In_z hx, oth_in (In_z hy)⟩, ob, quW_eq h, quN_fit h]
  simp only [hd, cond_true, quoS, remB]
  cases (quA x y).a.tmod (quO y) != 0 <;> cases (quA x y).b.tmod (quO y) != 0 <;> cases (quA x y).c.tmod (quO y) != 0 <;> cases (quA x y).d.tmod (quO y) != 0 <;> rfl
noncomputable def cQuo : Con := con2 87 fun x y => .ite (quB x y) (.val (resV (quoS x y))) .no
theorem cQuo_ok (M : Int) : ConOk M cQuo := con2_ok (LQ_ok M) fun x y v h => by
  obtain ⟨h0, rfl⟩ := OT.pre h
  exact eQuo M x y h0

def wi (x : N) : Bool := withinB x.a x.b x.c x.d 4096
theorem wi_iff (x : N) : wi x = true ↔ x.In 4096 := by
  unfold wi; rw [within_iff _ _ _ _ _ (by omega) (by omega)]
  exact ⟨fun ⟨h1, h2, h3, h4, h5, h6, h7, h8⟩ => ⟨h1, h2, h3, h4, h5, h6, h7, h8⟩, fun h => ⟨h.a1, h.a2, h.b1, h.b2, h.c1, h.c2, h.d1, h.d2⟩⟩
noncomputable abbrev LV : List Con := [cChk, con1 54 fun x => okV x (resV (x.nf, 0)), cQuo]
theorem LV_ok (M : Int) : ∀ c ∈ LV, ConOk M c := mem_cons_ok (cChk_ok M) (mem_cons_ok (leaOk_ok M) (mem_cons_ok (cQuo_ok M) nil_ok))
theorem tDiv (M : Int) (m : Nat) (x y : N) : runK Tryz.prog (orcL LV) (Sg1 M) (m + 60) 55 [N.v x, N.v y] =
    bif3 x (bif3 y (bif okB x then (bif okB y then (bif !(wi x.nf) then some (resV (O, 8)) else (bif !(wi y.nf) then some (resV (O, 8)) else (bif eqN y.nf O then some (resV (O, 6)) else (bif quB x.nf y.nf then some (resV (quoS x.nf y.nf)) else none)))) else none) else none)
      fun n => some (resV (O, n))) fun n => some (resV (O, n)) := by kernel_rfl
def divS (x y : N) : N × Int := bif wi x.nf then (bif wi y.nf then (bif y.zero then (O, 6) else quoS x.nf y.nf) else (O, 8)) else (O, 8)
def divT (x y : N) : OT := okT x (okT y (.val (resV (divS x y))) badN) badN
theorem nf_zero (x : N) : eqN x.nf O = x.zero := by
  rw [Bool.eq_iff_iff, eqN_iff]
  constructor
  · intro h
    cases hz : x.zero with
    | true => rfl
    | false =>
      exfalso
      have e : x.nf = x.nfL x.k.toNat := by unfold N.nf; rw [hz]; rfl
      have key : ∀ (n : Nat) (x : N), x.zero = false → (x.nfL n).zero = false := by
        intro n
        induction n with
        | zero => intro x h; exact h
        | succ n ih =>
          intro x h
          simp only [N.nfL]
          cases hg : x.goes with
          | false => exact h
          | true =>
            simp only [cond_true]
            exact ih x.dn (by rw [N.zero_dn ((N.goes_iff x).1 hg).2]; exact h)
      have h2 := key x.k.toNat x hz
      rw [← e, h] at h2
      cases h2
  · intro h; rw [N.nf_of_zero h]
theorem nf_zero' (x : N) : x.nf.zero = x.zero := by
  cases hz : x.zero with
  | true => rw [N.nf_of_zero hz]; rfl
  | false =>
    cases h : x.nf.zero with
    | false => rfl
    | true =>
      exfalso
      have e : x.nf = x.nfL x.k.toNat := by unfold N.nf; rw [hz]; rfl
      have key : ∀ (n : Nat) (x : N), x.zero = false → (x.nfL n).zero = false := by
        intro n
        induction n with
        | zero => intro x h; exact h
        | succ n ih =>
          intro x h
          simp only [N.nfL]
          cases hg : x.goes with
          | false => exact h
          | true =>
            simp only [cond_true]
            exact ih x.dn (by rw [N.zero_dn ((N.goes_iff x).1 hg).2]; exact h)
      have h2 := key x.k.toNat x hz
      rw [← e, h] at h2
      cases h2
theorem quB_nf {x y : N} (hx : okB x = true) (hy : okB y = true) (h1 : wi x.nf = true) (h2 : wi y.nf = true) (h3 : y.zero = false) : quB x.nf y.nf = true := by
  obtain ⟨k1, k2, -⟩ := (okB_iff _).1 (okB_nf hx)
  obtain ⟨k3, k4, -⟩ := (okB_iff _).1 (okB_nf hy)
  exact quB_iff.2 ⟨(wi_iff _).1 h1, (wi_iff _).1 h2, by rw [nf_zero', h3], k1, k2, k3, k4⟩
theorem cDiv_ok (M : Int) : ConOk M (con2 55 divT) := con2_ok (LV_ok M) fun x y v h => by
  refine EvF.of_eq 60 fun m => get_some h ?_
  rw [tDiv]
  unfold divT
  rw [okT_get]
  refine bif3_ext (fun hx => ?_) fun n => rfl
  rw [okT_get]
  refine bif3_ext (fun hy => ?_) fun n => rfl
  rw [hx, hy, nf_zero]
  unfold divS
  simp only [cond_true, OT.get]
  cases h1 : wi x.nf with
  | false => rfl
  | true =>
    cases h2 : wi y.nf with
    | false => rfl
    | true =>
      cases h3 : y.zero with
      | true => rfl
      | false => rw [quB_nf hx hy h1 h2 h3]; rfl
end Go.Proofs.YtihccnfaibiiiaaGreatDoor.R
/- Ring: the specification's Divide, piece by piece (made by mkdiv.py). -/
namespace Go.Proofs.YtihccnfaibiiiaaGreatDoor.R
open Go Go.Proofs.XX.Vm Go.Proofs.XX.Rm Go.RowKit
set_option maxRecDepth 100000

def bydB (x : N) (l : Int) : Bool := decide (x.a > l) || (decide (x.a < w (0 - l)) || (decide (x.b > l) || (decide (x.b < w (0 - l)) || (decide (x.c > l) || (decide (x.c < w (0 - l)) || (decide (x.d > l) || decide (x.d < w (0 - l))))))))
theorem tByd (M : Int) (m : Nat) (x : N) (l : Int) : runK Tryz.prog (orcL []) (Sg1 M) (m + 60) 89 [N.v x, .int .i64 l] =
    bif decide (x.a > l) then some (.bool true) else bif decide (x.a < w (0 - l)) then some (.bool true) else bif decide (x.b > l) then some (.bool true) else bif decide (x.b < w (0 - l)) then some (.bool true) else bif decide (x.c > l) then some (.bool true) else bif decide (x.c < w (0 - l)) then some (.bool true) else bif decide (x.d > l) then some (.bool true) else some (.bool (decide (x.d < w (0 - l)))) := by kernel_rfl
def cByd : Con := ⟨89, fun args => match args with
  | [v, .int .i64 l] => match asN v with
    | some x => some (.val (.bool (bydB x l)))
    | none => none
  | _ => none⟩
theorem cByd_ok (M : Int) : ConOk M cByd := by
  refine conOk_of_evF nil_ok ?_
  intro args t v ht hv
  simp only [cByd] at ht
  split at ht
  · rename_i u l
    split at ht
    · rename_i x hx
      rw [asN_eq hx]
      cases ht
      cases hv
      refine ⟨rfl, EvF.of_eq 60 fun m => ?_⟩
      rw [show cByd.f = 89 from rfl, tByd]
      unfold bydB
      cases decide (x.a > l) <;> cases decide (x.a < w (0 - l)) <;> cases decide (x.b > l) <;> cases decide (x.b < w (0 - l)) <;> cases decide (x.c > l) <;> cases decide (x.c < w (0 - l)) <;> cases decide (x.d > l) <;> rfl
    · cases ht
  · cases ht
theorem bydB_eq (x : N) (l : Int) (h0 : 0 ≤ l) (h1 : l ≤ 9223372036854775807) : bydB x l = !(withinB x.a x.b x.c x.d l) := by
  have e : w (0 - l) = -l := by rw [w_eq _ (by omega) (by omega)]; omega
  have h := within_iff x.a x.b x.c x.d l h0 h1
  have g : bydB x l = true ↔ ¬ (withinB x.a x.b x.c x.d l = true) := by
    rw [h]; unfold bydB; rw [e]; simp only [Bool.or_eq_true, decide_eq_true_eq]; omega
  clear h e
  generalize withinB x.a x.b x.c x.d l = p at g ⊢
  generalize bydB x l = q at g ⊢
  cases p <;> cases q <;> simp at g ⊢
/-- The specification's product, and times. -/
def prR (x y : N) : N :=
  ⟨w (w (w (w (x.a * y.a) - w (x.b * y.d)) - w (x.c * y.c)) - w (x.d * y.b)), w (w (w (w (x.a * y.b) + w (x.b * y.a)) - w (x.c * y.d)) - w (x.d * y.c)),
   w (w (w (w (x.a * y.c) + w (x.b * y.b)) + w (x.c * y.a)) - w (x.d * y.d)), w (w (w (w (x.a * y.d) + w (x.b * y.c)) + w (x.c * y.b)) + w (x.d * y.a)), w (x.k + y.k)⟩
theorem tPrd (M : Int) (m : Nat) (x y : N) : runK Tryz.prog (orcL []) (Sg1 M) (m + 60) 46 [N.v x, N.v y] = some (N.v (prR x y)) := by kernel_rfl
def cPrd : Con := con2 46 fun x y => .val (N.v (prR x y))
theorem cPrdF_ok (M : Int) : ConOk M cPrd := con2_ok nil_ok fun x y v h => by cases h; exact EvF.of_eq 60 fun m => tPrd M m x y
theorem w_w (a : Int) : w (0 + w a) = w a := by
  show IntKind.i64.wrap (0 + IntKind.i64.wrap a) = IntKind.i64.wrap a
  rw [IntKind.wrap_i64, IntKind.wrap_i64]; omega
theorem prR_eq (x y : N) : prR x y = mulW x y := by
  unfold prR mulW; simp only [w_w]
theorem tCjg (M : Int) (m : Nat) (x : N) : runK Tryz.prog (orcL []) (Sg1 M) (m + 60) 58 [N.v x] = some (N.v (conjW x)) := by kernel_rfl
def cCjg : Con := con1 58 fun x => .val (N.v (conjW x))
theorem cCjg_ok (M : Int) : ConOk M cCjg := con1_ok nil_ok fun x v h => by cases h; exact EvF.of_eq 60 fun m => tCjg M m x
def tmV (x : N) : N := ⟨w (x.b - x.d), w (x.a + x.c), w (x.b + x.d), w (x.c - x.a), x.k⟩
theorem tTmV (M : Int) (m : Nat) (x : N) : runK Tryz.prog (orcL []) (Sg1 M) (m + 60) 43 [N.v x] = some (N.v (tmV x)) := by kernel_rfl
def cTmV : Con := con1 43 fun x => .val (N.v (tmV x))
theorem cTmV_ok (M : Int) : ConOk M cTmV := con1_ok nil_ok fun x v h => by cases h; exact EvF.of_eq 60 fun m => tTmV M m x
noncomputable abbrev LDV : List Con := [cChkR, cFrm, cZer, cByd, cPrd, cCjg, cEvn, cTmV, cHlv]
theorem LDV_ok (M : Int) : ∀ c ∈ LDV, ConOk M c := mem_cons_ok (cChkR_ok M) (mem_cons_ok (cFrm_ok M) (mem_cons_ok (cZer_ok M) (mem_cons_ok (cByd_ok M) (mem_cons_ok (cPrdF_ok M) (mem_cons_ok (cCjg_ok M) (mem_cons_ok (cEvn_ok M) (mem_cons_ok (cTmV_ok M) (mem_cons_ok (cHlv_ok M) nil_ok))))))))
/-- Two numbers in a row. -/
def vb2 (x y : N) : Blk := ⟨[.int .i64 x.a, .int .i64 x.b, .int .i64 x.c, .int .i64 x.d, .int .i64 x.k, .int .i64 y.a, .int .i64 y.b, .int .i64 y.c, .int .i64 y.d, .int .i64 y.k], 23, false, none⟩
def vl2 : Value := .slice (some ⟨6, 0, none⟩) 2 2
def hNR (y : N) : N := prR (N.z y.nf) (conjW (N.z y.nf))
def hOT (y : N) : N := ⟨(hNR y).a, w (0 - (hNR y).b), 0, w (0 - (hNR y).d), 0⟩
def hBL (y : N) : Int := (prR (hNR y) (hOT y)).a
def hAB (x y : N) : N := prR (prR (N.z x.nf) (conjW (N.z y.nf))) (hOT y)
noncomputable abbrev qV (i : Nat) : Code := nthC (pcs Tryz.prog 97) i
noncomputable abbrev BV (i : Nat) : Code := loopOf Tryz.prog 97 i
theorem LV_eq : pcs Tryz.prog 97 = [qV 0, qV 1, qV 2, qV 3, qV 4, qV 5, qV 6, qV 7, qV 8, qV 9, qV 10, qV 11, qV 12, qV 13, qV 14, .block 0 (.loop (BV 0)), qV 16, qV 17, qV 18, qV 19, qV 20, .block 2 (.loop (BV 1)), qV 22, qV 23, qV 24, qV 25, qV 26] := by kernel_rfl
def tHead (x y : N) : List Value := [(N.v x), (N.v y), p1, p2, p3, (.int .i64 (0)), (.int .i64 (0)), (.int .i64 (w (x.nf.k - y.nf.k))), (.pointer (some ⟨7, 0, none⟩)), (.pointer (some ⟨8, 0, none⟩)), (.int .i64 (hBL y)), (.pointer (some ⟨9, 0, none⟩)), (N.v x), (N.v y), vl2, (.int .i64 (0)), (.int .i64 (0)), (.bool false), undef, undef, (N.v x), (N.v x.nf), (N.v y), (N.v y.nf), (N.v x.nf), (.bool (bydB x.nf 4096)), (.bool false), (N.v y.nf), (.bool (bydB y.nf 4096)), (.bool false), undef, (N.v y.nf), (.bool false), undef, (.pointer (some ⟨3, 4, none⟩)), (.int .i64 (x.nf.k)), (.pointer (some ⟨4, 4, none⟩)), (.int .i64 (y.nf.k)), (.int .i64 (w (x.nf.k - y.nf.k))), (.pointer (some ⟨3, 4, none⟩)), (.pointer (some ⟨4, 4, none⟩)), (N.v (N.z y.nf)), (N.v (N.z y.nf)), (N.v (conjW (N.z y.nf))), (N.v (hNR y)), (.pointer (some ⟨7, 0, none⟩)), (.int .i64 ((hNR y).a)), (.pointer (some ⟨7, 1, none⟩)), (.int .i64 ((hNR y).b)), (.int .i64 (w (0 - (hNR y).b))), (.pointer (some ⟨7, 3, none⟩)), (.int .i64 ((hNR y).d)), (.int .i64 (w (0 - (hNR y).d))), (N.v (hOT y)), (N.v (hNR y)), (N.v (hOT y)), (N.v (prR (hNR y) (hOT y))), (.int .i64 (hBL y)), (N.v (N.z x.nf)), (N.v (N.z y.nf)), (N.v (conjW (N.z y.nf))), (N.v (prR (N.z x.nf) (conjW (N.z y.nf)))), (N.v (hOT y)), (N.v (hAB x y)), undef, undef, undef, undef, undef, undef, undef, undef, undef, undef, undef, undef, undef, undef, undef, undef, undef, undef, undef, undef, undef, undef, undef, undef, undef, undef, undef, undef, undef, undef, undef, undef, undef, undef, undef, undef, undef, undef, undef, undef, undef, undef, undef, undef, undef, undef, undef, undef, undef, undef, undef, undef, undef, undef, undef, undef, undef, undef, undef, undef, undef, undef, undef, undef, undef, undef, undef, undef, undef, undef, undef, undef, undef, undef, undef, undef, undef, undef, undef, undef, undef, undef, undef, undef, undef, undef, undef, undef, undef, undef, undef, undef, undef]
def tErr (x y : N) (e : Int) : List Value := [(N.v x), (N.v y), p1, p2, p3, (.int .i64 (e)), (.int .i64 (e)), undef, undef, undef, undef, undef, (N.v x), (N.v y), vl2, (.int .i64 (e)), (.int .i64 (e)), (.bool true), (N.v O), (.int .i64 (e)), undef, undef, undef, undef, undef, undef, undef, undef, undef, undef, undef, undef, undef, undef, undef, undef, undef, undef, undef, undef, undef, undef, undef, undef, undef, undef, undef, undef, undef, undef, undef, undef, undef, undef, undef, undef, undef, undef, undef, undef, undef, undef, undef, undef, undef, undef, undef, undef, undef, undef, undef, undef, undef, undef, undef, undef, undef, undef, undef, undef, undef, undef, undef, undef, undef, undef, undef, undef, undef, undef, undef, undef, undef, undef, undef, undef, undef, undef, undef, undef, undef, undef, undef, undef, undef, undef, undef, undef, undef, undef, undef, undef, undef, undef, undef, undef, undef, undef, undef, undef, undef, undef, undef, undef, undef, undef, undef, undef, undef, undef, undef, undef, undef, undef, undef, undef, undef, undef, undef, undef, undef, undef, undef, undef, undef, undef, undef, undef, undef, undef, undef, undef, undef, undef, undef, undef, undef]
def tL1 (x y : N) : List Value := [(N.v x), (N.v y), p1, p2, p3, (.int .i64 (8)), (.int .i64 (0)), undef, undef, undef, undef, undef, (N.v x), (N.v y), vl2, (.int .i64 (0)), (.int .i64 (0)), (.bool false), undef, undef, (N.v x), (N.v x.nf), (N.v y), (N.v y.nf), (N.v x.nf), (.bool (bydB x.nf 4096)), (.bool true), undef, undef, (.bool true), (N.v O), undef, undef, undef, undef, undef, undef, undef, undef, undef, undef, undef, undef, undef, undef, undef, undef, undef, undef, undef, undef, undef, undef, undef, undef, undef, undef, undef, undef, undef, undef, undef, undef, undef, undef, undef, undef, undef, undef, undef, undef, undef, undef, undef, undef, undef, undef, undef, undef, undef, undef, undef, undef, undef, undef, undef, undef, undef, undef, undef, undef, undef, undef, undef, undef, undef, undef, undef, undef, undef, undef, undef, undef, undef, undef, undef, undef, undef, undef, undef, undef, undef, undef, undef, undef, undef, undef, undef, undef, undef, undef, undef, undef, undef, undef, undef, undef, undef, undef, undef, undef, undef, undef, undef, undef, undef, undef, undef, undef, undef, undef, undef, undef, undef, undef, undef, undef, undef, undef, undef, undef, undef, undef, undef, undef, undef, undef]
def tL2 (x y : N) : List Value := [(N.v x), (N.v y), p1, p2, p3, (.int .i64 (8)), (.int .i64 (0)), undef, undef, undef, undef, undef, (N.v x), (N.v y), vl2, (.int .i64 (0)), (.int .i64 (0)), (.bool false), undef, undef, (N.v x), (N.v x.nf), (N.v y), (N.v y.nf), (N.v x.nf), (.bool (bydB x.nf 4096)), (.bool false), (N.v y.nf), (.bool (bydB y.nf 4096)), (.bool true), (N.v O), undef, undef, undef, undef, undef, undef, undef, undef, undef, undef, undef, undef, undef, undef, undef, undef, undef, undef, undef, undef, undef, undef, undef, undef, undef, undef, undef, undef, undef, undef, undef, undef, undef, undef, undef, undef, undef, undef, undef, undef, undef, undef, undef, undef, undef, undef, undef, undef, undef, undef, undef, undef, undef, undef, undef, undef, undef, undef, undef, undef, undef, undef, undef, undef, undef, undef, undef, undef, undef, undef, undef, undef, undef, undef, undef, undef, undef, undef, undef, undef, undef, undef, undef, undef, undef, undef, undef, undef, undef, undef, undef, undef, undef, undef, undef, undef, undef, undef, undef, undef, undef, undef, undef, undef, undef, undef, undef, undef, undef, undef, undef, undef, undef, undef, undef, undef, undef, undef, undef, undef, undef, undef, undef, undef, undef, undef]
def tL3 (x y : N) : List Value := [(N.v x), (N.v y), p1, p2, p3, (.int .i64 (6)), (.int .i64 (0)), undef, undef, undef, undef, undef, (N.v x), (N.v y), vl2, (.int .i64 (0)), (.int .i64 (0)), (.bool false), undef, undef, (N.v x), (N.v x.nf), (N.v y), (N.v y.nf), (N.v x.nf), (.bool (bydB x.nf 4096)), (.bool false), (N.v y.nf), (.bool (bydB y.nf 4096)), (.bool false), undef, (N.v y.nf), (.bool true), (N.v O), undef, undef, undef, undef, undef, undef, undef, undef, undef, undef, undef, undef, undef, undef, undef, undef, undef, undef, undef, undef, undef, undef, undef, undef, undef, undef, undef, undef, undef, undef, undef, undef, undef, undef, undef, undef, undef, undef, undef, undef, undef, undef, undef, undef, undef, undef, undef, undef, undef, undef, undef, undef, undef, undef, undef, undef, undef, undef, undef, undef, undef, undef, undef, undef, undef, undef, undef, undef, undef, undef, undef, undef, undef, undef, undef, undef, undef, undef, undef, undef, undef, undef, undef, undef, undef, undef, undef, undef, undef, undef, undef, undef, undef, undef, undef, undef, undef, undef, undef, undef, undef, undef, undef, undef, undef, undef, undef, undef, undef, undef, undef, undef, undef, undef, undef, undef, undef, undef, undef, undef, undef, undef, undef]
def sHead (M : Int) (x y : N) : List Blk := [uni, pow, mxl M, rb (N.z x.nf), rb (N.z y.nf), rb O, vb2 x y, rb (hNR y), rb (hOT y), rb (hAB x y)]
theorem headV {α : Type} (M : Int) (fs : Nat → Nat) (x y : N) (l : List Code) (k : Kont α) :
    evP Tryz.prog (orcL LDV) (Sg1 M) 3 fs 0 (qV 0 :: qV 1 :: qV 2 :: qV 3 :: qV 4 :: qV 5 :: qV 6 :: qV 7 :: qV 8 :: qV 9 :: qV 10 :: qV 11 :: qV 12 :: qV 13 :: qV 14 :: l) (N.v x :: N.v y :: List.replicate 155 undef) (Sg1 M) k =
    bif3 x (bif3 y (bif symN x then (bif symN y then (bif bydB x.nf 4096 then k .ret (tL1 x y) [uni, pow, mxl M, rb x.nf, rb y.nf, rb O, vb2 x y] else (bif bydB y.nf 4096 then k .ret (tL2 x y) [uni, pow, mxl M, rb x.nf, rb y.nf, rb O, vb2 x y] else (bif y.nf.zero then k .ret (tL3 x y) [uni, pow, mxl M, rb x.nf, rb y.nf, rb O, vb2 x y] else evP Tryz.prog (orcL LDV) (Sg1 M) 3 fs 15 l (tHead x y) (sHead M x y) k))) else none) else none)
      fun e => k .ret (tErr x y e) [uni, pow, mxl M, rb x, rb y, rb O, vb2 x y]) fun e => k .ret (tErr x y e) [uni, pow, mxl M, rb x, rb y, rb O, vb2 x y] := by kernel_rfl
end Go.Proofs.YtihccnfaibiiiaaGreatDoor.R
