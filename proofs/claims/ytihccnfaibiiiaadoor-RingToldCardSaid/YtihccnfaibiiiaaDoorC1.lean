/- Ring: the specification's least form. -/
import Derived.Test.YtihccnfaibiiiaaDoorB4
namespace Go.Proofs.YtihccnfaibiiiaaDoor.R
open Go Go.Proofs.XX.Vm Go.Proofs.XX.Rm Go.RowKit
set_option maxRecDepth 100000


/-- The specification's Check. -/
def G : Int := 1073741824
theorem t18 (M : Int) (m : Nat) (x : N) : runK Tryd.prog (orcL []) (Sg1 M) (m + 60) 18 [N.v x] =
    bif decide (x.k < 0) then some (.int .i64 3) else bif decide (x.k > 60) then some (.int .i64 3) else
    bif decide (x.a > 1073741824) then some (.int .i64 8) else bif decide (x.a < -1073741824) then some (.int .i64 8) else
    bif decide (x.b > 1073741824) then some (.int .i64 8) else bif decide (x.b < -1073741824) then some (.int .i64 8) else
    bif decide (x.c > 1073741824) then some (.int .i64 8) else bif decide (x.c < -1073741824) then some (.int .i64 8) else
    bif decide (x.d > 1073741824) then some (.int .i64 8) else bif decide (x.d < -1073741824) then some (.int .i64 8) else some (.int .i64 0) := by kernel_rfl
def and1 (n : Int) : Int := IntKind.i64.wrap ((BitVec.ofInt 64 n &&& BitVec.ofInt 64 1).toNat : Int)
theorem t54 (M : Int) (m : Nat) (x : N) : runK Tryd.prog (orcL []) (Sg1 M) (m + 60) 54 [N.v x] =
    bif and1 x.a == and1 x.c then some (.bool (and1 x.b == and1 x.d)) else some (.bool false) := by kernel_rfl
def hfR (x : N) : N := ⟨w (x.b.fdiv 2 - x.d.fdiv 2), w (w (x.a.fdiv 2 + x.c.fdiv 2) + and1 x.a), w (w (x.b.fdiv 2 + x.d.fdiv 2) + and1 x.b), w (x.c.fdiv 2 - x.a.fdiv 2), x.k⟩
theorem t56 (M : Int) (m : Nat) (x : N) : runK Tryd.prog (orcL []) (Sg1 M) (m + 60) 56 [N.v x] = some (N.v (hfR x)) := by kernel_rfl
theorem t51 (M : Int) (m : Nat) (x : N) : runK Tryd.prog (orcL []) (Sg1 M) (m + 60) 51 [N.v x] =
    bif x.a == 0 then (bif x.b == 0 then (bif x.c == 0 then some (.bool (x.d == 0)) else some (.bool false)) else some (.bool false)) else some (.bool false) := by kernel_rfl

/-- What within says, in inequalities. -/
theorem within_iff (a b c d l : Int) (h0 : 0 ≤ l) (h1 : l ≤ 9223372036854775807) : withinB a b c d l = true ↔ -l ≤ a ∧ a ≤ l ∧ -l ≤ b ∧ b ≤ l ∧ -l ≤ c ∧ c ≤ l ∧ -l ≤ d ∧ d ≤ l := by
  have hw : IntKind.i64.wrap (0 - l) = -l := by rw [IntKind.wrap_i64]; omega
  simp only [withinB, hw, Bool.and_eq_true, beq_iff_eq, Bool.and_true, mn, mx]
  omega
def inG (x : N) : Prop := -1073741824 ≤ x.a ∧ x.a ≤ 1073741824 ∧ -1073741824 ≤ x.b ∧ x.b ≤ 1073741824 ∧ -1073741824 ≤ x.c ∧ x.c ≤ 1073741824 ∧ -1073741824 ≤ x.d ∧ x.d ≤ 1073741824
theorem chk_cases (x : N) : (x.k < 0 ∧ chkI x = 3) ∨ (60 < x.k ∧ chkI x = 3) ∨ (0 ≤ x.k ∧ x.k ≤ 60 ∧ ¬ inG x ∧ chkI x = 8) ∨ (0 ≤ x.k ∧ x.k ≤ 60 ∧ inG x ∧ chkI x = 0) := by
  have hw := within_iff x.a x.b x.c x.d 1073741824 (by omega) (by omega)
  unfold chkI inG
  by_cases h1 : x.k < 0
  · left; simp [h1]
  · by_cases h2 : x.k > 60
    · right; left; simp [h1, h2]
    · cases hb : withinB x.a x.b x.c x.d 1073741824 with
      | true =>
        right; right; right
        refine ⟨by omega, by omega, hw.1 hb, ?_⟩
        simp [h1, h2]
      | false =>
        right; right; left
        refine ⟨by omega, by omega, fun h => ?_, ?_⟩
        · rw [hw.2 h] at hb; cases hb
        · simp [h1, h2]
theorem e18 (M : Int) (x : N) : EvF Tryd.prog (orcL []) (Sg1 M) 18 [N.v x] (.int .i64 (chkI x)) := by
  refine EvF.of_eq 60 fun m => ?_
  rw [t18]
  rcases chk_cases x with ⟨h, e⟩ | ⟨h, e⟩ | ⟨h1, h2, h3, e⟩ | ⟨h1, h2, h3, e⟩
  · rw [e, decide_eq_true h]; rfl
  · rw [e, decide_eq_false (by omega), decide_eq_true h]; rfl
  · rw [e, decide_eq_false (show ¬ x.k < 0 by omega), decide_eq_false (show ¬ x.k > 60 by omega)]
    simp only [cond_false]
    by_cases g1 : x.a > 1073741824
    · rw [decide_eq_true g1]; rfl
    rw [decide_eq_false g1]
    by_cases g2 : x.a < -1073741824
    · rw [decide_eq_true g2]; rfl
    rw [decide_eq_false g2]
    by_cases g3 : x.b > 1073741824
    · rw [decide_eq_true g3]; rfl
    rw [decide_eq_false g3]
    by_cases g4 : x.b < -1073741824
    · rw [decide_eq_true g4]; rfl
    rw [decide_eq_false g4]
    by_cases g5 : x.c > 1073741824
    · rw [decide_eq_true g5]; rfl
    rw [decide_eq_false g5]
    by_cases g6 : x.c < -1073741824
    · rw [decide_eq_true g6]; rfl
    rw [decide_eq_false g6]
    by_cases g7 : x.d > 1073741824
    · rw [decide_eq_true g7]; rfl
    rw [decide_eq_false g7]
    by_cases g8 : x.d < -1073741824
    · rw [decide_eq_true g8]; rfl
    exact absurd ⟨by omega, by omega, by omega, by omega, by omega, by omega, by omega, by omega⟩ h3
  · obtain ⟨g1, g2, g3, g4, g5, g6, g7, g8⟩ := h3
    rw [e, decide_eq_false (show ¬ x.k < 0 by omega), decide_eq_false (show ¬ x.k > 60 by omega), decide_eq_false (show ¬ x.a > 1073741824 by omega), decide_eq_false (show ¬ x.a < -1073741824 by omega), decide_eq_false (show ¬ x.b > 1073741824 by omega), decide_eq_false (show ¬ x.b < -1073741824 by omega), decide_eq_false (show ¬ x.c > 1073741824 by omega), decide_eq_false (show ¬ x.c < -1073741824 by omega), decide_eq_false (show ¬ x.d > 1073741824 by omega), decide_eq_false (show ¬ x.d < -1073741824 by omega)]; rfl
def cChkR : Con := con1 18 fun x => .ite (rgB x) (.ite (inB x) (.val (.int .i64 0)) (.val (.int .i64 8))) (.val (.int .i64 3))
theorem cChkR_ok (M : Int) : ConOk M cChkR := con1_ok nil_ok fun x v h => by
  have e := chkI_eq x
  simp only [OT.get] at h
  have h2 : v = .int .i64 (chkI x) := by
    rw [e]
    cases h1 : rgB x <;> cases h3 : inB x <;> rw [h1, h3] at h <;> cases h <;> rfl
  rw [h2]
  exact e18 M x

/-- Halves. -/
def evR (x : N) : Bool := (and1 x.a == and1 x.c) && (and1 x.b == and1 x.d)
theorem e54 (M : Int) (x : N) : EvF Tryd.prog (orcL []) (Sg1 M) 54 [N.v x] (.bool (evR x)) :=
  EvF.of_eq 60 fun m => by rw [t54]; unfold evR; cases and1 x.a == and1 x.c <;> rfl
def cEvn : Con := con1 54 fun x => .val (.bool (evR x))
theorem cEvn_ok (M : Int) : ConOk M cEvn := con1_ok nil_ok fun x v h => by cases h; exact e54 M x
def cHlv : Con := con1 56 fun x => .val (N.v (hfR x))
theorem cHlv_ok (M : Int) : ConOk M cHlv := con1_ok nil_ok fun x v h => by cases h; exact EvF.of_eq 60 fun m => t56 M m x
theorem e51 (M : Int) (x : N) : EvF Tryd.prog (orcL []) (Sg1 M) 51 [N.v x] (.bool x.zero) :=
  EvF.of_eq 60 fun m => by rw [t51]; unfold N.zero; cases x.a == 0 <;> cases x.b == 0 <;> cases x.c == 0 <;> rfl
def cZer : Con := con1 51 fun x => .val (.bool x.zero)
theorem cZer_ok (M : Int) : ConOk M cZer := con1_ok nil_ok fun x v h => by cases h; exact e51 M x
theorem and1_eq (n : Int) : and1 n = n % 2 := by
  unfold and1
  have h1 : (BitVec.ofInt 64 n &&& BitVec.ofInt 64 1).toNat = (BitVec.ofInt 64 n).toNat % 2 := by
    rw [BitVec.toNat_and]
    rw [show (BitVec.ofInt 64 1).toNat = 1 from rfl, Nat.and_one_is_mod]
  rw [h1, BitVec.toNat_ofInt, IntKind.wrap_i64]
  omega
theorem evR_eq (x : N) : evR x = x.even := by
  rw [Bool.eq_iff_iff, N.even_iff]
  simp only [evR, and1_eq, Bool.and_eq_true, beq_iff_eq]
  omega
/-- A round of the specification's. -/
def dnR (x : N) : N := { hfR x with k := w (x.k - 1) }
theorem dnR_eq {x : N} (h : x.In 9223372036854775807) (he : x.even = true) (h1 : -9223372036854775807 ≤ x.k) (h2 : x.k ≤ 9223372036854775807) : dnR x = x.dn := by
  rw [N.even_iff] at he
  obtain ⟨a1, a2, b1, b2, c1, c2, d1, d2⟩ := h
  have f : ∀ n : Int, n.fdiv 2 = n / 2 := fun n => by rw [Int.fdiv_eq_ediv_of_nonneg _ (by omega)]
  unfold dnR hfR
  simp only [f, and1_eq]
  have e1 : w (x.b / 2 - x.d / 2) = (x.b - x.d) / 2 := by rw [w_eq _ (by omega) (by omega)]; omega
  have e2 : w (w (x.a / 2 + x.c / 2) + x.a % 2) = (x.a + x.c) / 2 := by rw [w_eq (x.a / 2 + x.c / 2) (by omega) (by omega), w_eq _ (by omega) (by omega)]; omega
  have e3 : w (w (x.b / 2 + x.d / 2) + x.b % 2) = (x.b + x.d) / 2 := by rw [w_eq (x.b / 2 + x.d / 2) (by omega) (by omega), w_eq _ (by omega) (by omega)]; omega
  have e4 : w (x.c / 2 - x.a / 2) = (x.c - x.a) / 2 := by rw [w_eq _ (by omega) (by omega)]; omega
  have e5 : w (x.k - 1) = x.k - 1 := w_eq _ (by omega) (by omega)
  ext
  · exact e1
  · exact e2
  · exact e3
  · exact e4
  · exact e5
end Go.Proofs.YtihccnfaibiiiaaDoor.R
