/- Ring: the order of real numbers: the specification's Less. -/
import Derived.Test.YtihccnfaibiiiaaGreatDoorG1
import Derived.Test.YtihccnfaibiiiaaGreatDoorH2
namespace Go.Proofs.YtihccnfaibiiiaaGreatDoor.R
open Go Go.Proofs.XX.Vm Go.Proofs.XX.Rm Go.RowKit
set_option maxRecDepth 100000

theorem tNgR (M : Int) (m : Nat) (x : N) : runK Tryz.prog (orcL []) (Sg1 M) (m + 60) 69 [N.v x] =
    (fun H : Option Value => (fun G : Option Value => bif decide (x.a ≥ 0) then (bif decide (x.b ≥ 0) then some (.bool false) else G) else G)
      (bif decide (x.a ≤ 0) then (bif decide (x.b ≤ 0) then some (.bool true) else H) else H))
    (bif decide (x.a < 0) then some (.bool (decide (w (x.a * x.a) > w (w (2 * x.b) * x.b)))) else some (.bool (decide (w (w (2 * x.b) * x.b) > w (x.a * x.a))))) := by kernel_rfl
theorem dsq {a : Int} (h1 : -1073741824 ≤ a) (h2 : a ≤ 1073741824) : w (w (2 * a) * a) = 2 * (a * a) := by
  have := sq_in h1 h2
  rw [w_eq (2 * a) (by omega) (by omega), Int.mul_assoc]
  exact w_eq _ (by omega) (by omega)
theorem sq_pos {a : Int} (h : a ≠ 0) : 0 < a * a := by
  rcases Int.lt_or_eq_of_le (sq_nonneg a) with h1 | h1
  · exact h1
  · exact absurd (sq_zero h1.symm) h
def cNgR : Con := con1 69 fun x => okV x (.bool (negB x))
theorem cNgR_ok (M : Int) : ConOk M cNgR := con1_ok nil_ok fun x v h => by
  obtain ⟨h0, rfl⟩ := okV_get h
  obtain ⟨-, -, a1, a2, b1, b2, -⟩ := (okB_iff x).1 h0
  have qa := sq_in a1 a2
  have qb := sq_in b1 b2
  refine EvF.of_eq 60 fun m => ?_
  rw [tNgR, dsq b1 b2, psq a1 a2]
  have key : ∀ (p : Bool), p = negB x → some (Value.bool p) = some (Value.bool (negB x)) := fun p hp => by rw [hp]
  have pa : x.a ≠ 0 → 0 < x.a * x.a := sq_pos
  have pb : x.b ≠ 0 → 0 < x.b * x.b := sq_pos
  have za : x.a = 0 → x.a * x.a = 0 := fun h => by rw [h]; rfl
  have zb : x.b = 0 → x.b * x.b = 0 := fun h => by rw [h]; rfl
  simp only
  unfold negB sgn2 at *
  by_cases ha : x.a < 0 <;> by_cases hb : x.b < 0
  · rw [condF (decide_eq_false (show ¬ x.a ≥ 0 by omega)), condT (decide_eq_true (show x.a ≤ 0 by omega)), condT (decide_eq_true (show x.b ≤ 0 by omega))]
    refine key _ ?_
    rw [decide_eq_true ha, decide_eq_true hb]; exact (decide_eq_true (by simp only [cond_true]; omega)).symm
  · rw [condF (decide_eq_false (show ¬ x.a ≥ 0 by omega)), condT (decide_eq_true (show x.a ≤ 0 by omega))]
    by_cases hb0 : x.b ≤ 0
    · rw [condT (decide_eq_true hb0)]
      refine key _ ?_
      have hb1 : x.b = 0 := by omega
      have := zb hb1; have := pa (by omega)
      rw [decide_eq_true ha, decide_eq_false hb]; exact (decide_eq_true (by simp only [cond_true, cond_false]; omega)).symm
    · rw [condF (decide_eq_false hb0), condT (decide_eq_true ha)]
      refine key _ ?_
      rw [decide_eq_true ha, decide_eq_false hb]
      exact decide_eq_decide.2 (by simp only [cond_true, cond_false]; omega)
  · rw [condT (decide_eq_true (show x.a ≥ 0 by omega)), condF (decide_eq_false (show ¬ x.b ≥ 0 by omega))]
    by_cases ha0 : x.a ≤ 0
    · rw [condT (decide_eq_true ha0), condT (decide_eq_true (show x.b ≤ 0 by omega))]
      refine key _ ?_
      have ha1 : x.a = 0 := by omega
      have := za ha1; have := pb (by omega)
      rw [decide_eq_false ha, decide_eq_true hb]; exact (decide_eq_true (by simp only [cond_true, cond_false]; omega)).symm
    · rw [condF (decide_eq_false ha0), condF (decide_eq_false ha)]
      refine key _ ?_
      rw [decide_eq_false ha, decide_eq_true hb]
      exact decide_eq_decide.2 (by simp only [cond_true, cond_false]; omega)
  · rw [condT (decide_eq_true (show x.a ≥ 0 by omega)), condT (decide_eq_true (show x.b ≥ 0 by omega))]
    refine key _ ?_
    rw [decide_eq_false ha, decide_eq_false hb]; exact (decide_eq_false (by simp only [cond_false]; omega)).symm
abbrev LLr : List Con := [cChkR, cEqu, cCjR, con2 9 fun x y => okV2 x y (fitT (x.sum y.neg).nf), cNgR]
theorem LLr_ok (M : Int) : ∀ c ∈ LLr, ConOk M c := mem_cons_ok (cChkR_ok M) (mem_cons_ok (cEqu_ok M) (mem_cons_ok (cCjR_ok M) (mem_cons_ok (okV2_of (cSubR_ok M) fun _ _ hx hy => twoT_ok hx hy) (mem_cons_ok (cNgR_ok M) nil_ok))))
theorem tLesR (M : Int) (m : Nat) (x y : N) : runK Tryz.prog (orcL LLr) (Sg1 M) (m + 60) 32 [N.v x, N.v y] =
    bif3 x (bif3 y (bif okB2 x (conjW x) then (bif !(eqN x.nf (conjW x).nf) then some (resB (false, 7)) else (bif okB2 y (conjW y) then (bif !(eqN y.nf (conjW y).nf) then some (resB (false, 7)) else (bif okB2 x y then (bif okB (x.sum y.neg).nf then (bif okB (x.sum y.neg).nf then some (resB (negB (x.sum y.neg).nf, 0)) else none) else some (resB (false, 8))) else none)) else none)) else none)
      fun n => some (resB (false, n))) fun n => some (resB (false, n)) := by kernel_rfl
theorem cLesR_ok (M : Int) : ConOk M (con2 32 lesT) := con2_ok (LLr_ok M) fun x y v h => by
  refine EvF.of_eq 60 fun m => get_some h ?_
  rw [tLesR]
  unfold lesT badB
  rw [okT_get]
  refine bif3_ext (fun hx => ?_) fun n => rfl
  rw [okT_get]
  refine bif3_ext (fun hy => ?_) fun n => rfl
  rw [(eqN_conj hx).1, (eqN_conj hx).2, (eqN_conj hy).1, (eqN_conj hy).2, okB2_mk hx hy]
  simp only [OT.get]
  cases realB x <;> cases realB y <;> cases okB (x.sum y.neg).nf <;> rfl
end Go.Proofs.YtihccnfaibiiiaaGreatDoor.R
