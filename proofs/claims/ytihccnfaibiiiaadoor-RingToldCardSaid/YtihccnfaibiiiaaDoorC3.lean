/- Ring: Least and Same, both sides. -/
import Derived.Test.YtihccnfaibiiiaaDoorC2
namespace Go.Proofs.YtihccnfaibiiiaaDoor.R
open Go Go.Proofs.XX.Vm Go.Proofs.XX.Rm Go.RowKit
set_option maxRecDepth 100000

theorem rem2_eq {a c : Int} (h1 : -9223372036854775808 ≤ a - c) (h2 : a - c ≤ 9223372036854775807) : (rem2 a c != 0) = !(decide ((a - c) % 2 = 0)) := by
  unfold rem2
  rw [w_eq _ h1 h2, Bool.eq_iff_iff]
  simp only [bne_iff_ne, ne_eq, Bool.not_eq_true', decide_eq_false_iff_not]
  have := Int.emod_two_eq (a - c)
  have h3 : (a - c).tmod 2 = 0 ↔ (a - c) % 2 = 0 := by
    rw [← Int.dvd_iff_tmod_eq_zero, ← Int.dvd_iff_emod_eq_zero]
  rw [h3]
theorem tdiv2 {n : Int} (h : n % 2 = 0) : n.tdiv 2 = n / 2 := by
  rw [Int.tdiv_eq_ediv_of_dvd (Int.dvd_of_emod_eq_zero h)]
theorem goesW_eq {x : N} (h : x.Fit) : N.goesW x = x.goes := by
  obtain ⟨⟨a1, a2, b1, b2, c1, c2, d1, d2⟩, ⟨e1, e2, f1, f2, g1, g2, k1, k2⟩⟩ := h
  simp only [N.up] at *
  unfold N.goesW
  rw [rem2_eq (by omega) (by omega), rem2_eq (by omega) (by omega)]
  simp only [N.goes, N.even, Bool.not_not]
  congr 1
  rw [Bool.eq_iff_iff]; simp
theorem dnW_eq {x : N} (h : x.Fit) (he : x.even = true) (h1 : -9223372036854775807 ≤ x.k) (h2 : x.k ≤ 9223372036854775807) : N.dnW x = x.dn := by
  rw [N.even_iff] at he
  obtain ⟨⟨a1, a2, b1, b2, c1, c2, d1, d2⟩, ⟨e1, e2, f1, f2, g1, g2, k1, k2⟩⟩ := h
  simp only [N.up] at *
  have r1 : w ((w (x.b - x.d)).tdiv 2) = (x.b - x.d) / 2 := by rw [w_eq (x.b - x.d) (by omega) (by omega), tdiv2 he.2, w_eq _ (by omega) (by omega)]
  have r2 : w ((w (x.a + x.c)).tdiv 2) = (x.a + x.c) / 2 := by rw [w_eq (x.a + x.c) (by omega) (by omega), tdiv2 (by omega), w_eq _ (by omega) (by omega)]
  have r3 : w ((w (x.b + x.d)).tdiv 2) = (x.b + x.d) / 2 := by rw [w_eq (x.b + x.d) (by omega) (by omega), tdiv2 (by omega), w_eq _ (by omega) (by omega)]
  have r4 : w ((w (x.c - x.a)).tdiv 2) = (x.c - x.a) / 2 := by rw [w_eq (x.c - x.a) (by omega) (by omega), tdiv2 (by omega), w_eq _ (by omega) (by omega)]
  have r5 : w (x.k - 1) = x.k - 1 := w_eq _ (by omega) (by omega)
  ext
  · exact r1
  · exact r2
  · exact r3
  · exact r4
  · exact r5
theorem dnWL_eq : ∀ (n : Nat) (x : N), x.Fit → x.k ≤ 9223372036854775807 → N.dnWL n x = x.nfL n
  | 0, _, _, _ => rfl
  | n + 1, x, h, hk => by
    simp only [N.dnWL, N.nfL, goesW_eq h]
    cases hg : x.goes with
    | false => rfl
    | true =>
      rw [N.goes_iff] at hg
      simp only [cond_true]
      rw [dnW_eq h hg.2 (by omega) hk, dnWL_eq n x.dn (h.dn hg.2) (by simp only [N.dn]; omega)]
theorem z0_eq (x : N) : z0 x = x.zero := by
  unfold z0 N.zero
  cases x.a == 0 <;> cases x.b == 0 <;> cases x.c == 0 <;> cases x.d == 0 <;> rfl
/-- Right numbers. -/
def okB (x : N) : Bool := rgB x && inB x
theorem rgB_iff (x : N) : rgB x = true ↔ 0 ≤ x.k ∧ x.k ≤ 60 := by
  simp only [rgB, Bool.and_eq_true, Bool.not_eq_true', decide_eq_false_iff_not]; omega
theorem inB_iff (x : N) : inB x = true ↔ x.In 1073741824 := by
  unfold inB
  rw [within_iff _ _ _ _ _ (by omega) (by omega)]
  exact ⟨fun ⟨h1, h2, h3, h4, h5, h6, h7, h8⟩ => ⟨h1, h2, h3, h4, h5, h6, h7, h8⟩, fun h => ⟨h.a1, h.a2, h.b1, h.b2, h.c1, h.c2, h.d1, h.d2⟩⟩
theorem okB_iff (x : N) : okB x = true ↔ 0 ≤ x.k ∧ x.k ≤ 60 ∧ x.In 1073741824 := by
  simp only [okB, Bool.and_eq_true, rgB_iff, inB_iff, and_assoc]
theorem okB_O : okB O = true := by decide
theorem okB_nf {x : N} (h : okB x = true) : okB x.nf = true := by
  rw [okB_iff] at *
  have := N.nf_k h.1
  exact ⟨this.1, by omega, h.2.2.nf⟩
theorem okB_parts {x : N} (h : okB x = true) : rgB x = true ∧ inB x = true := by simpa [okB] using h
/-- A value, or that it is too large. -/
def fitS (y : N) : N × Int := bif okB y then (y, 0) else (O, 8)
theorem fitS_of {y : N} (h : okB y = true) : fitS y = (y, 0) := by unfold fitS; rw [h]; rfl
theorem leastW_eq {x : N} (h : x.Fit) (h0 : 0 ≤ x.k) (hk : x.k ≤ 9223372036854775807) : leastW x = fitS x.nf := by
  have hm : midW x = x := by unfold midW; rw [show (-x.k).toNat = 0 by omega]; rfl
  unfold leastW endW
  rw [hm, z0_eq, dnWL_eq _ x h hk]
  cases hz : x.zero with
  | true => rw [N.nf_of_zero hz]; unfold fitS; rw [okB_O]; rfl
  | false =>
    have e : x.nf = x.nfL x.k.toNat := by unfold N.nf; rw [hz]; rfl
    rw [e]; unfold fitS okB
    cases rgB (x.nfL x.k.toNat) <;> cases inB (x.nfL x.k.toNat) <;> rfl
theorem symN_of {x : N} (h : okB x = true) : symN x = true := by
  obtain ⟨h0, h1, ⟨a1, a2, b1, b2, c1, c2, d1, d2⟩⟩ := (okB_iff x).1 h
  simp only [symN, symB, Bool.and_eq_true, decide_eq_true_eq]
  omega
/-- Three ends: a right number, one with a wrong power, one with too large a coefficient. -/
def okT (x : N) (ok : OT) (bad : Int → OT) : OT := .ite (rgB x) (.ite (inB x) ok (bad 8)) (bad 3)
def bif3 {α : Type} (x : N) (ok : α) (bad : Int → α) : α := bif rgB x then (bif inB x then ok else bad 8) else bad 3
theorem okT_get {x : N} {ok : OT} {bad : Int → OT} : (okT x ok bad).get = bif3 x ok.get fun n => (bad n).get := rfl
theorem bif3_ok {α : Type} {x : N} {ok : α} {bad : Int → α} (h : okB x = true) : bif3 x ok bad = ok := by
  obtain ⟨h1, h2⟩ := okB_parts h
  unfold bif3; rw [h1, h2]; rfl
/-- Least. -/
def badN (n : Int) : OT := .val (resV (O, n))
def leaT (x : N) : OT := okT x (.val (resV (x.nf, 0))) badN
abbrev LB : List Con := [cChk, cLst]
theorem LB_ok (M : Int) : ∀ c ∈ LB, ConOk M c := mem_cons_ok (cChk_ok M) (mem_cons_ok (cLst_ok M) nil_ok)
theorem t15 (M : Int) (m : Nat) (x : N) : runK Tryd.prog (orcL LB) (Sg1 M) (m + 60) 15 [N.v x] =
    bif3 x (bif i64B x.k then (bif z0 x then some (resV (O, 0)) else bif rgB (endW x) then (bif inB (endW x) then some (resV (endW x, 0)) else some (resV (O, 8))) else some (resV (O, 8))) else none) fun n => some (resV (O, n)) := by kernel_rfl
theorem least_some {x : N} (h : x.Fit) (h0 : 0 ≤ x.k) (hk : x.k ≤ 9223372036854775807) : (bif i64B x.k then (bif z0 x then some (resV (O, 0)) else bif rgB (endW x) then (bif inB (endW x) then some (resV (endW x, 0)) else some (resV (O, 8))) else some (resV (O, 8))) else none) = some (resV (fitS x.nf)) := by
  have hi : i64B x.k = true := by simp only [i64B, Bool.and_eq_true, decide_eq_true_eq]; omega
  rw [← leastW_eq h h0 hk, hi]
  unfold leastW
  cases z0 x <;> cases rgB (endW x) <;> cases inB (endW x) <;> rfl
theorem bif3_ext {α : Type} {x : N} {a b : α} {f g : Int → α} (h : okB x = true → a = b) (hf : ∀ n, f n = g n) : bif3 x a f = bif3 x b g := by
  unfold bif3
  cases h1 : rgB x
  · exact hf 3
  · cases h2 : inB x
    · exact hf 8
    · exact h (by unfold okB; rw [h1, h2]; rfl)
theorem get_some {t : OT} {v : Value} {o : Option Value} (h : t.get = some v) (e : o = t.get) : o = some v := e.trans h
theorem cLea_ok (M : Int) : ConOk M (con1 15 leaT) := con1_ok (LB_ok M) fun x v h => by
  refine EvF.of_eq 60 fun m => get_some h ?_
  rw [t15]
  unfold leaT
  rw [okT_get]
  refine bif3_ext (fun ho => ?_) fun n => rfl
  obtain ⟨h0, h1, h2⟩ := (okB_iff x).1 ho
  rw [least_some (N.Fit.of_in (h2.mono (by omega))) h0 (by omega), fitS_of (okB_nf ho)]; rfl
abbrev LBR : List Con := [cChkR, cFrm, cZer]
theorem LBR_ok (M : Int) : ∀ c ∈ LBR, ConOk M c := mem_cons_ok (cChkR_ok M) (mem_cons_ok (cFrm_ok M) (mem_cons_ok (cZer_ok M) nil_ok))
theorem t13 (M : Int) (m : Nat) (x : N) : runK Tryd.prog (orcL LBR) (Sg1 M) (m + 60) 13 [N.v x] =
    bif3 x (bif symN x then some (resV (x.nf, 0)) else none) fun n => some (resV (O, n)) := by kernel_rfl
theorem cLeaR_ok (M : Int) : ConOk M (con1 13 leaT) := con1_ok (LBR_ok M) fun x v h => by
  refine EvF.of_eq 60 fun m => get_some h ?_
  rw [t13]
  unfold leaT
  rw [okT_get]
  refine bif3_ext (fun ho => ?_) fun n => rfl
  rw [symN_of ho]; rfl

/-- Same. -/
def eqN (x y : N) : Bool := (x.a == y.a) && ((x.b == y.b) && ((x.c == y.c) && ((x.d == y.d) && ((x.k == y.k) && true))))
theorem eqN_iff (x y : N) : eqN x y = true ↔ x = y := by
  simp only [eqN, Bool.and_eq_true, beq_iff_eq, and_true]
  exact ⟨fun ⟨h1, h2, h3, h4, h5⟩ => N.ext h1 h2 h3 h4 h5, fun h => by subst h; exact ⟨rfl, rfl, rfl, rfl, rfl⟩⟩
def resB (r : Bool × Int) : Value := .tuple #[.bool r.1, .int .i64 r.2]
def samT (x y : N) : OT := okT x (okT y (.val (resB (eqN x.nf y.nf, 0))) fun n => .val (resB (false, n))) fun n => .val (resB (false, n))
/-- Least of a right number. -/
def okV (x : N) (v : Value) : OT := .ite (okB x) (.val v) .no
theorem okV_get {x : N} {v u : Value} (h : (okV x v).get = some u) : okB x = true ∧ u = v := OT.pre h
theorem leaOk_ok (M : Int) : ConOk M (con1 15 fun x => okV x (resV (x.nf, 0))) := con1_ok (LB_ok M) fun x v h => by
  obtain ⟨ho, rfl⟩ := okV_get h
  obtain ⟨h0, h1, h2⟩ := (okB_iff x).1 ho
  refine EvF.of_eq 60 fun m => ?_
  rw [t15, bif3_ok ho, least_some (N.Fit.of_in (h2.mono (by omega))) h0 (by omega), fitS_of (okB_nf ho)]
abbrev LC : List Con := [cChk, con1 15 fun x => okV x (resV (x.nf, 0))]
theorem LC_ok (M : Int) : ∀ c ∈ LC, ConOk M c := mem_cons_ok (cChk_ok M) (mem_cons_ok (leaOk_ok M) nil_ok)
theorem t16 (M : Int) (m : Nat) (x y : N) : runK Tryd.prog (orcL LC) (Sg1 M) (m + 60) 16 [N.v x, N.v y] =
    bif3 x (bif3 y (bif okB x then (bif okB y then some (resB (eqN x.nf y.nf, 0)) else none) else none) fun n => some (resB (false, n))) fun n => some (resB (false, n)) := by kernel_rfl
theorem cSam_ok (M : Int) : ConOk M (con2 16 samT) := con2_ok (LC_ok M) fun x y v h => by
  refine EvF.of_eq 60 fun m => get_some h ?_
  rw [t16]
  unfold samT
  rw [okT_get]
  refine bif3_ext (fun ho => ?_) fun n => rfl
  rw [okT_get]
  refine bif3_ext (fun hp => ?_) fun n => rfl
  rw [ho, hp]; rfl
abbrev LCR : List Con := [cChkR, con1 43 fun x => .ite (symN x) (.val (N.v x.nf)) .no]
theorem LCR_ok (M : Int) : ∀ c ∈ LCR, ConOk M c := mem_cons_ok (cChkR_ok M) (mem_cons_ok (cFrm_ok M) nil_ok)
theorem t14 (M : Int) (m : Nat) (x y : N) : runK Tryd.prog (orcL LCR) (Sg1 M) (m + 60) 14 [N.v x, N.v y] =
    bif3 x (bif3 y (bif symN x then (bif symN y then some (resB (eqN x.nf y.nf, 0)) else none) else none) fun n => some (resB (false, n))) fun n => some (resB (false, n)) := by kernel_rfl
theorem cSamR_ok (M : Int) : ConOk M (con2 14 samT) := con2_ok (LCR_ok M) fun x y v h => by
  refine EvF.of_eq 60 fun m => get_some h ?_
  rw [t14]
  unfold samT
  rw [okT_get]
  refine bif3_ext (fun ho => ?_) fun n => rfl
  rw [okT_get]
  refine bif3_ext (fun hp => ?_) fun n => rfl
  rw [symN_of ho, symN_of hp]; rfl
end Go.Proofs.YtihccnfaibiiiaaDoor.R
