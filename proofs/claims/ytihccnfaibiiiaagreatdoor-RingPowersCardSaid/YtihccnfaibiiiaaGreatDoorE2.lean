/- Ring: the specification's products, differences, negatives, conjugates, dots and norms. -/
import Derived.Test.YtihccnfaibiiiaaGreatDoorE1
import Derived.Test.YtihccnfaibiiiaaGreatDoorN0
namespace Go.Proofs.YtihccnfaibiiiaaGreatDoor.R
open Go Go.Proofs.XX.Vm Go.Proofs.XX.Rm Go.RowKit
set_option maxRecDepth 100000

def prdW (x y : N) : N :=
  ⟨w (w (w (w (x.a * y.a) - w (x.b * y.d)) - w (x.c * y.c)) - w (x.d * y.b)), w (w (w (w (x.a * y.b) + w (x.b * y.a)) - w (x.c * y.d)) - w (x.d * y.c)),
   w (w (w (w (x.a * y.c) + w (x.b * y.b)) + w (x.c * y.a)) - w (x.d * y.d)), w (w (w (w (x.a * y.d) + w (x.b * y.c)) + w (x.c * y.b)) + w (x.d * y.a)), w (x.k + y.k)⟩
theorem tPr (M : Int) (m : Nat) (x y : N) : runK Tryz.prog (orcL []) (Sg1 M) (m + 60) 46 [N.v x, N.v y] = some (N.v (prdW x y)) := by kernel_rfl
theorem w_add0 (a : Int) : w (0 + w a) = w a := by
  show IntKind.i64.wrap (0 + IntKind.i64.wrap a) = IntKind.i64.wrap a
  rw [IntKind.wrap_i64, IntKind.wrap_i64]; omega
theorem prdW_eq {x y : N} (hx : okB x = true) (hy : okB y = true) : prdW x y = x.mul y := by
  rw [← mulW_eq hx hy]
  unfold prdW mulW
  simp only [w_add0]
theorem cPrd_ok (M : Int) : ConOk M (con2 46 fun x y => .ite (okB2 x y) (.val (N.v (x.mul y))) .no) := con2_ok nil_ok fun x y v h => by
  obtain ⟨h0, rfl⟩ := OT.pre h
  obtain ⟨h1, h2⟩ := okB2_iff h0
  exact EvF.of_eq 60 fun m => by rw [tPr, prdW_eq h1 h2]
theorem tNg (M : Int) (m : Nat) (x : N) : runK Tryz.prog (orcL []) (Sg1 M) (m + 60) 45 [N.v x] = some (N.v (negW x)) := by kernel_rfl
theorem tCj (M : Int) (m : Nat) (x : N) : runK Tryz.prog (orcL []) (Sg1 M) (m + 60) 58 [N.v x] = some (N.v (conjW x)) := by kernel_rfl
theorem cNg_ok (M : Int) : ConOk M (con1 45 fun x => .val (N.v (negW x))) := con1_ok nil_ok fun x v h => by cases h; exact EvF.of_eq 60 fun m => tNg M m x
theorem cCj_ok (M : Int) : ConOk M (con1 58 fun x => .val (N.v (conjW x))) := con1_ok nil_ok fun x v h => by cases h; exact EvF.of_eq 60 fun m => tCj M m x
noncomputable abbrev LH : List Con := [cChkR, cFrm, cFit, con2 46 fun x y => .ite (okB2 x y) (.val (N.v (x.mul y))) .no, con1 45 fun x => .val (N.v (negW x)), con1 58 fun x => .val (N.v (conjW x)),
  con2 8 fun x y => okV2 x y (fitT (x.sum y).nf)]
theorem LH_ok (M : Int) : ∀ c ∈ LH, ConOk M c := mem_cons_ok (cChkR_ok M) (mem_cons_ok (cFrm_ok M) (mem_cons_ok (cFit_ok M) (mem_cons_ok (cPrd_ok M) (mem_cons_ok (cNg_ok M) (mem_cons_ok (cCj_ok M) (mem_cons_ok (okV2_of (cAddR_ok M) fun _ _ hx hy => twoT_ok hx hy) nil_ok))))))
theorem symN_fit2 {x : N} (h : x.Fit) (h1 : x.k ≤ 9223372036854775807) : symN x = true := by
  obtain ⟨⟨a1, a2, b1, b2, c1, c2, d1, d2⟩, -⟩ := h
  simp only [symN, symB, Bool.and_eq_true, decide_eq_true_eq]; omega
theorem tMulR (M : Int) (m : Nat) (x y : N) : runK Tryz.prog (orcL LH) (Sg1 M) (m + 60) 10 [N.v x, N.v y] =
    bif3 x (bif3 y (bif okB2 x y then bif symN (x.mul y) then bif okB (x.mul y).nf then some (resV ((x.mul y).nf, 0)) else some (resV (O, 8)) else none else none) fun n => some (resV (O, n))) fun n => some (resV (O, n)) := by kernel_rfl
theorem sym_mul {x y : N} (hx : okB x = true) (hy : okB y = true) : symN (x.mul y) = true := by
  obtain ⟨h1, h2, h3⟩ := fitB_iff.1 (fit_mul hx hy)
  exact symN_fit2 h1 (by omega)
theorem cMulR_ok (M : Int) : ConOk M (con2 10 fun x y => twoT x y (x.mul y)) := con2_ok (LH_ok M) fun x y v h => by
  refine EvF.of_eq 60 fun m => get_some h ?_
  rw [tMulR]
  unfold twoT
  rw [okT_get]
  refine bif3_ext (fun hx => ?_) fun n => rfl
  rw [okT_get]
  refine bif3_ext (fun hy => ?_) fun n => rfl
  rw [okB2_mk hx hy, sym_mul hx hy]; rfl
theorem tSubR (M : Int) (m : Nat) (x y : N) : runK Tryz.prog (orcL LH) (Sg1 M) (m + 60) 9 [N.v x, N.v y] =
    bif3 x (bif3 y (bif okB2 x (negW y) then bif okB (x.sum (negW y)).nf then some (resV ((x.sum (negW y)).nf, 0)) else some (resV (O, 8)) else none) fun n => some (resV (O, n))) fun n => some (resV (O, n)) := by kernel_rfl
theorem cSubR_ok (M : Int) : ConOk M (con2 9 fun x y => twoT x y (x.sum y.neg)) := con2_ok (LH_ok M) fun x y v h => by
  refine EvF.of_eq 60 fun m => get_some h ?_
  rw [tSubR]
  unfold twoT
  rw [okT_get]
  refine bif3_ext (fun hx => ?_) fun n => rfl
  rw [okT_get]
  refine bif3_ext (fun hy => ?_) fun n => rfl
  rw [negW_eq hy, okB2_mk hx (okB_neg hy)]; rfl
theorem tNegR (M : Int) (m : Nat) (x : N) : runK Tryz.prog (orcL LH) (Sg1 M) (m + 60) 15 [N.v x] =
    bif3 x (bif symN (negW x) then some (resV ((negW x).nf, 0)) else none) fun n => some (resV (O, n)) := by kernel_rfl
theorem cNegR_ok (M : Int) : ConOk M (con1 15 fun x => oneT x x.neg) := con1_ok (LH_ok M) fun x v h => by
  refine EvF.of_eq 60 fun m => get_some h ?_
  rw [tNegR]
  unfold oneT
  rw [okT_get]
  refine bif3_ext (fun hx => ?_) fun n => rfl
  rw [negW_eq hx, symN_of (okB_neg hx)]; rfl
theorem tConjR (M : Int) (m : Nat) (x : N) : runK Tryz.prog (orcL LH) (Sg1 M) (m + 60) 16 [N.v x] =
    bif3 x (bif symN (conjW x) then some (resV ((conjW x).nf, 0)) else none) fun n => some (resV (O, n)) := by kernel_rfl
theorem cConjR_ok (M : Int) : ConOk M (con1 16 fun x => oneT x x.conj) := con1_ok (LH_ok M) fun x v h => by
  refine EvF.of_eq 60 fun m => get_some h ?_
  rw [tConjR]
  unfold oneT
  rw [okT_get]
  refine bif3_ext (fun hx => ?_) fun n => rfl
  rw [conjW_eq hx, symN_of (okB_conj hx)]; rfl
theorem tDotR (M : Int) (m : Nat) (x : N) : runK Tryz.prog (orcL LH) (Sg1 M) (m + 60) 17 [N.v x] =
    bif3 x (bif x.k.tmod 2 == 1 then (bif symN (negW (altW x)) then some (resV ((negW (altW x)).nf, 0)) else none) else (bif symN (altW x) then some (resV ((altW x).nf, 0)) else none)) fun n => some (resV (O, n)) := by kernel_rfl
theorem odd_eq {x : N} (h : okB x = true) : (x.k.tmod 2 == 1) = oddB x := by
  obtain ⟨h0, -, -⟩ := (okB_iff x).1 h
  unfold oddB
  have e : x.k.tmod 2 = x.k % 2 := Int.tmod_eq_emod_of_nonneg h0
  rw [e, Bool.eq_iff_iff]
  simp only [beq_iff_eq, bne_iff_ne, ne_eq]; omega
theorem cDotR_ok (M : Int) : ConOk M (con1 17 fun x => oneT x (N.dot x)) := con1_ok (LH_ok M) fun x v h => by
  refine EvF.of_eq 60 fun m => get_some h ?_
  rw [tDotR]
  unfold oneT
  rw [okT_get]
  refine bif3_ext (fun hx => ?_) fun n => rfl
  rw [odd_eq hx, altW_eq hx, negW_eq (okB_alt hx), symN_of (okB_alt hx), symN_of (okB_neg (okB_alt hx))]
  unfold N.dot
  cases oddB x <;> rfl
theorem tNormR (M : Int) (m : Nat) (x : N) : runK Tryz.prog (orcL LH) (Sg1 M) (m + 60) 18 [N.v x] =
    bif3 x (bif okB2 x (conjW x) then bif symN (x.mul (conjW x)) then bif okB (x.mul (conjW x)).nf then some (resV ((x.mul (conjW x)).nf, 0)) else some (resV (O, 8)) else none else none) fun n => some (resV (O, n)) := by kernel_rfl
theorem cNormR_ok (M : Int) : ConOk M (con1 18 norT) := con1_ok (LH_ok M) fun x v h => by
  refine EvF.of_eq 60 fun m => get_some h ?_
  rw [tNormR]
  unfold norT
  rw [okT_get]
  refine bif3_ext (fun hx => ?_) fun n => rfl
  rw [conjW_eq hx, okB2_mk hx (okB_conj hx), sym_mul hx (okB_conj hx)]; rfl

abbrev LAdds : List Con := [con2 11 fun x y => .val (resV (twoS x y (x.sum y))), con2 12 fun x y => .val (resV (twoS x y (x.sum y.neg))), con2 13 fun x y => .val (resV (twoS x y (x.mul y))),
  con2 8 fun x y => .val (resV (twoS x y (x.sum y))), con2 9 fun x y => .val (resV (twoS x y (x.sum y.neg))), con2 10 fun x y => .val (resV (twoS x y (x.mul y))), cAwk]
theorem LAdds_ok (M : Int) : ∀ c ∈ LAdds, ConOk M c :=
  mem_cons_ok (con2_val (cAdd_ok M) fun x y => twoS_get x y _) (mem_cons_ok (con2_val (cSub_ok M) fun x y => twoS_get x y _) (mem_cons_ok (con2_val (cMul_ok M) fun x y => twoS_get x y _)
  (mem_cons_ok (con2_val (cAddR_ok M) fun x y => twoS_get x y _) (mem_cons_ok (con2_val (cSubR_ok M) fun x y => twoS_get x y _) (mem_cons_ok (con2_val (cMulR_ok M) fun x y => twoS_get x y _) (mem_cons_ok (cAwk_ok M) nil_ok))))))
abbrev LTurns : List Con := [con1 19 fun x => .val (resV (oneS x x.neg)), con1 20 fun x => .val (resV (oneS x x.conj)), con1 21 fun x => .val (resV (oneS x (N.dot x))), con1 22 fun x => .val (resV (norS x)),
  con1 15 fun x => .val (resV (oneS x x.neg)), con1 16 fun x => .val (resV (oneS x x.conj)), con1 17 fun x => .val (resV (oneS x (N.dot x))), con1 18 fun x => .val (resV (norS x)), cAwk]
theorem LTurns_ok (M : Int) : ∀ c ∈ LTurns, ConOk M c :=
  mem_cons_ok (con1_val (cNeg_ok M) fun x => oneS_get x _) (mem_cons_ok (con1_val (cConj_ok M) fun x => oneS_get x _) (mem_cons_ok (con1_val (cDot_ok M) fun x => oneS_get x _) (mem_cons_ok (con1_val (cNorm_ok M) norS_get)
  (mem_cons_ok (con1_val (cNegR_ok M) fun x => oneS_get x _) (mem_cons_ok (con1_val (cConjR_ok M) fun x => oneS_get x _) (mem_cons_ok (con1_val (cDotR_ok M) fun x => oneS_get x _) (mem_cons_ok (con1_val (cNormR_ok M) norS_get) (mem_cons_ok (cAwk_ok M) nil_ok))))))))
end Go.Proofs.YtihccnfaibiiiaaGreatDoor.R
