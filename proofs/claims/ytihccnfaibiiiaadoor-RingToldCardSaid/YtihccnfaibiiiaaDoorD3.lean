/- Ring: differences, negatives, conjugates, dots and norms. -/
import Derived.Test.YtihccnfaibiiiaaDoorD2
namespace Go.Proofs.YtihccnfaibiiiaaDoor.R
open Go Go.Proofs.XX.Vm Go.Proofs.XX.Rm Go.RowKit
set_option maxRecDepth 100000

def negW (x : N) : N := ⟨w (0 - x.a), w (0 - x.b), w (0 - x.c), w (0 - x.d), x.k⟩
def conjW (x : N) : N := ⟨x.a, w (0 - x.d), w (0 - x.c), w (0 - x.b), x.k⟩
def altW (x : N) : N := ⟨x.a, w (0 - x.b), x.c, w (0 - x.d), x.k⟩
theorem w_neg {n : Int} (h1 : -1073741824 ≤ n) (h2 : n ≤ 1073741824) : w (0 - n) = -n := by rw [w_eq _ (by omega) (by omega)]; omega
theorem negW_eq {x : N} (h : okB x = true) : negW x = x.neg := by
  obtain ⟨-, -, ⟨a1, a2, b1, b2, c1, c2, d1, d2⟩⟩ := (okB_iff x).1 h
  unfold negW N.neg; rw [w_neg a1 a2, w_neg b1 b2, w_neg c1 c2, w_neg d1 d2]
theorem conjW_eq {x : N} (h : okB x = true) : conjW x = x.conj := by
  obtain ⟨-, -, ⟨a1, a2, b1, b2, c1, c2, d1, d2⟩⟩ := (okB_iff x).1 h
  unfold conjW N.conj; rw [w_neg b1 b2, w_neg c1 c2, w_neg d1 d2]
theorem altW_eq {x : N} (h : okB x = true) : altW x = x.alt := by
  obtain ⟨-, -, ⟨a1, a2, b1, b2, c1, c2, d1, d2⟩⟩ := (okB_iff x).1 h
  unfold altW N.alt; rw [w_neg b1 b2, w_neg d1 d2]
theorem okB_neg {x : N} (h : okB x = true) : okB x.neg = true := by
  obtain ⟨h0, h1, ⟨a1, a2, b1, b2, c1, c2, d1, d2⟩⟩ := (okB_iff x).1 h
  exact (okB_iff _).2 ⟨h0, h1, by constructor <;> simp only [N.neg] <;> omega⟩
theorem okB_conj {x : N} (h : okB x = true) : okB x.conj = true := by
  obtain ⟨h0, h1, ⟨a1, a2, b1, b2, c1, c2, d1, d2⟩⟩ := (okB_iff x).1 h
  exact (okB_iff _).2 ⟨h0, h1, by constructor <;> simp only [N.conj] <;> omega⟩
theorem okB_alt {x : N} (h : okB x = true) : okB x.alt = true := by
  obtain ⟨h0, h1, ⟨a1, a2, b1, b2, c1, c2, d1, d2⟩⟩ := (okB_iff x).1 h
  exact (okB_iff _).2 ⟨h0, h1, by constructor <;> simp only [N.alt] <;> omega⟩

theorem tSub (M : Int) (m : Nat) (x y : N) : runK Tryd.prog (orcL LD) (Sg1 M) (m + 60) 31 [N.v x, N.v y] =
    bif3 x (bif3 y (bif okB2 x (negW y) then bif fitB (x.sum (negW y)) then bif okB (x.sum (negW y)).nf then some (resV ((x.sum (negW y)).nf, 0)) else some (resV (O, 8)) else none else none) fun n => some (resV (O, n))) fun n => some (resV (O, n)) := by kernel_rfl
theorem cSub_ok (M : Int) : ConOk M (con2 31 fun x y => twoT x y (x.sum y.neg)) := con2_ok (LD_ok M) fun x y v h => by
  refine EvF.of_eq 60 fun m => get_some h ?_
  rw [tSub]
  unfold twoT
  rw [okT_get]
  refine bif3_ext (fun hx => ?_) fun n => rfl
  rw [okT_get]
  refine bif3_ext (fun hy => ?_) fun n => rfl
  rw [negW_eq hy, okB2_mk hx (okB_neg hy), fit_sum hx (okB_neg hy)]; rfl
/-- What one number makes. -/
def oneT (x : N) (z : N) : OT := okT x (.val (resV (z.nf, 0))) badN
theorem tNeg (M : Int) (m : Nat) (x : N) : runK Tryd.prog (orcL LC) (Sg1 M) (m + 60) 78 [N.v x] =
    bif3 x (bif okB (negW x) then some (resV ((negW x).nf, 0)) else none) fun n => some (resV (O, n)) := by kernel_rfl
theorem cNeg_ok (M : Int) : ConOk M (con1 78 fun x => oneT x x.neg) := con1_ok (LC_ok M) fun x v h => by
  refine EvF.of_eq 60 fun m => get_some h ?_
  rw [tNeg]
  unfold oneT
  rw [okT_get]
  refine bif3_ext (fun hx => ?_) fun n => rfl
  rw [negW_eq hx, okB_neg hx]; rfl
theorem tConj (M : Int) (m : Nat) (x : N) : runK Tryd.prog (orcL LC) (Sg1 M) (m + 60) 32 [N.v x] =
    bif3 x (bif okB (conjW x) then some (resV ((conjW x).nf, 0)) else none) fun n => some (resV (O, n)) := by kernel_rfl
theorem cConj_ok (M : Int) : ConOk M (con1 32 fun x => oneT x x.conj) := con1_ok (LC_ok M) fun x v h => by
  refine EvF.of_eq 60 fun m => get_some h ?_
  rw [tConj]
  unfold oneT
  rw [okT_get]
  refine bif3_ext (fun hx => ?_) fun n => rfl
  rw [conjW_eq hx, okB_conj hx]; rfl
/-- A tree for right numbers alone. -/
theorem okV_of {M : Int} {f : FuncId} {g : N → OT} {h : N → Value} (hc : ConOk M (con1 f g)) (e : ∀ x, okB x = true → (g x).get = some (h x)) : ConOk M (con1 f fun x => okV x (h x)) := by
  intro args t v ht hv w inv
  simp only [con1] at ht
  split at ht
  · rename_i u
    split at ht
    · rename_i x hx
      cases ht
      obtain ⟨ho, rfl⟩ := okV_get hv
      exact hc [u] (g x) (h x) (by simp only [con1, hx]) (e x ho) w inv
    · cases ht
  · cases ht
theorem oneT_ok {x z : N} (h : okB x = true) : (oneT x z).get = some (resV (z.nf, 0)) := by unfold oneT; rw [okT_get, bif3_ok h]; rfl
abbrev LE : List Con := [cChk, con1 15 fun x => okV x (resV (x.nf, 0)), con1 78 fun x => okV x (resV (x.neg.nf, 0))]
theorem LE_ok (M : Int) : ∀ c ∈ LE, ConOk M c := mem_cons_ok (cChk_ok M) (mem_cons_ok (leaOk_ok M) (mem_cons_ok (okV_of (cNeg_ok M) fun _ hx => oneT_ok hx) nil_ok))
/-- The dot. -/
def oddB (x : N) : Bool := x.k.tmod 2 != 0
def N.dot (x : N) : N := bif oddB x then x.alt.neg else x.alt
theorem tDot (M : Int) (m : Nat) (x : N) : runK Tryd.prog (orcL LE) (Sg1 M) (m + 60) 33 [N.v x] =
    bif3 x (bif okB (altW x) then bif oddB x then (bif okB (altW x).nf then some (resV ((altW x).nf.neg.nf, 0)) else none) else some (resV ((altW x).nf, 0)) else none) fun n => some (resV (O, n)) := by kernel_rfl
theorem cDot_ok (M : Int) : ConOk M (con1 33 fun x => oneT x (N.dot x)) := con1_ok (LE_ok M) fun x v h => by
  refine EvF.of_eq 60 fun m => get_some h ?_
  rw [tDot]
  unfold oneT
  rw [okT_get]
  refine bif3_ext (fun hx => ?_) fun n => rfl
  rw [altW_eq hx, okB_alt hx, okB_nf (okB_alt hx)]
  unfold N.dot
  cases oddB x
  · rfl
  · simp only [cond_true, OT.get, N.nf_neg, N.nf_nf]
/-- Products of right numbers. -/
def okV2 (x y : N) (t : OT) : OT := .ite (okB2 x y) t .no
theorem okV2_of {M : Int} {f : FuncId} {g h : N → N → OT} (hc : ConOk M (con2 f g)) (e : ∀ x y, okB x = true → okB y = true → (g x y).get = (h x y).get) : ConOk M (con2 f fun x y => okV2 x y (h x y)) := by
  intro args t v ht hv w inv
  simp only [con2] at ht
  split at ht
  · rename_i u t2
    split at ht
    · rename_i x y hx hy
      cases ht
      unfold okV2 at hv
      simp only [OT.get] at hv
      cases hb : okB2 x y with
      | false => rw [hb] at hv; cases hv
      | true =>
        rw [hb, cond_true] at hv
        obtain ⟨h1, h2⟩ := okB2_iff hb
        exact hc [u, t2] (g x y) v (by simp only [con2, hx, hy]) ((e x y h1 h2).trans hv) w inv
    · cases ht
  · cases ht
theorem twoT_ok {x y z : N} (hx : okB x = true) (hy : okB y = true) : (twoT x y z).get = (fitT z.nf).get := by unfold twoT; rw [okT_get, bif3_ok hx, okT_get, bif3_ok hy]
abbrev LN : List Con := [con1 32 fun x => oneT x x.conj, con2 29 fun x y => okV2 x y (fitT (x.mul y).nf)]
theorem LN_ok (M : Int) : ∀ c ∈ LN, ConOk M c := mem_cons_ok (cConj_ok M) (mem_cons_ok (okV2_of (cMul_ok M) fun _ _ hx hy => twoT_ok hx hy) nil_ok)
theorem tNorm (M : Int) (m : Nat) (x : N) : runK Tryd.prog (orcL LN) (Sg1 M) (m + 60) 34 [N.v x] =
    bif3 x (bif okB2 x x.conj.nf then bif okB (x.mul x.conj.nf).nf then some (resV ((x.mul x.conj.nf).nf, 0)) else some (resV (O, 8)) else none) fun n => some (resV (O, n)) := by kernel_rfl
def norT (x : N) : OT := okT x (fitT (x.mul x.conj).nf) badN
theorem cNorm_ok (M : Int) : ConOk M (con1 34 norT) := con1_ok (LN_ok M) fun x v h => by
  refine EvF.of_eq 60 fun m => get_some h ?_
  rw [tNorm]
  unfold norT
  rw [okT_get]
  refine bif3_ext (fun hx => ?_) fun n => rfl
  have h0 := ((okB_iff x).1 hx).1
  rw [okB2_mk hx (okB_nf (okB_conj hx)), N.nf_mul_right h0 (show 0 ≤ x.conj.k from h0)]; rfl
end Go.Proofs.YtihccnfaibiiiaaDoor.R
