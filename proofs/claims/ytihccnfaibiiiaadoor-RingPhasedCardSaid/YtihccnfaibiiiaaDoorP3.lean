/- Ring: the program's Phase: what it comes to (made by mkpp.py). -/
import Derived.Test.YtihccnfaibiiiaaDoorP2
namespace Go.Proofs.YtihccnfaibiiiaaDoor.R
open Go Go.Proofs.XX.Vm Go.Proofs.XX.Rm Go.RowKit
set_option maxRecDepth 100000

def mkE (t : N × Int × Nat) : MapEntry := ⟨N.v t.1, .int .i64 t.2.1, t.2.2⟩
def hasL (p : N) : List (N × Int × Nat) → Bool
  | [] => false
  | t :: l => eqN p t.1 || hasL p l
def lookL (p : N) : List (N × Int × Nat) → Option Int
  | [] => none
  | t :: l => bif eqN p t.1 then some t.2.1 else lookL p l
theorem keyEqN (p q : N) : keyEq Tryd.prog 23 (N.v p) (N.v q) = some (eqN p q) := by kernel_rfl
theorem okKeysL (p : N) : ∀ l : List (N × Int × Nat), okKeys Tryd.prog 23 (N.v p) (l.map mkE) = true
  | [] => rfl
  | t :: l => by
    simp only [List.map_cons, okKeys, mkE, keyEqN, Bool.true_and]
    exact okKeysL p l
theorem okValsL : ∀ l : List (N × Int × Nat), okVals (l.map mkE) = true
  | [] => rfl
  | t :: l => by
    simp only [List.map_cons, okVals, mkE, Bool.true_and]
    exact okValsL l
theorem hasKL (p : N) : ∀ l : List (N × Int × Nat), hasK Tryd.prog 23 (N.v p) (l.map mkE) = hasL p l
  | [] => rfl
  | t :: l => by
    simp only [List.map_cons, hasK, hitK, mkE, keyEqN, hasL]
    rw [hasKL p l]
theorem valKL (p : N) : ∀ l : List (N × Int × Nat), valK Tryd.prog 23 (N.v p) (l.map mkE) = (lookL p l).getD 0
  | [] => rfl
  | t :: l => by
    simp only [List.map_cons, valK, hitK, mkE, keyEqN, lookL]
    cases eqN p t.1 with
    | true => rfl
    | false => exact valKL p l
theorem hasL_look (p : N) : ∀ l : List (N × Int × Nat), hasL p l = (lookL p l).isSome
  | [] => rfl
  | t :: l => by
    simp only [hasL, lookL]
    cases eqN p t.1 with
    | true => rfl
    | false => exact hasL_look p l
theorem lookL_app (p : N) (t : N × Int × Nat) : ∀ l : List (N × Int × Nat), lookL p (l ++ [t]) = (lookL p l).or (bif eqN p t.1 then some t.2.1 else none)
  | [] => rfl
  | u :: l => by
    simp only [List.cons_append, lookL]
    cases eqN p u.1 with
    | true => rfl
    | false => exact lookL_app p t l
/-- The map behind so many rounds. -/
def lN (b : N) : Nat → List (N × Int × Nat) × Nat
  | 0 => ([], 0)
  | m + 1 => bif hasL (trEs m b) (lN b m).1 then lN b m else ((lN b m).1 ++ [(trEs m b, (m : Int), (lN b m).2)], (lN b m).2 + 1)
def phB (q b : N) : Nat → Nat → Option Int
  | 0, _ => none
  | m + 1, j => bif eqN q (trEs j b) then some (j : Int) else phB q b m (j + 1)
theorem phB_succ (q b : N) : ∀ m j, phB q b (m + 1) j = (phB q b m j).or (bif eqN q (trEs (j + m) b) then some ((j + m : Nat) : Int) else none)
  | 0, j => rfl
  | m + 1, j => by
    rw [phB, phB_succ q b m (j + 1)]
    conv => rhs; rw [phB]
    rw [show j + 1 + m = j + (m + 1) by omega]
    cases eqN q (trEs j b) with
    | true => rfl
    | false => rfl
theorem look_lN (q b : N) : ∀ m, lookL q (lN b m).1 = phB q b m 0
  | 0 => rfl
  | m + 1 => by
    have ih := look_lN q b m
    rw [phB_succ, ← ih, Nat.zero_add]
    rw [show lN b (m + 1) = bif hasL (trEs m b) (lN b m).1 then lN b m else ((lN b m).1 ++ [(trEs m b, (m : Int), (lN b m).2)], (lN b m).2 + 1) from rfl]
    cases hh : hasL (trEs m b) (lN b m).1 with
    | false => rw [cond_false]; exact lookL_app _ _ _
    | true =>
      rw [cond_true]
      cases hq : eqN q (trEs m b) with
      | false => rw [cond_false, Option.or_none]
      | true =>
        have e := (eqN_iff _ _).1 hq
        subst e
        rw [hasL_look] at hh
        obtain ⟨v, hv⟩ := Option.isSome_iff_exists.1 hh
        rw [hv]; rfl
theorem trP_eq {b : N} (hb : okB b = true) (j : Nat) : trP (trEs j b) = trEs (j + 1) b := by
  have h := okB_trEs hb j
  obtain ⟨k1, k2, a1, a2, b1, b2, c1, c2, d1, d2⟩ := (okB_iff _).1 h
  simp only [trP, trEs, trE]
  rw [w_eq _ (by omega) (by omega)]
  ext <;> simp
theorem trEs_k (b : N) : ∀ j, (trEs j b).k = b.k
  | 0 => rfl
  | j + 1 => trEs_k b j
theorem pwN_eq (b : N) (j : Nat) : pwN (trEs j b) b = trEs j b := by
  ext <;> simp [pwN, trEs_k]
theorem pushQ {α : Type} {M : Int} {x y a b : N} (hb : okB b = true) (j : Nat) (T : List Value) (J : List Blk) (jv : Int) (k : Kont α) (hj : jv = (j : Int) := by rfl) :
    (bif okKeys Tryd.prog 23 (N.v (pwN (trEs j b) b)) ((lN b j).1.map mkE) && okVals ((lN b j).1.map mkE) then (bif hasK Tryd.prog 23 (N.v (pwN (trEs j b) b)) ((lN b j).1.map mkE) then k .normal T (hP M x y a b ((lN b j).1.map mkE) (lN b j).2 (trP (trEs j b)) ++ J) else (bif okKeys Tryd.prog 23 (N.v (pwN (trEs j b) b)) ((lN b j).1.map mkE) then (bif hasK Tryd.prog 23 (N.v (pwN (trEs j b) b)) ((lN b j).1.map mkE) then none else k .normal T (hP M x y a b ((lN b j).1.map mkE ++ [⟨N.v (pwN (trEs j b) b), .int .i64 jv, (lN b j).2⟩]) ((lN b j).2 + 1) (trP (trEs j b)) ++ J)) else none)) else none) =
    k .normal T (hP M x y a b ((lN b (j + 1)).1.map mkE) (lN b (j + 1)).2 (trEs (j + 1) b) ++ J) := by
  subst hj
  rw [okKeysL, okValsL, hasKL, trP_eq hb, pwN_eq]
  simp only [Bool.and_self, cond_true]
  cases hh : hasL (trEs j b) (lN b j).1 with
  | true => simp only [cond_true, lN, hh]
  | false => simp only [cond_false, lN, hh, List.map_append, List.map_cons, List.map_nil, mkE]
theorem evQ (M : Int) (x y a b : N) (hb : okB b = true) : EvM Tryd.prog (orcL LPh) (Sg1 M) Value 3 104 [yl 8, (.pointer (some ⟨7, 0, none⟩))] ((hP M x y a b [] 0 b).take 9) fun _ S2 => ∃ (J : List Blk), J.length = 8 ∧ S2 = hP M x y a b ((lN b 8).1.map mkE) (lN b 8).2 (trEs 8 b) ++ J := by
  refine EvM.of_body ?_
  rw [tmpsG]
  refine Ev.of_pieces ?_
  rw [show flatC (bodyOf Tryd.prog 104) = _ from LG_eq]
  refine EvP.run (fun fs k => headQ M fs x y a b _ k) ?_
  refine EvP.step (Ev.block ?_)
  show Ev _ _ _ _ _ (.loop BO) _ _ _
  refine Ev.unroll (Ev.of_eq 60 (fun s k => (roundP0 M s x y a b (trEs 0 b) ((lN b 0).1.map mkE) (lN b 0).2  _ _ _ _ _ _ _ _ _ _ _ _ _ _ _ _ _ k).trans (pushQ hb 0 _ _ _ k)) ?_)
  show Ev _ _ _ _ _ (.loop BO) _ _ _
  refine Ev.unroll (Ev.of_eq 60 (fun s k => (roundP1 M s x y a b (trEs 1 b) ((lN b 1).1.map mkE) (lN b 1).2 _ _ _ _ _ _ _ _ _ _ _ _ _ _ _ _ _ _ k).trans (pushQ hb 1 _ _ _ k)) ?_)
  show Ev _ _ _ _ _ (.loop BO) _ _ _
  refine Ev.unroll (Ev.of_eq 60 (fun s k => (roundP2 M s x y a b (trEs 2 b) ((lN b 2).1.map mkE) (lN b 2).2 _ _ _ _ _ _ _ _ _ _ _ _ _ _ _ _ _ _ _ k).trans (pushQ hb 2 _ _ _ k)) ?_)
  show Ev _ _ _ _ _ (.loop BO) _ _ _
  refine Ev.unroll (Ev.of_eq 60 (fun s k => (roundP3 M s x y a b (trEs 3 b) ((lN b 3).1.map mkE) (lN b 3).2 _ _ _ _ _ _ _ _ _ _ _ _ _ _ _ _ _ _ _ _ k).trans (pushQ hb 3 _ _ _ k)) ?_)
  show Ev _ _ _ _ _ (.loop BO) _ _ _
  refine Ev.unroll (Ev.of_eq 60 (fun s k => (roundP4 M s x y a b (trEs 4 b) ((lN b 4).1.map mkE) (lN b 4).2 _ _ _ _ _ _ _ _ _ _ _ _ _ _ _ _ _ _ _ _ _ k).trans (pushQ hb 4 _ _ _ k)) ?_)
  show Ev _ _ _ _ _ (.loop BO) _ _ _
  refine Ev.unroll (Ev.of_eq 60 (fun s k => (roundP5 M s x y a b (trEs 5 b) ((lN b 5).1.map mkE) (lN b 5).2 _ _ _ _ _ _ _ _ _ _ _ _ _ _ _ _ _ _ _ _ _ _ k).trans (pushQ hb 5 _ _ _ k)) ?_)
  show Ev _ _ _ _ _ (.loop BO) _ _ _
  refine Ev.unroll (Ev.of_eq 60 (fun s k => (roundP6 M s x y a b (trEs 6 b) ((lN b 6).1.map mkE) (lN b 6).2 _ _ _ _ _ _ _ _ _ _ _ _ _ _ _ _ _ _ _ _ _ _ _ k).trans (pushQ hb 6 _ _ _ k)) ?_)
  show Ev _ _ _ _ _ (.loop BO) _ _ _
  refine Ev.unroll (Ev.of_eq 60 (fun s k => (roundP7 M s x y a b (trEs 7 b) ((lN b 7).1.map mkE) (lN b 7).2 _ _ _ _ _ _ _ _ _ _ _ _ _ _ _ _ _ _ _ _ _ _ _ _ k).trans (pushQ hb 7 _ _ _ k)) ?_)
  show Ev _ _ _ _ _ (.loop BO) _ _ _
  refine Ev.unroll (Ev.of_eq 60 (fun s k => roundP8 M s x y a b (trEs 8 b) ((lN b 8).1.map mkE) (lN b 8).2 _ _ _ _ _ _ _ _ _ _ _ _ _ _ _ _ _ _ _ _ _ _ _ _ _ k) ?_)
  exact EvP.nil ⟨trivial, _, outG _ _, _, rfl, rfl⟩
theorem phaS_eq (x y : N) : phaS x y = (bif hasL x.nf (lN y.nf 8).1 then ((lookL x.nf (lN y.nf 8).1).getD 0, 0) else (0, 6)) := by
  have key : ∀ m j, phF x y m j = match phB x.nf y.nf m j with
      | some v => (v, 0)
      | none => (0, 6) := by
    intro m
    induction m with
    | zero => intro j; rfl
    | succ m ih =>
      intro j
      simp only [phF, phB, trEs_nf]
      cases eqN x.nf (trEs j y.nf) with
      | true => rfl
      | false => exact ih (j + 1)
  unfold phaS
  rw [key, hasL_look, look_lN]
  cases phB x.nf y.nf 8 0 <;> rfl
theorem bif3_1 {α : Type} {x : N} {a : α} {f : Int → α} (h : rgB x = false) : bif3 x a f = f 3 := by unfold bif3; rw [h]; rfl
theorem bif3_2 {α : Type} {x : N} {a : α} {f : Int → α} (h : rgB x = true) (h2 : inB x = false) : bif3 x a f = f 8 := by unfold bif3; rw [h, h2]; rfl
theorem bif3_3 {α : Type} {x : N} {a : α} {f : Int → α} (h : rgB x = true) (h2 : inB x = true) : bif3 x a f = a := by unfold bif3; rw [h, h2]; rfl
theorem ePha (M : Int) (x y : N) (v : Value) (h : (phaT x y).get = some v) : EvF Tryd.prog (orcL LPh) (Sg1 M) 41 [N.v x, N.v y] v := by
  refine EvF.of_body (by
    unfold phaT badP at h
    rw [okT_get, okT_get] at h
    unfold bif3 at h
    revert h
    cases rgB x <;> cases inB x <;> cases rgB y <;> cases inB y <;> intro h <;> cases h <;> rfl) ?_
  rw [tmpsH]
  show Ev Tryd.prog (orcL LPh) (Sg1 M) Value 3 _ _ _ _
  refine Ev.of_pieces ?_
  rw [show flatC (bodyOf Tryd.prog 41) = _ from LH_eq]
  unfold phaT badP at h
  rw [okT_get, okT_get] at h
  unfold bif3 at h
  cases hx1 : rgB x with
  | false =>
    rw [hx1] at h; cases h
    exact EvP.stop (fun fs k => (headH M fs x y _ k).trans (bif3_1 hx1)) ⟨trivial, outH _ _ _ _ _ _ _ _⟩
  | true =>
  cases hx2 : inB x with
  | false =>
    rw [hx1, hx2] at h; cases h
    exact EvP.stop (fun fs k => (headH M fs x y _ k).trans (bif3_2 hx1 hx2)) ⟨trivial, outH _ _ _ _ _ _ _ _⟩
  | true =>
  cases hy1 : rgB y with
  | false =>
    rw [hx1, hx2, hy1] at h; cases h
    exact EvP.stop (fun fs k => (headH M fs x y _ k).trans ((bif3_3 hx1 hx2).trans (bif3_1 hy1))) ⟨trivial, outH _ _ _ _ _ _ _ _⟩
  | true =>
  cases hy2 : inB y with
  | false =>
    rw [hx1, hx2, hy1, hy2] at h; cases h
    exact EvP.stop (fun fs k => (headH M fs x y _ k).trans ((bif3_3 hx1 hx2).trans (bif3_2 hy1 hy2))) ⟨trivial, outH _ _ _ _ _ _ _ _⟩
  | true =>
  rw [hx1, hx2, hy1, hy2] at h
  cases h
  have hy : okB y = true := by unfold okB; rw [hy1, hy2]; rfl
  have hb : okB y.nf = true := okB_nf hy
  refine EvP.run (fun fs k => (headH M fs x y _ k).trans ((bif3_3 hx1 hx2).trans (bif3_3 hy1 hy2))) ?_
  refine EvP.run (fun fs k => midH M fs x y x.nf y.nf _ k) ?_
  refine EvP.step (Ev.block ?_)
  refine Ev.range (show 3 ≤ 8 by decide) (opdH _ _ _ _) calH ((evQ M x y x.nf y.nf hb).mono ?_)
  rintro v S2 ⟨J, hJ, rfl⟩
  refine ⟨_, loopAtH M _ _ _ _ _ _ _ _, rfl, rfl, ?_⟩
  match J, hJ with
  | [j0, j1, j2, j3, j4, j5, j6, j7], _ =>
    show EvP _ _ _ _ _ _ [qH 7, qH 8, qH 9, qH 10, qH 11] _ _ _
    rw [phaS_eq]
    cases hh : hasL x.nf (lN y.nf 8).1 with
    | true => exact EvP.stop (fun fs k => (tailH M fs x y x.nf y.nf _ _ _ _ _ _ _ _ _ _ _ _ _ _ k).trans (by rw [okKeysL, okValsL, hasKL, hh]; rfl)) ⟨trivial, by rw [outH, valKL]; rfl⟩
    | false => exact EvP.stop (fun fs k => (tailH M fs x y x.nf y.nf _ _ _ _ _ _ _ _ _ _ _ _ _ _ k).trans (by rw [okKeysL, okValsL, hasKL, hh]; rfl)) ⟨trivial, outH _ _ _ _ _ _ _ _⟩
theorem cPhaP_ok (M : Int) : ConOk M (con2 41 phaT) := con2_ok (LPh_ok M) fun x y v h => ePha M x y v h
end Go.Proofs.YtihccnfaibiiiaaDoor.R
