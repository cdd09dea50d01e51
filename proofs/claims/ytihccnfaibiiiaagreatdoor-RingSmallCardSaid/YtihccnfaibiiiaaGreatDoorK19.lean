/- Ring: both Powers and both Roots give the same (made by mkpow.py). -/
import Derived.Test.YtihccnfaibiiiaaGreatDoorK17
import Derived.Test.YtihccnfaibiiiaaGreatDoorK18
import Derived.Test.YtihccnfaibiiiaaGreatDoorK11
namespace Go.Proofs.YtihccnfaibiiiaaGreatDoor.R
open Go Go.Proofs.XX.Vm Go.Proofs.XX.Rm Go.RowKit
set_option maxRecDepth 100000

def conNI (f : FuncId) (g : N → Int → OT) : Con := ⟨f, fun args => match args with
  | [u, .int .i64 n] => match asN u with
    | some x => some (g x n)
    | none => none
  | _ => none⟩
theorem conNI_ok {M : Int} {orc : Orc} {f : FuncId} {g : N → Int → OT} (horc : OrcOk Tryz.prog (Sg1 M) (orcOf orc)) (h : ∀ x n v, (g x n).get = some v → EvF Tryz.prog orc (Sg1 M) f [N.v x, .int .i64 n] v) : ConOk M (conNI f g) := by
  intro args t v ht hv w inv
  simp only [conNI] at ht
  split at ht
  · rename_i u n
    split at ht
    · rename_i x hx
      cases ht
      rw [asN_eq hx]
      exact (h x n v hv).calls (sg1 M) horc rfl inv
    · cases ht
  · cases ht
/-- The contract of Omega. -/
def cOmI : Con := ⟨29, fun args => match args with
  | [.int .i64 n] => some (.val (N.v (xo n)))
  | _ => none⟩
theorem cOmI_ok (M : Int) : ConOk M cOmI := by
  intro args t v ht hv w inv
  simp only [cOmI] at ht
  split at ht
  · rename_i n
    cases ht
    cases hv
    exact (eO M n).calls (sg1 M) (orcOk_of nil_ok) rfl inv
  · cases ht
/-- What Power gives. -/
def pwrS (x : N) (n : Int) : N × Int := bif chkS x != 0 then (O, chkS x) else bif decide (n < 0) then (O, 3) else bif decide (n > 64) then (O, 3) else powS x n.toNat
noncomputable abbrev LPq : List Con := con1 62 (fun x => .val (.int .i64 (chkS x))) :: cOmI :: LPw
theorem LPq_ok (M : Int) : ∀ c ∈ LPq, ConOk M c := mem_cons_ok (con1_val (g := chkT) (cChk_ok M) chkS_get) (mem_cons_ok (cOmI_ok M) (LPw_ok M))
def tsQ (n : Int) : Bool := decide (1 ≤ n) && (decide (n ≤ ((64 : Nat) : Int)) && (decide (n ≤ 100) && true))
theorem tPow (M : Int) (m : Nat) (x : N) (n : Int) : runK Tryz.prog (orcLM LPq [cPw 64]) (Sg1 M) (m + 80) 27 [N.v x, .int .i64 n] =
    bif chkS x != 0 then some (resV (O, chkS x)) else (bif decide (n < 0) then some (resV (O, 3)) else (bif decide (n > 64) then some (resV (O, 3)) else (bif n == 0 then some (resV (xo 0, 0)) else (bif tsQ n then some (resV (powS x n.toNat)) else none)))) := by kernel_rfl
theorem cPow_ok (M : Int) : ConOk M (conNI 27 fun x n => .val (resV (pwrS x n))) := by
  refine conNI_ok (orcLM_ok (LPq_ok M) (mem_cons_mok (cPw_ok M 64) nil_mok)) fun x n v h => ?_
  cases h
  refine EvF.of_eq 80 fun m => ?_
  rw [tPow]
  unfold pwrS
  cases chkS x != 0 with
  | true => rfl
  | false =>
    cases h1 : decide (n < 0) with
    | true => rfl
    | false =>
      cases h2 : decide (n > 64) with
      | true => rfl
      | false =>
        simp only [cond_false]
        have g1 := of_decide_eq_false h1
        have g2 := of_decide_eq_false h2
        by_cases h0 : n = 0
        · subst h0; rfl
        · rw [show (n == 0) = false by simpa using h0, cond_false]
          have : tsQ n = true := by
            unfold tsQ
            rw [decide_eq_true (show 1 ≤ n by omega), decide_eq_true (show n ≤ ((64 : Nat) : Int) by omega), decide_eq_true (show n ≤ 100 by omega)]
            rfl
          rw [this, cond_true]
theorem powS_stop {x : N} {i : Nat} (h : (powS x i).2 ≠ 0) : ∀ d, powS x (i + d) = powS x i := by
  have hO : (powS x i).1 = O := by
    cases i with
    | zero => exact absurd rfl h
    | succ i =>
      rw [powS] at h ⊢
      cases hc : (powS x i).2 != 0 with
      | true => rfl
      | false =>
        rw [hc, cond_false] at h
        rw [cond_false]
        exact twoS_err (by simpa using h)
  intro d
  induction d with
  | zero => rfl
  | succ d ih =>
    rw [← Nat.add_assoc, powS, ih, show ((powS x i).2 != 0) = true by simpa using h, cond_true, ← hO]
noncomputable abbrev LPr : List Con := [con1 57 (fun x => .val (.int .i64 (chkS x))), con2 10 fun x y => .val (resV (twoS x y (x.mul y)))]
theorem LPr_ok (M : Int) : ∀ c ∈ LPr, ConOk M c := mem_cons_ok (con1_val (g := chkT) (cChkR_ok M) chkS_get) (mem_cons_ok (con2_val (cMulR_ok M) fun x y => twoS_get x y _) nil_ok)
noncomputable abbrev BPR : Code := loopOf Tryz.prog 24 0
noncomputable abbrev qPR (i : Nat) : Code := nthC (pcs Tryz.prog 24) i
theorem LPRl_eq : pcs Tryz.prog 24 = [qPR 0, qPR 1, qPR 2, qPR 3, qPR 4, qPR 5, qPR 6, qPR 7, qPR 8, .block 0 (.loop BPR), qPR 10, qPR 11] := by kernel_rfl
theorem roundPR {α : Type} (M : Int) (m : Nat) (x z : N) (n i e : Int) (v24 v25 v26 v27 v28 v29 v30 v31 v32 v33 v34 v35 v36 v37 v38 v39 v40 : Value) (k : Kont α) :
    evCodeK Tryz.prog (orcL LPr) (Sg1 M) (m + 60) 3 BPR [N.v x, .int .i64 (n), ptN 3, undef, ptN 4, .int .i64 (0), .int .i64 (chkS x), ptN 5, .int .i64 (e), .int .i64 (i), N.v x, .int .i64 (chkS x), .int .i64 (chkS x), .bool false, undef, undef, .int .i64 (n), .bool (decide (n < 0)), .bool false, .int .i64 (n), .bool (decide (n > 64)), .bool false, undef, N.v one1, v24, v25, v26, v27, v28, v29, v30, v31, v32, v33, v34, v35, v36, v37, v38, v39, v40] [uni, pow, mxl M, rb x, rb O, rb z] k =
    bif decide (i < n) then (bif e == 0 then k .normal [N.v x, .int .i64 (n), ptN 3, undef, ptN 4, .int .i64 (0), .int .i64 (chkS x), ptN 5, .int .i64 ((twoS z x (z.mul x)).2), .int .i64 (w (i + 1)), N.v x, .int .i64 (chkS x), .int .i64 (chkS x), .bool false, undef, undef, .int .i64 (n), .bool (decide (n < 0)), .bool false, .int .i64 (n), .bool (decide (n > 64)), .bool false, undef, N.v one1, .int .i64 (i), .int .i64 (n), .bool (decide (i < n)), .bool true, .int .i64 (e), .bool (e == 0), .bool true, .int .i64 (i), .int .i64 (w (i + 1)), resV (twoS z x (z.mul x)), N.v z, N.v x, resV (twoS z x (z.mul x)), N.v (twoS z x (z.mul x)).1, .int .i64 ((twoS z x (z.mul x)).2), v39, v40] [uni, pow, mxl M, rb x, rb O, rb (twoS z x (z.mul x)).1] else k (.exit 0) [N.v x, .int .i64 (n), ptN 3, undef, ptN 4, .int .i64 (0), .int .i64 (chkS x), ptN 5, .int .i64 (e), .int .i64 (i), N.v x, .int .i64 (chkS x), .int .i64 (chkS x), .bool false, undef, undef, .int .i64 (n), .bool (decide (n < 0)), .bool false, .int .i64 (n), .bool (decide (n > 64)), .bool false, undef, N.v one1, .int .i64 (i), .int .i64 (n), .bool (decide (i < n)), .bool true, .int .i64 (e), .bool (e == 0), .bool false, v31, v32, v33, v34, v35, v36, v37, v38, v39, v40] [uni, pow, mxl M, rb x, rb O, rb z]) else k (.exit 0) [N.v x, .int .i64 (n), ptN 3, undef, ptN 4, .int .i64 (0), .int .i64 (chkS x), ptN 5, .int .i64 (e), .int .i64 (i), N.v x, .int .i64 (chkS x), .int .i64 (chkS x), .bool false, undef, undef, .int .i64 (n), .bool (decide (n < 0)), .bool false, .int .i64 (n), .bool (decide (n > 64)), .bool false, undef, N.v one1, .int .i64 (i), .int .i64 (n), .bool (decide (i < n)), .bool false, undef, undef, .bool false, v31, v32, v33, v34, v35, v36, v37, v38, v39, v40] [uni, pow, mxl M, rb x, rb O, rb z] := by kernel_rfl
theorem tailPR {α : Type} (M : Int) (fs : Nat → Nat) (x z : N) (e : Int) (a0 a1 a3 a5 a6 a9 a10 a11 a12 a13 a14 a15 a16 a17 a18 a19 a20 a21 a22 a23 a24 a25 a26 a27 a28 a29 a30 a31 a32 a33 a34 a35 a36 a37 a38 a39 a40 : Value) (k : Kont α) :
    evP Tryz.prog (orcL LPr) (Sg1 M) 3 fs 10 [qPR 10, qPR 11] [a0, a1, ptN 3, a3, ptN 4, a5, a6, ptN 5, .int .i64 (e), a9, a10, a11, a12, a13, a14, a15, a16, a17, a18, a19, a20, a21, a22, a23, a24, a25, a26, a27, a28, a29, a30, a31, a32, a33, a34, a35, a36, a37, a38, a39, a40] [uni, pow, mxl M, rb x, rb O, rb z] k = k .ret [a0, a1, ptN 3, a3, ptN 4, .int .i64 (e), a6, ptN 5, .int .i64 (e), a9, a10, a11, a12, a13, a14, a15, a16, a17, a18, a19, a20, a21, a22, a23, a24, a25, a26, a27, a28, a29, a30, a31, a32, a33, a34, a35, a36, a37, a38, N.v z, .int .i64 (e)] [uni, pow, mxl M, rb x, rb z, rb z] := by kernel_rfl
theorem headPR {α : Type} (M : Int) (fs : Nat → Nat) (x : N) (n : Int) (l : List Code) (k : Kont α) :
    evP Tryz.prog (orcL LPr) (Sg1 M) 3 fs 0 (qPR 0 :: qPR 1 :: qPR 2 :: qPR 3 :: qPR 4 :: qPR 5 :: qPR 6 :: qPR 7 :: qPR 8 :: l) (N.v x :: .int .i64 n :: List.replicate 39 undef) (Sg1 M) k =
    bif chkS x != 0 then k .ret [N.v x, .int .i64 (n), ptN 3, undef, ptN 4, .int .i64 (chkS x), .int .i64 (chkS x), undef, undef, undef, N.v x, .int .i64 (chkS x), .int .i64 (chkS x), .bool true, N.v O, .int .i64 (chkS x), undef, undef, undef, undef, undef, undef, undef, undef, undef, undef, undef, undef, undef, undef, undef, undef, undef, undef, undef, undef, undef, undef, undef, undef, undef] [uni, pow, mxl M, rb x, rb O] else (bif decide (n < 0) then k .ret [N.v x, .int .i64 (n), ptN 3, undef, ptN 4, .int .i64 (3), .int .i64 (chkS x), undef, undef, undef, N.v x, .int .i64 (chkS x), .int .i64 (chkS x), .bool false, undef, undef, .int .i64 (n), .bool (decide (n < 0)), .bool true, undef, undef, .bool true, N.v O, undef, undef, undef, undef, undef, undef, undef, undef, undef, undef, undef, undef, undef, undef, undef, undef, undef, undef] [uni, pow, mxl M, rb x, rb O] else (bif decide (n > 64) then k .ret [N.v x, .int .i64 (n), ptN 3, undef, ptN 4, .int .i64 (3), .int .i64 (chkS x), undef, undef, undef, N.v x, .int .i64 (chkS x), .int .i64 (chkS x), .bool false, undef, undef, .int .i64 (n), .bool (decide (n < 0)), .bool false, .int .i64 (n), .bool (decide (n > 64)), .bool true, N.v O, undef, undef, undef, undef, undef, undef, undef, undef, undef, undef, undef, undef, undef, undef, undef, undef, undef, undef] [uni, pow, mxl M, rb x, rb O] else
      evP Tryz.prog (orcL LPr) (Sg1 M) 3 fs 9 l [N.v x, .int .i64 (n), ptN 3, undef, ptN 4, .int .i64 (0), .int .i64 (chkS x), ptN 5, .int .i64 (0), .int .i64 (0), N.v x, .int .i64 (chkS x), .int .i64 (chkS x), .bool false, undef, undef, .int .i64 (n), .bool (decide (n < 0)), .bool false, .int .i64 (n), .bool (decide (n > 64)), .bool false, undef, N.v one1, undef, undef, undef, undef, undef, undef, undef, undef, undef, undef, undef, undef, undef, undef, undef, undef, undef] [uni, pow, mxl M, rb x, rb O, rb one1] k)) := by kernel_rfl
theorem tmpsPR (x : N) (n : Int) : tmps0Of Tryz.prog 24 [N.v x, .int .i64 n] = N.v x :: .int .i64 n :: List.replicate 39 undef := by kernel_rfl
theorem outPR (e : Int) (y : N) (b0 b1 b2 b3 : Blk) (R : List Blk) (a0 a1 a2 a3 a6 a7 a8 a9 a10 a11 a12 a13 a14 a15 a16 a17 a18 a19 a20 a21 a22 a23 a24 a25 a26 a27 a28 a29 a30 a31 a32 a33 a34 a35 a36 a37 a38 a39 a40 : Value) : outOf Tryz.prog 24 [a0, a1, a2, a3, ptN 4, .int .i64 e, a6, a7, a8, a9, a10, a11, a12, a13, a14, a15, a16, a17, a18, a19, a20, a21, a22, a23, a24, a25, a26, a27, a28, a29, a30, a31, a32, a33, a34, a35, a36, a37, a38, a39, a40] (b0 :: b1 :: b2 :: b3 :: rb y :: R) = some (resV (y, e)) := by kernel_rfl
theorem loopPR (M : Int) (x : N) (n : Int) (h0 : 0 ≤ n) (h1 : n ≤ 64) : Ev Tryz.prog (orcL LPr) (Sg1 M) Value 3 (.loop BPR) [N.v x, .int .i64 (n), ptN 3, undef, ptN 4, .int .i64 (0), .int .i64 (chkS x), ptN 5, .int .i64 (0), .int .i64 (0), N.v x, .int .i64 (chkS x), .int .i64 (chkS x), .bool false, undef, undef, .int .i64 (n), .bool (decide (n < 0)), .bool false, .int .i64 (n), .bool (decide (n > 64)), .bool false, undef, N.v one1, undef, undef, undef, undef, undef, undef, undef, undef, undef, undef, undef, undef, undef, undef, undef, undef, undef] [uni, pow, mxl M, rb x, rb O, rb one1] fun y T S => y = .exit 0 ∧ ∃ (z : N) (e : Int), powS x n.toNat = (z, e) ∧ S = [uni, pow, mxl M, rb x, rb O, rb z] ∧ ∃ (a0 a1 a3 a5 a6 a9 a10 a11 a12 a13 a14 a15 a16 a17 a18 a19 a20 a21 a22 a23 a24 a25 a26 a27 a28 a29 a30 a31 a32 a33 a34 a35 a36 a37 a38 a39 a40 : Value), T = [a0, a1, ptN 3, a3, ptN 4, a5, a6, ptN 5, .int .i64 (e), a9, a10, a11, a12, a13, a14, a15, a16, a17, a18, a19, a20, a21, a22, a23, a24, a25, a26, a27, a28, a29, a30, a31, a32, a33, a34, a35, a36, a37, a38, a39, a40] := by
  refine Ev.loop (fun m T S => ∃ (i : Nat) (z : N) (e : Int) (v24 v25 v26 v27 v28 v29 v30 v31 v32 v33 v34 v35 v36 v37 v38 v39 v40 : Value), (i : Int) ≤ n ∧ m = n.toNat - i ∧ powS x i = (z, e) ∧ S = [uni, pow, mxl M, rb x, rb O, rb z] ∧ T = [N.v x, .int .i64 (n), ptN 3, undef, ptN 4, .int .i64 (0), .int .i64 (chkS x), ptN 5, .int .i64 (e), .int .i64 ((i : Nat)), N.v x, .int .i64 (chkS x), .int .i64 (chkS x), .bool false, undef, undef, .int .i64 (n), .bool (decide (n < 0)), .bool false, .int .i64 (n), .bool (decide (n > 64)), .bool false, undef, N.v one1, v24, v25, v26, v27, v28, v29, v30, v31, v32, v33, v34, v35, v36, v37, v38, v39, v40]) ?_ n.toNat _ _ ⟨0, one1, 0, undef, undef, undef, undef, undef, undef, undef, undef, undef, undef, undef, undef, undef, undef, undef, undef, undef, h0, rfl, rfl, rfl, rfl⟩
  rintro m T S ⟨i, z, e, v24, v25, v26, v27, v28, v29, v30, v31, v32, v33, v34, v35, v36, v37, v38, v39, v40, hi, hm, hp, rfl, rfl⟩
  by_cases hlt : (i : Int) < n
  · have c1 : decide (((i : Nat) : Int) < n) = true := decide_eq_true hlt
    by_cases he : e = 0
    · subst he
      have hw : w (((i : Nat) : Int) + 1) = ((i + 1 : Nat) : Int) := by rw [w_eq _ (by omega) (by omega)]; omega
      refine Ev.of_eq 60 (fun s k => (roundPR M s x z n i 0 v24 v25 v26 v27 v28 v29 v30 v31 v32 v33 v34 v35 v36 v37 v38 v39 v40 k).trans ((condT c1).trans (condT rfl))) ?_
      refine ⟨n.toNat - (i + 1), by omega, i + 1, (twoS z x (z.mul x)).1, (twoS z x (z.mul x)).2, .int .i64 ((i : Nat)), .int .i64 (n), .bool (decide (((i : Nat) : Int) < n)), .bool true, .int .i64 (0), .bool ((0 : Int) == 0), .bool true, .int .i64 ((i : Nat)), .int .i64 ((i + 1 : Nat)), resV (twoS z x (z.mul x)), N.v z, N.v x, resV (twoS z x (z.mul x)), N.v (twoS z x (z.mul x)).1, .int .i64 ((twoS z x (z.mul x)).2), v39, v40, by omega, rfl, ?_, rfl, by rw [hw]⟩
      rw [powS, hp]; rfl
    · have ce : (e == 0) = false := by simpa using he
      refine Ev.of_eq 60 (fun s k => (roundPR M s x z n i e v24 v25 v26 v27 v28 v29 v30 v31 v32 v33 v34 v35 v36 v37 v38 v39 v40 k).trans ((condT c1).trans (condF ce))) ?_
      refine ⟨rfl, z, e, ?_, rfl, _, _, _, _, _, _, _, _, _, _, _, _, _, _, _, _, _, _, _, _, _, _, _, _, _, _, _, _, _, _, _, _, _, _, _, _, _, rfl⟩
      have := powS_stop (x := x) (i := i) (by rw [hp]; exact he) (n.toNat - i)
      rw [show i + (n.toNat - i) = n.toNat by omega] at this
      rw [this, hp]
  · have c1 : decide (((i : Nat) : Int) < n) = false := decide_eq_false hlt
    refine Ev.of_eq 60 (fun s k => (roundPR M s x z n i e v24 v25 v26 v27 v28 v29 v30 v31 v32 v33 v34 v35 v36 v37 v38 v39 v40 k).trans (condF c1)) ?_
    refine ⟨rfl, z, e, ?_, rfl, _, _, _, _, _, _, _, _, _, _, _, _, _, _, _, _, _, _, _, _, _, _, _, _, _, _, _, _, _, _, _, _, _, _, _, _, _, rfl⟩
    rw [show n.toNat = i by omega, hp]
theorem ePR (M : Int) (x : N) (n : Int) : EvF Tryz.prog (orcL LPr) (Sg1 M) 24 [N.v x, .int .i64 n] (resV (pwrS x n)) := by
  refine EvF.of_body rfl ?_
  rw [tmpsPR]
  show Ev Tryz.prog (orcL LPr) (Sg1 M) Value 3 _ _ _ _
  refine Ev.of_pieces ?_
  rw [show flatC (bodyOf Tryz.prog 24) = _ from LPRl_eq]
  unfold pwrS
  cases hx : chkS x != 0 with
  | true => exact EvP.stop (fun fs k => (headPR M fs x n _ k).trans (condT hx)) ⟨trivial, outPR _ _ _ _ _ _ _ _ _ _ _ _ _ _ _ _ _ _ _ _ _ _ _ _ _ _ _ _ _ _ _ _ _ _ _ _ _ _ _ _ _ _ _ _ _ _⟩
  | false =>
  cases h1 : decide (n < 0) with
  | true => exact EvP.stop (fun fs k => (headPR M fs x n _ k).trans ((condF hx).trans (condT h1))) ⟨trivial, outPR _ _ _ _ _ _ _ _ _ _ _ _ _ _ _ _ _ _ _ _ _ _ _ _ _ _ _ _ _ _ _ _ _ _ _ _ _ _ _ _ _ _ _ _ _ _⟩
  | false =>
  cases h2 : decide (n > 64) with
  | true => exact EvP.stop (fun fs k => (headPR M fs x n _ k).trans ((condF hx).trans ((condF h1).trans (condT h2)))) ⟨trivial, outPR _ _ _ _ _ _ _ _ _ _ _ _ _ _ _ _ _ _ _ _ _ _ _ _ _ _ _ _ _ _ _ _ _ _ _ _ _ _ _ _ _ _ _ _ _ _⟩
  | false =>
    have g1 := of_decide_eq_false h1
    have g2 := of_decide_eq_false h2
    refine EvP.run (fun fs k => (headPR M fs x n _ k).trans ((condF hx).trans ((condF h1).trans (condF h2)))) ?_
    refine EvP.step (Ev.block ((loopPR M x n (by omega) (by omega)).mono ?_))
    rintro y T S ⟨rfl, z, e, hz, rfl, a0, a1, a3, a5, a6, a9, a10, a11, a12, a13, a14, a15, a16, a17, a18, a19, a20, a21, a22, a23, a24, a25, a26, a27, a28, a29, a30, a31, a32, a33, a34, a35, a36, a37, a38, a39, a40, rfl⟩
    show EvP _ _ _ _ _ _ [qPR 10, qPR 11] _ _ _
    simp only [cond_false]
    rw [hz]
    exact EvP.stop (fun fs k => tailPR M fs x z e _ _ _ _ _ _ _ _ _ _ _ _ _ _ _ _ _ _ _ _ _ _ _ _ _ _ _ _ _ _ _ _ _ _ _ _ _ k) ⟨trivial, outPR _ _ _ _ _ _ _ _ _ _ _ _ _ _ _ _ _ _ _ _ _ _ _ _ _ _ _ _ _ _ _ _ _ _ _ _ _ _ _ _ _ _ _ _ _ _⟩
theorem cPR_ok (M : Int) : ConOk M (conNI 24 fun x n => .val (resV (pwrS x n))) := conNI_ok (orcOk_of (LPr_ok M)) fun x n v h => by
  cases h
  exact ePR M x n
/-- What Root gives. -/
def rtN (k : Int) : N := ⟨1, 0, 0, 0, k⟩
def rootS (k : Int) : N × Int := bif rgB (rtN k) then (rtN k, 0) else (O, 3)
def conI (f : FuncId) (g : Int → Value) : Con := ⟨f, fun args => match args with
  | [.int .i64 n] => some (.val (g n))
  | _ => none⟩
theorem conI_ok {M : Int} {l : List Con} {f : FuncId} {g : Int → Value} (hl : ∀ c ∈ l, ConOk M c) (h : ∀ n, EvF Tryz.prog (orcL l) (Sg1 M) f [.int .i64 n] (g n)) : ConOk M (conI f g) := by
  intro args t v ht hv w inv
  simp only [conI] at ht
  split at ht
  · rename_i n
    cases ht
    cases hv
    exact (h n).calls (sg1 M) (orcOk_of hl) rfl inv
  · cases ht
theorem chkS_rt (k : Int) : chkS (rtN k) = bif rgB (rtN k) then 0 else 3 := by
  unfold chkS bif3
  rw [show inB (rtN k) = true from rfl]
  cases rgB (rtN k) <;> rfl
noncomputable abbrev LRt : List Con := [con1 62 (fun x => .val (.int .i64 (chkS x)))]
theorem LRt_ok (M : Int) : ∀ c ∈ LRt, ConOk M c := mem_cons_ok (con1_val (g := chkT) (cChk_ok M) chkS_get) nil_ok
theorem tRT (M : Int) (m : Nat) (k : Int) : runK Tryz.prog (orcL LRt) (Sg1 M) (m + 60) 26 [.int .i64 k] = bif chkS (rtN k) != 0 then some (resV (O, chkS (rtN k))) else some (resV (rtN k, 0)) := by kernel_rfl
theorem cRT_ok (M : Int) : ConOk M (conI 26 fun k => resV (rootS k)) := conI_ok (LRt_ok M) fun k => EvF.of_eq 60 fun m => by
  rw [tRT, chkS_rt]
  unfold rootS
  cases rgB (rtN k) <;> rfl
theorem cFr_ok (M : Int) : ∀ c ∈ [cFrm], ConOk M c := mem_cons_ok (cFrm_ok M) nil_ok
theorem tRR (M : Int) (m : Nat) (k : Int) : runK Tryz.prog (orcL [cFrm]) (Sg1 M) (m + 60) 23 [.int .i64 k] = bif decide (k < 0) then some (resV (O, 3)) else (bif decide (k > 60) then some (resV (O, 3)) else (bif symN (rtN k) then some (resV ((rtN k).nf, 0)) else none)) := by kernel_rfl
theorem nf_rt (k : Int) : (rtN k).nf = rtN k := N.nf_of_least (fun h => by cases h) (by
  unfold N.goes
  rw [show (rtN k).even = false from rfl, Bool.and_false])
theorem cRR_ok (M : Int) : ConOk M (conI 23 fun k => resV (rootS k)) := conI_ok (cFr_ok M) fun k => EvF.of_eq 60 fun m => by
  rw [tRR, nf_rt]
  unfold rootS rgB
  rw [show (rtN k).k = k from rfl]
  cases h1 : decide (k < 0) with
  | true => rfl
  | false =>
    cases h2 : decide (k > 60) with
    | true => rfl
    | false =>
      have g1 := of_decide_eq_false h1
      have g2 := of_decide_eq_false h2
      have : symN (rtN k) = true := by
        show (symB 1 && symB 0 && symB 0 && symB 0 && decide (k ≤ 9223372036854775807)) = true
        rw [decide_eq_true (show k ≤ 9223372036854775807 by omega)]; rfl
      rw [this]; rfl
end Go.Proofs.YtihccnfaibiiiaaGreatDoor.R
/- Ring: RingPowers, piece by piece (made by mkpws.py). -/
namespace Go.Proofs.YtihccnfaibiiiaaGreatDoor.R
open Go Go.Proofs.XX.Vm Go.Proofs.XX.Rm Go.RowKit
set_option maxRecDepth 100000

noncomputable abbrev LPws : List Con := [conI 26 (fun k => resV (rootS k)), conI 23 (fun k => resV (rootS k)), conNI 27 (fun x n => .val (resV (pwrS x n))), conNI 24 (fun x n => .val (resV (pwrS x n))), cOmI, cOmR, cAwk]
theorem LPws_ok (M : Int) : ∀ c ∈ LPws, ConOk M c := mem_cons_ok (cRT_ok M) (mem_cons_ok (cRR_ok M) (mem_cons_ok (cPow_ok M) (mem_cons_ok (cPR_ok M) (mem_cons_ok (cOmI_ok M) (mem_cons_ok (cOmR_ok M) (mem_cons_ok (cAwk_ok M) nil_ok))))))
theorem MPws_ok (M : Int) : ∀ c ∈ [cSu, cSR], MConOk M c := mem_cons_mok (cSu_ok M) (mem_cons_mok (cSR_ok M) nil_mok)
noncomputable abbrev orW : Orc := orcLM LPws [cSu, cSR]
theorem orW_ok (M : Int) : OrcOk Tryz.prog (Sg1 M) (orcOf orW) := orcLM_ok (LPws_ok M) (MPws_ok M)
def slO (n : Nat) : Value := .slice (some ⟨9, 0, none⟩) n unk
def emN : Blk := ⟨[], 23, false, none⟩
noncomputable abbrev qRW (i : Nat) : Code := nthC (pcs Tryz.prog 5) i
noncomputable abbrev BRW : Code := loopOf Tryz.prog 5 0
theorem LRW_eq : pcs Tryz.prog 5 = [qRW 0, qRW 1, qRW 2, qRW 3, qRW 4, qRW 5, qRW 6, qRW 7, qRW 8, qRW 9, qRW 10, .block 0 (.loop BRW), qRW 12, qRW 13] := by kernel_rfl
theorem headRW {α : Type} (M : Int) (fs : Nat → Nat) (et : TypeId) (off m c : Nat) (x : N) (n h : Int) (L : List Int) (l : List Code) (k : Kont α) :
    evP Tryz.prog orW (Sg1 M) 4 fs 0 (qRW 0 :: qRW 1 :: qRW 2 :: qRW 3 :: qRW 4 :: qRW 5 :: qRW 6 :: qRW 7 :: qRW 8 :: qRW 9 :: qRW 10 :: l) (N.v x :: .int .i64 n :: .int .i64 h :: slV off (m + 1) c :: List.replicate 111 undef) [uni, pow, mxl M, kB et true off L] k =
    bif decide (((m + 1 : Nat) : Int) > 100) then k .ret [N.v x, .int .i64 (n), .int .i64 (h), slV off (m + 1) c, ptN 4, undef, undef, undef, .bool true, undef, undef, undef, undef, undef, undef, undef, undef, undef, undef, undef, undef, undef, undef, slV off (m + 1) c, .int .i64 (((m + 1 : Nat) : Int)), .bool true, .bool true, undef, undef, undef, undef, undef, undef, undef, undef, undef, undef, undef, undef, undef, undef, undef, undef, undef, undef, undef, undef, undef, undef, undef, undef, undef, undef, undef, undef, undef, undef, undef, undef, undef, undef, undef, undef, undef, undef, undef, undef, undef, undef, undef, undef, undef, undef, undef, undef, undef, undef, undef, undef, undef, undef, undef, undef, undef, undef, undef, undef, undef, undef, undef, undef, undef, undef, undef, undef, undef, undef, undef, undef, undef, undef, undef, undef, undef, undef, undef, undef, undef, undef, undef, undef, undef, undef, undef, undef] [uni, pow, mxl M, kB et true off L, rb x] else (bif tsL off off (m + 1) L then (bif apL off off (m + 1) L then (bif tsL 0 0 (m + 1) (cutL off off (m + 1) L) then
      evP Tryz.prog orW (Sg1 M) 4 fs 11 l [N.v x, .int .i64 (n), .int .i64 (h), slV off (m + 1) c, ptN 4, undef, undef, undef, .bool false, ptN 5, .int .i64 ((rootS h).2), ptN 6, .int .i64 ((pwrS x n).2), ptN 7, .int .i64 ((sumL (nmL L (off - off) (m + 1))).2), slO (m + 1), ptN 10, .int .i64 ((rootS h).2), ptN 11, .int .i64 ((pwrS x n).2), ptN 12, .int .i64 ((sumL (nmL (cutL off off (m + 1) L) (0 - 0) (m + 1))).2), undef, slV off (m + 1) c, .int .i64 (((m + 1 : Nat) : Int)), .bool false, undef, resV (rootS h), .int .i64 (h), resV (rootS h), N.v (rootS h).1, .int .i64 ((rootS h).2), resV (pwrS x n), N.v x, .int .i64 (n), resV (pwrS x n), N.v (pwrS x n).1, .int .i64 ((pwrS x n).2), resV (sumL (nmL L (off - off) (m + 1))), slV off (m + 1) c, resV (sumL (nmL L (off - off) (m + 1))), N.v (sumL (nmL L (off - off) (m + 1))).1, .int .i64 ((sumL (nmL L (off - off) (m + 1))).2), .slice (some ⟨8, 0, none⟩) 0 0, slV off (m + 1) c, slO (m + 1), resV (rootS h), .int .i64 (h), resV (rootS h), N.v (rootS h).1, .int .i64 ((rootS h).2), resV (pwrS x n), N.v x, .int .i64 (n), resV (pwrS x n), N.v (pwrS x n).1, .int .i64 ((pwrS x n).2), resV (sumL (nmL (cutL off off (m + 1) L) (0 - 0) (m + 1))), slO (m + 1), resV (sumL (nmL (cutL off off (m + 1) L) (0 - 0) (m + 1))), N.v (sumL (nmL (cutL off off (m + 1) L) (0 - 0) (m + 1))).1, .int .i64 ((sumL (nmL (cutL off off (m + 1) L) (0 - 0) (m + 1))).2), slV off (m + 1) c, .int .i64 (((m + 1 : Nat) : Int)), .int .i64 (0), undef, undef, undef, undef, undef, undef, undef, undef, undef, undef, undef, undef, undef, undef, undef, undef, undef, undef, undef, undef, undef, undef, undef, undef, undef, undef, undef, undef, undef, undef, undef, undef, undef, undef, undef, undef, undef, undef, undef, undef, undef, undef, undef, undef, undef, undef, undef, undef, undef, undef] [uni, pow, mxl M, kB et true off L, rb x, rb (rootS h).1, rb (pwrS x n).1, rb (sumL (nmL L (off - off) (m + 1))).1, emN, kB nuT2 false 0 (cutL off off (m + 1) L), rb (rootS h).1, rb (pwrS x n).1, rb (sumL (nmL (cutL off off (m + 1) L) (0 - 0) (m + 1))).1] k else none) else none) else none) := by kernel_rfl
theorem roundRW {α : Type} (M : Int) (s : Nat) (et : TypeId) (off m c : Nat) (x : N) (n h i : Int) (L : List Int) (v22 v65 v66 v67 v68 v69 v70 v71 v72 v73 v74 v75 v76 : Value) (k : Kont α) :
    evCodeK Tryz.prog orW (Sg1 M) (s + 60) 4 BRW [N.v x, .int .i64 (n), .int .i64 (h), slV off (m + 1) c, ptN 4, undef, undef, undef, .bool false, ptN 5, .int .i64 ((rootS h).2), ptN 6, .int .i64 ((pwrS x n).2), ptN 7, .int .i64 ((sumL (nmL L (off - off) (m + 1))).2), slO (m + 1), ptN 10, .int .i64 ((rootS h).2), ptN 11, .int .i64 ((pwrS x n).2), ptN 12, .int .i64 ((sumL (nmL (cutL off off (m + 1) L) (0 - 0) (m + 1))).2), v22, slV off (m + 1) c, .int .i64 (((m + 1 : Nat) : Int)), .bool false, undef, resV (rootS h), .int .i64 (h), resV (rootS h), N.v (rootS h).1, .int .i64 ((rootS h).2), resV (pwrS x n), N.v x, .int .i64 (n), resV (pwrS x n), N.v (pwrS x n).1, .int .i64 ((pwrS x n).2), resV (sumL (nmL L (off - off) (m + 1))), slV off (m + 1) c, resV (sumL (nmL L (off - off) (m + 1))), N.v (sumL (nmL L (off - off) (m + 1))).1, .int .i64 ((sumL (nmL L (off - off) (m + 1))).2), .slice (some ⟨8, 0, none⟩) 0 0, slV off (m + 1) c, slO (m + 1), resV (rootS h), .int .i64 (h), resV (rootS h), N.v (rootS h).1, .int .i64 ((rootS h).2), resV (pwrS x n), N.v x, .int .i64 (n), resV (pwrS x n), N.v (pwrS x n).1, .int .i64 ((pwrS x n).2), resV (sumL (nmL (cutL off off (m + 1) L) (0 - 0) (m + 1))), slO (m + 1), resV (sumL (nmL (cutL off off (m + 1) L) (0 - 0) (m + 1))), N.v (sumL (nmL (cutL off off (m + 1) L) (0 - 0) (m + 1))).1, .int .i64 ((sumL (nmL (cutL off off (m + 1) L) (0 - 0) (m + 1))).2), slV off (m + 1) c, .int .i64 (((m + 1 : Nat) : Int)), .int .i64 (i), v65, v66, v67, v68, v69, v70, v71, v72, v73, v74, v75, v76, undef, undef, undef, undef, undef, undef, undef, undef, undef, undef, undef, undef, undef, undef, undef, undef, undef, undef, undef, undef, undef, undef, undef, undef, undef, undef, undef, undef, undef, undef, undef, undef, undef, undef, undef, undef, undef, undef] [uni, pow, mxl M, kB et true off L, rb x, rb (rootS h).1, rb (pwrS x n).1, rb (sumL (nmL L (off - off) (m + 1))).1, emN, kB nuT2 false 0 (cutL off off (m + 1) L), rb (rootS h).1, rb (pwrS x n).1, rb (sumL (nmL (cutL off off (m + 1) L) (0 - 0) (m + 1))).1] k =
    bif decide (i < ((m + 1 : Nat) : Int)) then (bif (decide (0 ≤ i) && decide (i < ((m + 1 : Nat) : Int))) then (bif insideI 0 (cutL off off (m + 1) L) (0 + i.toNat * 5) 5 then (bif (decide (0 ≤ i) && decide (i < ((m + 1 : Nat) : Int))) then (bif insideI off L (off + i.toNat * 5) 5 then (bif !(eqN (nmI (cutL off off (m + 1) L) (0 + i.toNat * 5 - 0)) (nmI L (off + i.toNat * 5 - off))) then k .ret [N.v x, .int .i64 (n), .int .i64 (h), slV off (m + 1) c, ptN 4, undef, undef, undef, .bool false, ptN 5, .int .i64 ((rootS h).2), ptN 6, .int .i64 ((pwrS x n).2), ptN 7, .int .i64 ((sumL (nmL L (off - off) (m + 1))).2), slO (m + 1), ptN 10, .int .i64 ((rootS h).2), ptN 11, .int .i64 ((pwrS x n).2), ptN 12, .int .i64 ((sumL (nmL (cutL off off (m + 1) L) (0 - 0) (m + 1))).2), .int .i64 (i), slV off (m + 1) c, .int .i64 (((m + 1 : Nat) : Int)), .bool false, undef, resV (rootS h), .int .i64 (h), resV (rootS h), N.v (rootS h).1, .int .i64 ((rootS h).2), resV (pwrS x n), N.v x, .int .i64 (n), resV (pwrS x n), N.v (pwrS x n).1, .int .i64 ((pwrS x n).2), resV (sumL (nmL L (off - off) (m + 1))), slV off (m + 1) c, resV (sumL (nmL L (off - off) (m + 1))), N.v (sumL (nmL L (off - off) (m + 1))).1, .int .i64 ((sumL (nmL L (off - off) (m + 1))).2), .slice (some ⟨8, 0, none⟩) 0 0, slV off (m + 1) c, slO (m + 1), resV (rootS h), .int .i64 (h), resV (rootS h), N.v (rootS h).1, .int .i64 ((rootS h).2), resV (pwrS x n), N.v x, .int .i64 (n), resV (pwrS x n), N.v (pwrS x n).1, .int .i64 ((pwrS x n).2), resV (sumL (nmL (cutL off off (m + 1) L) (0 - 0) (m + 1))), slO (m + 1), resV (sumL (nmL (cutL off off (m + 1) L) (0 - 0) (m + 1))), N.v (sumL (nmL (cutL off off (m + 1) L) (0 - 0) (m + 1))).1, .int .i64 ((sumL (nmL (cutL off off (m + 1) L) (0 - 0) (m + 1))).2), slV off (m + 1) c, .int .i64 (((m + 1 : Nat) : Int)), .int .i64 (i), .bool true, .int .i64 (i), slO (m + 1), .int .i64 (i), .pointer (some ⟨9, 0 + i.toNat * 5, none⟩), N.v (nmI (cutL off off (m + 1) L) (0 + i.toNat * 5 - 0)), slV off (m + 1) c, .int .i64 (i), .pointer (some ⟨3, off + i.toNat * 5, none⟩), N.v (nmI L (off + i.toNat * 5 - off)), .bool true, v76, undef, undef, undef, undef, undef, undef, undef, undef, undef, undef, undef, undef, undef, undef, undef, undef, undef, undef, undef, undef, undef, undef, undef, undef, undef, undef, undef, undef, undef, undef, undef, undef, undef, undef, undef, undef, undef, undef] [uni, pow, mxl M, kB et true off L, rb x, rb (rootS h).1, rb (pwrS x n).1, rb (sumL (nmL L (off - off) (m + 1))).1, emN, kB nuT2 false 0 (cutL off off (m + 1) L), rb (rootS h).1, rb (pwrS x n).1, rb (sumL (nmL (cutL off off (m + 1) L) (0 - 0) (m + 1))).1] else k .normal [N.v x, .int .i64 (n), .int .i64 (h), slV off (m + 1) c, ptN 4, undef, undef, undef, .bool false, ptN 5, .int .i64 ((rootS h).2), ptN 6, .int .i64 ((pwrS x n).2), ptN 7, .int .i64 ((sumL (nmL L (off - off) (m + 1))).2), slO (m + 1), ptN 10, .int .i64 ((rootS h).2), ptN 11, .int .i64 ((pwrS x n).2), ptN 12, .int .i64 ((sumL (nmL (cutL off off (m + 1) L) (0 - 0) (m + 1))).2), .int .i64 (i), slV off (m + 1) c, .int .i64 (((m + 1 : Nat) : Int)), .bool false, undef, resV (rootS h), .int .i64 (h), resV (rootS h), N.v (rootS h).1, .int .i64 ((rootS h).2), resV (pwrS x n), N.v x, .int .i64 (n), resV (pwrS x n), N.v (pwrS x n).1, .int .i64 ((pwrS x n).2), resV (sumL (nmL L (off - off) (m + 1))), slV off (m + 1) c, resV (sumL (nmL L (off - off) (m + 1))), N.v (sumL (nmL L (off - off) (m + 1))).1, .int .i64 ((sumL (nmL L (off - off) (m + 1))).2), .slice (some ⟨8, 0, none⟩) 0 0, slV off (m + 1) c, slO (m + 1), resV (rootS h), .int .i64 (h), resV (rootS h), N.v (rootS h).1, .int .i64 ((rootS h).2), resV (pwrS x n), N.v x, .int .i64 (n), resV (pwrS x n), N.v (pwrS x n).1, .int .i64 ((pwrS x n).2), resV (sumL (nmL (cutL off off (m + 1) L) (0 - 0) (m + 1))), slO (m + 1), resV (sumL (nmL (cutL off off (m + 1) L) (0 - 0) (m + 1))), N.v (sumL (nmL (cutL off off (m + 1) L) (0 - 0) (m + 1))).1, .int .i64 ((sumL (nmL (cutL off off (m + 1) L) (0 - 0) (m + 1))).2), slV off (m + 1) c, .int .i64 (((m + 1 : Nat) : Int)), .int .i64 (w (i + 1)), .bool true, .int .i64 (i), slO (m + 1), .int .i64 (i), .pointer (some ⟨9, 0 + i.toNat * 5, none⟩), N.v (nmI (cutL off off (m + 1) L) (0 + i.toNat * 5 - 0)), slV off (m + 1) c, .int .i64 (i), .pointer (some ⟨3, off + i.toNat * 5, none⟩), N.v (nmI L (off + i.toNat * 5 - off)), .bool false, .int .i64 (w (i + 1)), undef, undef, undef, undef, undef, undef, undef, undef, undef, undef, undef, undef, undef, undef, undef, undef, undef, undef, undef, undef, undef, undef, undef, undef, undef, undef, undef, undef, undef, undef, undef, undef, undef, undef, undef, undef, undef, undef] [uni, pow, mxl M, kB et true off L, rb x, rb (rootS h).1, rb (pwrS x n).1, rb (sumL (nmL L (off - off) (m + 1))).1, emN, kB nuT2 false 0 (cutL off off (m + 1) L), rb (rootS h).1, rb (pwrS x n).1, rb (sumL (nmL (cutL off off (m + 1) L) (0 - 0) (m + 1))).1]) else none) else none) else none) else none) else k (.exit 0) [N.v x, .int .i64 (n), .int .i64 (h), slV off (m + 1) c, ptN 4, undef, undef, undef, .bool false, ptN 5, .int .i64 ((rootS h).2), ptN 6, .int .i64 ((pwrS x n).2), ptN 7, .int .i64 ((sumL (nmL L (off - off) (m + 1))).2), slO (m + 1), ptN 10, .int .i64 ((rootS h).2), ptN 11, .int .i64 ((pwrS x n).2), ptN 12, .int .i64 ((sumL (nmL (cutL off off (m + 1) L) (0 - 0) (m + 1))).2), v22, slV off (m + 1) c, .int .i64 (((m + 1 : Nat) : Int)), .bool false, undef, resV (rootS h), .int .i64 (h), resV (rootS h), N.v (rootS h).1, .int .i64 ((rootS h).2), resV (pwrS x n), N.v x, .int .i64 (n), resV (pwrS x n), N.v (pwrS x n).1, .int .i64 ((pwrS x n).2), resV (sumL (nmL L (off - off) (m + 1))), slV off (m + 1) c, resV (sumL (nmL L (off - off) (m + 1))), N.v (sumL (nmL L (off - off) (m + 1))).1, .int .i64 ((sumL (nmL L (off - off) (m + 1))).2), .slice (some ⟨8, 0, none⟩) 0 0, slV off (m + 1) c, slO (m + 1), resV (rootS h), .int .i64 (h), resV (rootS h), N.v (rootS h).1, .int .i64 ((rootS h).2), resV (pwrS x n), N.v x, .int .i64 (n), resV (pwrS x n), N.v (pwrS x n).1, .int .i64 ((pwrS x n).2), resV (sumL (nmL (cutL off off (m + 1) L) (0 - 0) (m + 1))), slO (m + 1), resV (sumL (nmL (cutL off off (m + 1) L) (0 - 0) (m + 1))), N.v (sumL (nmL (cutL off off (m + 1) L) (0 - 0) (m + 1))).1, .int .i64 ((sumL (nmL (cutL off off (m + 1) L) (0 - 0) (m + 1))).2), slV off (m + 1) c, .int .i64 (((m + 1 : Nat) : Int)), .int .i64 (i), .bool false, v66, v67, v68, v69, v70, v71, v72, v73, v74, v75, v76, undef, undef, undef, undef, undef, undef, undef, undef, undef, undef, undef, undef, undef, undef, undef, undef, undef, undef, undef, undef, undef, undef, undef, undef, undef, undef, undef, undef, undef, undef, undef, undef, undef, undef, undef, undef, undef, undef] [uni, pow, mxl M, kB et true off L, rb x, rb (rootS h).1, rb (pwrS x n).1, rb (sumL (nmL L (off - off) (m + 1))).1, emN, kB nuT2 false 0 (cutL off off (m + 1) L), rb (rootS h).1, rb (pwrS x n).1, rb (sumL (nmL (cutL off off (m + 1) L) (0 - 0) (m + 1))).1] := by kernel_rfl
theorem tailRW (M : Int) (fs : Nat → Nat) (et : TypeId) (off m c : Nat) (x : N) (n h i : Int) (L : List Int) (v22 v65 v66 v67 v68 v69 v70 v71 v72 v73 v74 v75 v76 : Value) :
    evP Tryz.prog orW (Sg1 M) 4 fs 12 [qRW 12, qRW 13] [N.v x, .int .i64 (n), .int .i64 (h), slV off (m + 1) c, ptN 4, undef, undef, undef, .bool false, ptN 5, .int .i64 ((rootS h).2), ptN 6, .int .i64 ((pwrS x n).2), ptN 7, .int .i64 ((sumL (nmL L (off - off) (m + 1))).2), slO (m + 1), ptN 10, .int .i64 ((rootS h).2), ptN 11, .int .i64 ((pwrS x n).2), ptN 12, .int .i64 ((sumL (nmL (cutL off off (m + 1) L) (0 - 0) (m + 1))).2), v22, slV off (m + 1) c, .int .i64 (((m + 1 : Nat) : Int)), .bool false, undef, resV (rootS h), .int .i64 (h), resV (rootS h), N.v (rootS h).1, .int .i64 ((rootS h).2), resV (pwrS x n), N.v x, .int .i64 (n), resV (pwrS x n), N.v (pwrS x n).1, .int .i64 ((pwrS x n).2), resV (sumL (nmL L (off - off) (m + 1))), slV off (m + 1) c, resV (sumL (nmL L (off - off) (m + 1))), N.v (sumL (nmL L (off - off) (m + 1))).1, .int .i64 ((sumL (nmL L (off - off) (m + 1))).2), .slice (some ⟨8, 0, none⟩) 0 0, slV off (m + 1) c, slO (m + 1), resV (rootS h), .int .i64 (h), resV (rootS h), N.v (rootS h).1, .int .i64 ((rootS h).2), resV (pwrS x n), N.v x, .int .i64 (n), resV (pwrS x n), N.v (pwrS x n).1, .int .i64 ((pwrS x n).2), resV (sumL (nmL (cutL off off (m + 1) L) (0 - 0) (m + 1))), slO (m + 1), resV (sumL (nmL (cutL off off (m + 1) L) (0 - 0) (m + 1))), N.v (sumL (nmL (cutL off off (m + 1) L) (0 - 0) (m + 1))).1, .int .i64 ((sumL (nmL (cutL off off (m + 1) L) (0 - 0) (m + 1))).2), slV off (m + 1) c, .int .i64 (((m + 1 : Nat) : Int)), .int .i64 (i), v65, v66, v67, v68, v69, v70, v71, v72, v73, v74, v75, v76, undef, undef, undef, undef, undef, undef, undef, undef, undef, undef, undef, undef, undef, undef, undef, undef, undef, undef, undef, undef, undef, undef, undef, undef, undef, undef, undef, undef, undef, undef, undef, undef, undef, undef, undef, undef, undef, undef] [uni, pow, mxl M, kB et true off L, rb x, rb (rootS h).1, rb (pwrS x n).1, rb (sumL (nmL L (off - off) (m + 1))).1, emN, kB nuT2 false 0 (cutL off off (m + 1) L), rb (rootS h).1, rb (pwrS x n).1, rb (sumL (nmL (cutL off off (m + 1) L) (0 - 0) (m + 1))).1] (endK Tryz.prog 5 fun u _ => some u) =
    (bif (rootS h).2 == (rootS h).2 then (bif (pwrS x n).2 == (pwrS x n).2 then (bif (sumL (nmL (cutL off off (m + 1) L) (0 - 0) (m + 1))).2 == (sumL (nmL L (off - off) (m + 1))).2 then (bif eqN (rootS h).1 (rootS h).1 then (bif eqN (pwrS x n).1 (pwrS x n).1 then (bif eqN (sumL (nmL (cutL off off (m + 1) L) (0 - 0) (m + 1))).1 (sumL (nmL L (off - off) (m + 1))).1 then (bif eqN (xo n) (trns (omN n).toNat om1) then some (.bool true) else some (.bool false)) else some (.bool false)) else some (.bool false)) else some (.bool false)) else some (.bool false)) else some (.bool false)) else some (.bool false)) := by kernel_rfl
end Go.Proofs.YtihccnfaibiiiaaGreatDoor.R
/- Ring: RingPowers holds for every number, all integers, and every list that is not empty. -/
namespace Go.Proofs.YtihccnfaibiiiaaGreatDoor.R
open Go Go.Proofs.XX.Vm Go.Proofs.XX.Rm Go.RowKit
set_option maxRecDepth 100000

theorem callInK_far {P : Program} {α : Type} {orc : Orc} {Sg : List Blk} {fl : Nat} {f : FuncId} {args : List Value} {S : List Blk} {k : Value → List Blk → Option α} (hb : (P.funcs[f]?).bind (·.body) ≠ none) (N : Nat) :
    ∃ (m : Nat) (fs : Nat → Nat), (∀ i, N ≤ fs i) ∧ callInK P (evCodeK P orc Sg m) fl f args S k = evP P orc Sg fl fs 0 (pcs P f) (tmps0Of P f args) S (endK P f k) := by
  obtain ⟨fs, h1, h2⟩ := evCodeK_flat (P := P) (α := α) (orc := orc) (Sg := Sg) (fl := fl) (bodyOf P f) (N + depthC (bodyOf P f) + 60) (by omega)
  refine ⟨N + depthC (bodyOf P f) + 60, fs, fun i => by have := h1 i; omega, ?_⟩
  unfold pcs
  rw [← h2]
  unfold callInK bodyOf tmps0Of endK outOf
  cases hf : P.funcs[f]? with
  | none => rw [hf] at hb; exact absurd rfl hb
  | some fn =>
    cases hc : fn.body with
    | none => rw [hf] at hb; simp [hc] at hb
    | some c =>
      simp only [hc, forceK_eq]
      congr 1
      funext x T' S'
      cases x <;> simp only <;> cases resVals P T' S' fn.results.toList <;> rfl
theorem bodyRW : (Tryz.prog.funcs[5]?).bind (·.body) ≠ none := by
  rw [Tryz.func5]
  intro h
  have : (Option.isSome ((some Tryz.f5).bind (·.body))) = true := by kernel_rfl
  rw [h] at this
  cases this
theorem tmpsRW (a b c d : Value) : tmps0Of Tryz.prog 5 [a, b, c, d] = a :: b :: c :: d :: List.replicate 111 undef := by kernel_rfl
theorem greatRW (M : Int) (et : TypeId) (off m c : Nat) (x : N) (n h : Int) (L : List Int) : endK Tryz.prog 5 (fun u _ => some u) .ret [N.v x, .int .i64 (n), .int .i64 (h), slV off (m + 1) c, ptN 4, undef, undef, undef, .bool true, undef, undef, undef, undef, undef, undef, undef, undef, undef, undef, undef, undef, undef, undef, slV off (m + 1) c, .int .i64 (((m + 1 : Nat) : Int)), .bool true, .bool true, undef, undef, undef, undef, undef, undef, undef, undef, undef, undef, undef, undef, undef, undef, undef, undef, undef, undef, undef, undef, undef, undef, undef, undef, undef, undef, undef, undef, undef, undef, undef, undef, undef, undef, undef, undef, undef, undef, undef, undef, undef, undef, undef, undef, undef, undef, undef, undef, undef, undef, undef, undef, undef, undef, undef, undef, undef, undef, undef, undef, undef, undef, undef, undef, undef, undef, undef, undef, undef, undef, undef, undef, undef, undef, undef, undef, undef, undef, undef, undef, undef, undef, undef, undef, undef, undef, undef, undef] [uni, pow, mxl M, kB et true off L, rb x] = some (.bool true) := by kernel_rfl
theorem nmI_cut (L : List Int) (k t o : Nat) (h : o + 5 ≤ t) : nmI ((L.drop k).take t) o = nmI L (k + o) := by
  unfold nmI
  rw [nthI_cut _ _ _ _ (by omega), nthI_cut _ _ _ _ (by omega), nthI_cut _ _ _ _ (by omega), nthI_cut _ _ _ _ (by omega), nthI_cut _ _ _ _ (by omega)]
  rfl
theorem loopRW (M : Int) (et : TypeId) (off m c : Nat) (x : N) (n h : Int) (L : List Int) (hi : insideI off L off ((m + 1) * 5) = true) (hm : ¬ ((m + 1 : Nat) : Int) > 100) :
    Ev Tryz.prog orW (Sg1 M) Value 4 (.loop BRW) [N.v x, .int .i64 (n), .int .i64 (h), slV off (m + 1) c, ptN 4, undef, undef, undef, .bool false, ptN 5, .int .i64 ((rootS h).2), ptN 6, .int .i64 ((pwrS x n).2), ptN 7, .int .i64 ((sumL (nmL L (off - off) (m + 1))).2), slO (m + 1), ptN 10, .int .i64 ((rootS h).2), ptN 11, .int .i64 ((pwrS x n).2), ptN 12, .int .i64 ((sumL (nmL (cutL off off (m + 1) L) (0 - 0) (m + 1))).2), undef, slV off (m + 1) c, .int .i64 (((m + 1 : Nat) : Int)), .bool false, undef, resV (rootS h), .int .i64 (h), resV (rootS h), N.v (rootS h).1, .int .i64 ((rootS h).2), resV (pwrS x n), N.v x, .int .i64 (n), resV (pwrS x n), N.v (pwrS x n).1, .int .i64 ((pwrS x n).2), resV (sumL (nmL L (off - off) (m + 1))), slV off (m + 1) c, resV (sumL (nmL L (off - off) (m + 1))), N.v (sumL (nmL L (off - off) (m + 1))).1, .int .i64 ((sumL (nmL L (off - off) (m + 1))).2), .slice (some ⟨8, 0, none⟩) 0 0, slV off (m + 1) c, slO (m + 1), resV (rootS h), .int .i64 (h), resV (rootS h), N.v (rootS h).1, .int .i64 ((rootS h).2), resV (pwrS x n), N.v x, .int .i64 (n), resV (pwrS x n), N.v (pwrS x n).1, .int .i64 ((pwrS x n).2), resV (sumL (nmL (cutL off off (m + 1) L) (0 - 0) (m + 1))), slO (m + 1), resV (sumL (nmL (cutL off off (m + 1) L) (0 - 0) (m + 1))), N.v (sumL (nmL (cutL off off (m + 1) L) (0 - 0) (m + 1))).1, .int .i64 ((sumL (nmL (cutL off off (m + 1) L) (0 - 0) (m + 1))).2), slV off (m + 1) c, .int .i64 (((m + 1 : Nat) : Int)), .int .i64 (0), undef, undef, undef, undef, undef, undef, undef, undef, undef, undef, undef, undef, undef, undef, undef, undef, undef, undef, undef, undef, undef, undef, undef, undef, undef, undef, undef, undef, undef, undef, undef, undef, undef, undef, undef, undef, undef, undef, undef, undef, undef, undef, undef, undef, undef, undef, undef, undef, undef, undef] [uni, pow, mxl M, kB et true off L, rb x, rb (rootS h).1, rb (pwrS x n).1, rb (sumL (nmL L (off - off) (m + 1))).1, emN, kB nuT2 false 0 (cutL off off (m + 1) L), rb (rootS h).1, rb (pwrS x n).1, rb (sumL (nmL (cutL off off (m + 1) L) (0 - 0) (m + 1))).1] fun y T S => y = .exit 0 ∧ S = [uni, pow, mxl M, kB et true off L, rb x, rb (rootS h).1, rb (pwrS x n).1, rb (sumL (nmL L (off - off) (m + 1))).1, emN, kB nuT2 false 0 (cutL off off (m + 1) L), rb (rootS h).1, rb (pwrS x n).1, rb (sumL (nmL (cutL off off (m + 1) L) (0 - 0) (m + 1))).1] ∧ ∃ (i : Int) (v22 v65 v66 v67 v68 v69 v70 v71 v72 v73 v74 v75 v76 : Value), T = [N.v x, .int .i64 (n), .int .i64 (h), slV off (m + 1) c, ptN 4, undef, undef, undef, .bool false, ptN 5, .int .i64 ((rootS h).2), ptN 6, .int .i64 ((pwrS x n).2), ptN 7, .int .i64 ((sumL (nmL L (off - off) (m + 1))).2), slO (m + 1), ptN 10, .int .i64 ((rootS h).2), ptN 11, .int .i64 ((pwrS x n).2), ptN 12, .int .i64 ((sumL (nmL (cutL off off (m + 1) L) (0 - 0) (m + 1))).2), v22, slV off (m + 1) c, .int .i64 (((m + 1 : Nat) : Int)), .bool false, undef, resV (rootS h), .int .i64 (h), resV (rootS h), N.v (rootS h).1, .int .i64 ((rootS h).2), resV (pwrS x n), N.v x, .int .i64 (n), resV (pwrS x n), N.v (pwrS x n).1, .int .i64 ((pwrS x n).2), resV (sumL (nmL L (off - off) (m + 1))), slV off (m + 1) c, resV (sumL (nmL L (off - off) (m + 1))), N.v (sumL (nmL L (off - off) (m + 1))).1, .int .i64 ((sumL (nmL L (off - off) (m + 1))).2), .slice (some ⟨8, 0, none⟩) 0 0, slV off (m + 1) c, slO (m + 1), resV (rootS h), .int .i64 (h), resV (rootS h), N.v (rootS h).1, .int .i64 ((rootS h).2), resV (pwrS x n), N.v x, .int .i64 (n), resV (pwrS x n), N.v (pwrS x n).1, .int .i64 ((pwrS x n).2), resV (sumL (nmL (cutL off off (m + 1) L) (0 - 0) (m + 1))), slO (m + 1), resV (sumL (nmL (cutL off off (m + 1) L) (0 - 0) (m + 1))), N.v (sumL (nmL (cutL off off (m + 1) L) (0 - 0) (m + 1))).1, .int .i64 ((sumL (nmL (cutL off off (m + 1) L) (0 - 0) (m + 1))).2), slV off (m + 1) c, .int .i64 (((m + 1 : Nat) : Int)), .int .i64 (i), v65, v66, v67, v68, v69, v70, v71, v72, v73, v74, v75, v76, undef, undef, undef, undef, undef, undef, undef, undef, undef, undef, undef, undef, undef, undef, undef, undef, undef, undef, undef, undef, undef, undef, undef, undef, undef, undef, undef, undef, undef, undef, undef, undef, undef, undef, undef, undef, undef, undef] := by
  have hi2 : off + (m + 1) * 5 ≤ off + L.length := by simpa [insideI, Nat.ble_eq] using hi
  have hlen : (cutL off off (m + 1) L).length = (m + 1) * 5 := by unfold cutL; simp; omega
  refine Ev.loop (fun q T S => ∃ (i : Nat) (v22 v65 v66 v67 v68 v69 v70 v71 v72 v73 v74 v75 v76 : Value), i ≤ m + 1 ∧ q = m + 1 - i ∧ S = [uni, pow, mxl M, kB et true off L, rb x, rb (rootS h).1, rb (pwrS x n).1, rb (sumL (nmL L (off - off) (m + 1))).1, emN, kB nuT2 false 0 (cutL off off (m + 1) L), rb (rootS h).1, rb (pwrS x n).1, rb (sumL (nmL (cutL off off (m + 1) L) (0 - 0) (m + 1))).1] ∧ T = [N.v x, .int .i64 (n), .int .i64 (h), slV off (m + 1) c, ptN 4, undef, undef, undef, .bool false, ptN 5, .int .i64 ((rootS h).2), ptN 6, .int .i64 ((pwrS x n).2), ptN 7, .int .i64 ((sumL (nmL L (off - off) (m + 1))).2), slO (m + 1), ptN 10, .int .i64 ((rootS h).2), ptN 11, .int .i64 ((pwrS x n).2), ptN 12, .int .i64 ((sumL (nmL (cutL off off (m + 1) L) (0 - 0) (m + 1))).2), v22, slV off (m + 1) c, .int .i64 (((m + 1 : Nat) : Int)), .bool false, undef, resV (rootS h), .int .i64 (h), resV (rootS h), N.v (rootS h).1, .int .i64 ((rootS h).2), resV (pwrS x n), N.v x, .int .i64 (n), resV (pwrS x n), N.v (pwrS x n).1, .int .i64 ((pwrS x n).2), resV (sumL (nmL L (off - off) (m + 1))), slV off (m + 1) c, resV (sumL (nmL L (off - off) (m + 1))), N.v (sumL (nmL L (off - off) (m + 1))).1, .int .i64 ((sumL (nmL L (off - off) (m + 1))).2), .slice (some ⟨8, 0, none⟩) 0 0, slV off (m + 1) c, slO (m + 1), resV (rootS h), .int .i64 (h), resV (rootS h), N.v (rootS h).1, .int .i64 ((rootS h).2), resV (pwrS x n), N.v x, .int .i64 (n), resV (pwrS x n), N.v (pwrS x n).1, .int .i64 ((pwrS x n).2), resV (sumL (nmL (cutL off off (m + 1) L) (0 - 0) (m + 1))), slO (m + 1), resV (sumL (nmL (cutL off off (m + 1) L) (0 - 0) (m + 1))), N.v (sumL (nmL (cutL off off (m + 1) L) (0 - 0) (m + 1))).1, .int .i64 ((sumL (nmL (cutL off off (m + 1) L) (0 - 0) (m + 1))).2), slV off (m + 1) c, .int .i64 (((m + 1 : Nat) : Int)), .int .i64 (((i : Nat) : Int)), v65, v66, v67, v68, v69, v70, v71, v72, v73, v74, v75, v76, undef, undef, undef, undef, undef, undef, undef, undef, undef, undef, undef, undef, undef, undef, undef, undef, undef, undef, undef, undef, undef, undef, undef, undef, undef, undef, undef, undef, undef, undef, undef, undef, undef, undef, undef, undef, undef, undef]) ?_ (m + 1) _ _ ⟨0, undef, undef, undef, undef, undef, undef, undef, undef, undef, undef, undef, undef, undef, Nat.zero_le _, by omega, rfl, rfl⟩
  rintro q T S ⟨i, v22, v65, v66, v67, v68, v69, v70, v71, v72, v73, v74, v75, v76, hle, hq, rfl, rfl⟩
  by_cases hlt : i < m + 1
  · have c1 : decide (((i : Nat) : Int) < ((m + 1 : Nat) : Int)) = true := decide_eq_true (by omega)
    have c2 : (decide (0 ≤ ((i : Nat) : Int)) && decide (((i : Nat) : Int) < ((m + 1 : Nat) : Int))) = true := by rw [c1, decide_eq_true (show 0 ≤ ((i : Nat) : Int) by omega)]; rfl
    have c3 : insideI 0 (cutL off off (m + 1) L) (0 + ((i : Nat) : Int).toNat * 5) 5 = true := by
      simp only [insideI, Bool.and_eq_true, Nat.ble_eq, hlen, Int.toNat_natCast]
      omega
    have c4 : insideI off L (off + ((i : Nat) : Int).toNat * 5) 5 = true := by
      simp only [insideI, Bool.and_eq_true, Nat.ble_eq, Int.toNat_natCast]
      omega
    have c5 : (!(eqN (nmI (cutL off off (m + 1) L) (0 + ((i : Nat) : Int).toNat * 5 - 0)) (nmI L (off + ((i : Nat) : Int).toNat * 5 - off)))) = false := by
      rw [Int.toNat_natCast, show off + i * 5 - off = (off - off) + (0 + i * 5 - 0) by omega]
      unfold cutL
      rw [nmI_cut _ _ _ _ (by omega), (eqN_iff _ _).2 rfl]
      rfl
    have hw : w (((i : Nat) : Int) + 1) = ((i + 1 : Nat) : Int) := by rw [w_eq _ (by omega) (by omega)]; omega
    refine Ev.of_eq 60 (fun s k => (roundRW M s et off m c x n h i L v22 v65 v66 v67 v68 v69 v70 v71 v72 v73 v74 v75 v76 k).trans ((condT c1).trans ((condT c2).trans ((condT c3).trans ((condT c2).trans ((condT c4).trans (condF c5))))))) ?_
    exact ⟨m + 1 - (i + 1), by omega, i + 1, .int .i64 (((i : Nat) : Int)), .bool true, .int .i64 (((i : Nat) : Int)), slO (m + 1), .int .i64 (((i : Nat) : Int)), .pointer (some ⟨9, 0 + ((i : Nat) : Int).toNat * 5, none⟩), N.v (nmI (cutL off off (m + 1) L) (0 + ((i : Nat) : Int).toNat * 5 - 0)), slV off (m + 1) c, .int .i64 (((i : Nat) : Int)), .pointer (some ⟨3, off + ((i : Nat) : Int).toNat * 5, none⟩), N.v (nmI L (off + ((i : Nat) : Int).toNat * 5 - off)), .bool false, .int .i64 ((i + 1 : Nat)), by omega, rfl, rfl, by rw [hw]⟩
  · have c1 : decide (((i : Nat) : Int) < ((m + 1 : Nat) : Int)) = false := decide_eq_false (by omega)
    refine Ev.of_eq 60 (fun s k => (roundRW M s et off m c x n h i L v22 v65 v66 v67 v68 v69 v70 v71 v72 v73 v74 v75 v76 k).trans (condF c1)) ?_
    exact ⟨rfl, rfl, ((i : Nat) : Int), _, _, _, _, _, _, _, _, _, _, _, _, _, rfl⟩
theorem lawPw (M : Int) (et : TypeId) (off m c : Nat) (x : N) (n h : Int) (L : List Int) (hi : insideI off L off ((m + 1) * 5) = true) :
    ∃ s, callInK Tryz.prog (evCodeK Tryz.prog orW (Sg1 M) s) 4 5 [N.v x, .int .i64 n, .int .i64 h, slV off (m + 1) c] [uni, pow, mxl M, kB et true off L] (fun u _ => some u) = some (.bool true) := by
  by_cases hg : ((m + 1 : Nat) : Int) > 100
  · obtain ⟨s, fs, _, e⟩ := callInK_far (P := Tryz.prog) (orc := orW) (Sg := Sg1 M) (fl := 4) (f := 5) (args := [N.v x, .int .i64 n, .int .i64 h, slV off (m + 1) c]) (S := [uni, pow, mxl M, kB et true off L]) (k := fun (u : Value) (_ : List Blk) => some u) bodyRW 0
    refine ⟨s, e.trans ?_⟩
    rw [tmpsRW, LRW_eq]
    exact (headRW M fs et off m c x n h L _ _).trans ((condT (decide_eq_true hg)).trans (greatRW M et off m c x n h L))
  · obtain ⟨n1, y, T, S, ⟨rfl, rfl, i, v22, v65, v66, v67, v68, v69, v70, v71, v72, v73, v74, v75, v76, rfl⟩, hev⟩ := loopRW M et off m c x n h L hi hg
    obtain ⟨s, fs, hfs, e⟩ := callInK_far (P := Tryz.prog) (orc := orW) (Sg := Sg1 M) (fl := 4) (f := 5) (args := [N.v x, .int .i64 n, .int .i64 h, slV off (m + 1) c]) (S := [uni, pow, mxl M, kB et true off L]) (k := fun (u : Value) (_ : List Blk) => some u) bodyRW (n1 + 1)
    refine ⟨s, e.trans ?_⟩
    rw [tmpsRW, LRW_eq]
    have hb : m + 1 ≤ 34359738368 := by omega
    have hi2 : off + (m + 1) * 5 ≤ off + L.length := by simpa [insideI, Nat.ble_eq] using hi
    have hlen : (cutL off off (m + 1) L).length = (m + 1) * 5 := by unfold cutL; simp; omega
    have hap : apL off off (m + 1) L = true := by
      unfold apL
      rw [hi, show Nat.ble (m + 1) 34359738368 = true from by rw [Nat.ble_eq]; exact hb]
      rfl
    refine (headRW M fs et off m c x n h L _ _).trans ((condF (decide_eq_false hg)).trans ((condT (tsL_true hi hb)).trans ((condT hap).trans ((condT (tsL_true (by simp [insideI, hlen, Nat.ble_eq]) hb)).trans ?_))))
    obtain ⟨g, hgf⟩ : ∃ g, fs 11 + 60 = g + 1 := ⟨fs 11 + 59, by omega⟩
    have hg1 : n1 ≤ g := by have := hfs 11; omega
    simp only [evP, hgf]
    show evCodeK Tryz.prog orW (Sg1 M) g 4 (.loop BRW) _ _ _ = _
    rw [hev g hg1]
    refine Eq.trans ?_ ((tailRW M fs et off m c x n h i L v22 v65 v66 v67 v68 v69 v70 v71 v72 v73 v74 v75 v76).trans ?_)
    · rfl
    · have hs : nmL (cutL off off (m + 1) L) (0 - 0) (m + 1) = nmL L (off - off) (m + 1) := nmL_cut L (off - off) ((m + 1) * 5) (m + 1) 0 (by omega)
      rw [hs, xo_eq]
      simp only [beq_self_eq_true, (eqN_iff _ _).2 rfl, cond_true]
end Go.Proofs.YtihccnfaibiiiaaGreatDoor.R
/- Ring: RingPowers holds for lists without numbers. -/
namespace Go.Proofs.YtihccnfaibiiiaaGreatDoor.R
open Go Go.Proofs.XX.Vm Go.Proofs.XX.Rm Go.RowKit
set_option maxRecDepth 100000

def shortP (x : N) (n h : Int) : Option Value := bif (rootS h).2 == (rootS h).2 then (bif (pwrS x n).2 == (pwrS x n).2 then (bif eqN (rootS h).1 (rootS h).1 then (bif eqN (pwrS x n).1 (pwrS x n).1 then (bif eqN (xo n) (trns (omN n).toNat om1) then some (.bool true) else some (.bool false)) else some (.bool false)) else some (.bool false)) else some (.bool false)) else some (.bool false)
theorem nilTrW (M : Int) (x : N) (n h : Int) : callInK Tryz.prog (evCodeK Tryz.prog orW (Sg1 M) 300) 3 5 [N.v x, .int .i64 n, .int .i64 h, .slice none 0 0] (Sg1 M) (fun u _ => some u) = shortP x n h := by kernel_rfl
theorem empTrW (M : Int) (c : Nat) (x : N) (n h : Int) : callInK Tryz.prog (evCodeK Tryz.prog orW (Sg1 M) 300) 3 5 [N.v x, .int .i64 n, .int .i64 h, .slice (some ⟨1, 0, none⟩) 0 c] (Sg1 M) (fun u _ => some u) = shortP x n h := by kernel_rfl
theorem shortP_true (x : N) (n h : Int) : shortP x n h = some (.bool true) := by
  unfold shortP
  rw [xo_eq]
  simp only [beq_self_eq_true, (eqN_iff _ _).2 rfl, cond_true]
theorem nilPw (M : Int) (x : N) (n h : Int) : callInK Tryz.prog (evCodeK Tryz.prog orW (Sg1 M) 300) 3 5 [N.v x, .int .i64 n, .int .i64 h, .slice none 0 0] (Sg1 M) (fun u _ => some u) = some (.bool true) :=
  (nilTrW M x n h).trans (shortP_true x n h)
theorem empPw (M : Int) (c : Nat) (x : N) (n h : Int) : callInK Tryz.prog (evCodeK Tryz.prog orW (Sg1 M) 300) 3 5 [N.v x, .int .i64 n, .int .i64 h, .slice (some ⟨1, 0, none⟩) 0 c] (Sg1 M) (fun u _ => some u) = some (.bool true) :=
  (empTrW M c x n h).trans (shortP_true x n h)
end Go.Proofs.YtihccnfaibiiiaaGreatDoor.R
