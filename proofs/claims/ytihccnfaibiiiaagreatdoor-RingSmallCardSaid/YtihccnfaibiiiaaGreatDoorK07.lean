/- Ring: the specification's sums and products. -/
import Derived.Test.YtihccnfaibiiiaaGreatDoorK06
namespace Go.Proofs.YtihccnfaibiiiaaGreatDoor.R
open Go Go.Proofs.XX.Vm Go.Proofs.XX.Rm Go.RowKit
set_option maxRecDepth 100000

/-- The specification's 'times', and 'product'. -/
def tmR (x : N) : N := ⟨w (x.b - x.d), w (x.a + x.c), w (x.b + x.d), w (x.c - x.a), x.k⟩
theorem tTm (M : Int) (m : Nat) (x : N) : runK Tryz.prog (orcL []) (Sg1 M) (m + 60) 43 [N.v x] = some (N.v (tmR x)) := by kernel_rfl
def cTim : Con := con1 43 fun x => .val (N.v (tmR x))
theorem cTim_ok (M : Int) : ConOk M cTim := con1_ok nil_ok fun x v h => by cases h; exact EvF.of_eq 60 fun m => tTm M m x
abbrev LF : List Con := [cChkR, cFrm]
theorem LF_ok (M : Int) : ∀ c ∈ LF, ConOk M c := mem_cons_ok (cChkR_ok M) (mem_cons_ok (cFrm_ok M) nil_ok)
theorem tFit (M : Int) (m : Nat) (x : N) : runK Tryz.prog (orcL LF) (Sg1 M) (m + 60) 44 [N.v x] =
    bif symN x then bif3 x.nf (some (resV (x.nf, 0))) (fun _ => some (resV (O, 8))) else none := by kernel_rfl
def cFit : Con := con1 44 fun x => .ite (symN x) (fitT x.nf) .no
theorem cFit_ok (M : Int) : ConOk M cFit := con1_ok (LF_ok M) fun x v h => by
  refine EvF.of_eq 60 fun m => get_some h ?_
  rw [tFit]
  simp only [OT.get, fitT]
  unfold bif3 okB
  cases symN x <;> cases rgB x.nf <;> cases inB x.nf <;> rfl
noncomputable abbrev LG : List Con := [cChkR, cFrm, cTim, cFit]
theorem LG_ok (M : Int) : ∀ c ∈ LG, ConOk M c := mem_cons_ok (cChkR_ok M) (mem_cons_ok (cFrm_ok M) (mem_cons_ok (cTim_ok M) (mem_cons_ok (cFit_ok M) nil_ok)))
/-- Two numbers in a row. -/
def sb2 (x y : N) : Blk := ⟨[.int .i64 x.a, .int .i64 x.b, .int .i64 x.c, .int .i64 x.d, .int .i64 x.k, .int .i64 y.a, .int .i64 y.b, .int .i64 y.c, .int .i64 y.d, .int .i64 y.k], 23, false, none⟩
def sl2 : Value := .slice (some ⟨6, 0, none⟩) 2 2
noncomputable abbrev qA (i : Nat) : Code := nthC (pcs Tryz.prog 8) i
noncomputable abbrev BA (i : Nat) : Code := loopOf Tryz.prog 8 i
theorem LA_eq : pcs Tryz.prog 8 = [qA 0, qA 1, qA 2, qA 3, qA 4, .block 0 (.loop (BA 0)), .block 2 (.loop (BA 1)), qA 7, qA 8] := by kernel_rfl
theorem headA {α : Type} (M : Int) (fs : Nat → Nat) (x0 y0 : N) (l : List Code) (k : Kont α) :
    evP Tryz.prog (orcL LG) (Sg1 M) 3 fs 0 (qA 0 :: qA 1 :: qA 2 :: qA 3 :: qA 4 :: l) (N.v x0 :: N.v y0 :: List.replicate 65 undef) (Sg1 M) k =
    bif3 x0 (bif3 y0 (bif symN x0 then bif symN y0 then evP Tryz.prog (orcL LG) (Sg1 M) 3 fs 5 l [N.v x0, N.v y0, p1, p2, p3, .int .i64 0, (.int .i64 0), (N.v x0), (N.v y0), sl2, (.int .i64 0), (.int .i64 0), (.bool false), undef, undef, (N.v x0), (N.v x0.nf), (N.v y0), (N.v y0.nf), undef, undef, undef, undef, undef, undef, undef, undef, undef, undef, undef, undef, undef, undef, undef, undef, undef, undef, undef, undef, undef, undef, undef, undef, undef, undef, undef, undef, undef, undef, undef, undef, undef, undef, undef, undef, undef, undef, undef, undef, undef, undef, undef, undef, undef, undef, undef, undef] [uni, pow, mxl M, rb x0.nf, rb y0.nf, rb O, sb2 x0 y0] k else none else none)
      fun e => k .ret [N.v x0, N.v y0, p1, p2, p3, .int .i64 e, (.int .i64 e), (N.v x0), (N.v y0), sl2, (.int .i64 e), (.int .i64 e), (.bool true), (N.v O), (.int .i64 e), undef, undef, undef, undef, undef, undef, undef, undef, undef, undef, undef, undef, undef, undef, undef, undef, undef, undef, undef, undef, undef, undef, undef, undef, undef, undef, undef, undef, undef, undef, undef, undef, undef, undef, undef, undef, undef, undef, undef, undef, undef, undef, undef, undef, undef, undef, undef, undef, undef, undef, undef, undef] [uni, pow, mxl M, rb x0, rb y0, rb O, sb2 x0 y0]) fun e => k .ret [N.v x0, N.v y0, p1, p2, p3, .int .i64 e, (.int .i64 e), (N.v x0), (N.v y0), sl2, (.int .i64 e), (.int .i64 e), (.bool true), (N.v O), (.int .i64 e), undef, undef, undef, undef, undef, undef, undef, undef, undef, undef, undef, undef, undef, undef, undef, undef, undef, undef, undef, undef, undef, undef, undef, undef, undef, undef, undef, undef, undef, undef, undef, undef, undef, undef, undef, undef, undef, undef, undef, undef, undef, undef, undef, undef, undef, undef, undef, undef, undef, undef, undef, undef] [uni, pow, mxl M, rb x0, rb y0, rb O, sb2 x0 y0] := by kernel_rfl
theorem roundA1 {α : Type} (M : Int) (n : Nat) (x0 y0 x y : N) (v6 v7 v8 v9 v10 v11 v12 v13 v14 v15 v16 v17 v18 v19 v20 v21 v22 v23 v24 v25 v26 v27 v28 v29 v30 v31 v32 v33 v34 v35 v36 v37 v38 v39 v40 v41 v42 v43 v44 v45 v46 v47 v48 v49 v50 v51 v52 v53 v54 v55 v56 v57 v58 v59 v60 v61 v62 v63 v64 v65 v66 : Value) (k : Kont α) :
    evCodeK Tryz.prog (orcL LG) (Sg1 M) (n + 60) 3 (BA 0) [N.v x0, N.v y0, p1, p2, p3, .int .i64 0, v6, v7, v8, v9, v10, v11, v12, v13, v14, v15, v16, v17, v18, v19, v20, v21, v22, v23, v24, v25, v26, v27, v28, v29, v30, v31, v32, v33, v34, v35, v36, v37, v38, v39, v40, v41, v42, v43, v44, v45, v46, v47, v48, v49, v50, v51, v52, v53, v54, v55, v56, v57, v58, v59, v60, v61, v62, v63, v64, v65, v66] [uni, pow, mxl M, rb x, rb y, rb O, sb2 x0 y0] k =
    bif decide (x.k < y.k) then k .normal [N.v x0, N.v y0, p1, p2, p3, .int .i64 0, v6, v7, v8, v9, v10, v11, v12, v13, v14, v15, v16, v17, v18, (.pointer (some ⟨3, 4, none⟩)), (.int .i64 x.k), (.pointer (some ⟨4, 4, none⟩)), (.int .i64 y.k), (.bool true), (N.v x), (N.v (tmR x)), (.pointer (some ⟨3, 4, none⟩)), (.int .i64 x.k), (.int .i64 (w (x.k + 1))), (.pointer (some ⟨3, 4, none⟩)), v30, v31, v32, v33, v34, v35, v36, v37, v38, v39, v40, v41, v42, v43, v44, v45, v46, v47, v48, v49, v50, v51, v52, v53, v54, v55, v56, v57, v58, v59, v60, v61, v62, v63, v64, v65, v66] [uni, pow, mxl M, rb (N.upW x), rb y, rb O, sb2 x0 y0] else k (.exit 0) [N.v x0, N.v y0, p1, p2, p3, .int .i64 0, v6, v7, v8, v9, v10, v11, v12, v13, v14, v15, v16, v17, v18, (.pointer (some ⟨3, 4, none⟩)), (.int .i64 x.k), (.pointer (some ⟨4, 4, none⟩)), (.int .i64 y.k), (.bool false), v24, v25, v26, v27, v28, v29, v30, v31, v32, v33, v34, v35, v36, v37, v38, v39, v40, v41, v42, v43, v44, v45, v46, v47, v48, v49, v50, v51, v52, v53, v54, v55, v56, v57, v58, v59, v60, v61, v62, v63, v64, v65, v66] [uni, pow, mxl M, rb x, rb y, rb O, sb2 x0 y0] := by kernel_rfl
theorem roundA2 {α : Type} (M : Int) (n : Nat) (x0 y0 x y : N) (v6 v7 v8 v9 v10 v11 v12 v13 v14 v15 v16 v17 v18 v19 v20 v21 v22 v23 v24 v25 v26 v27 v28 v29 v30 v31 v32 v33 v34 v35 v36 v37 v38 v39 v40 v41 v42 v43 v44 v45 v46 v47 v48 v49 v50 v51 v52 v53 v54 v55 v56 v57 v58 v59 v60 v61 v62 v63 v64 v65 v66 : Value) (k : Kont α) :
    evCodeK Tryz.prog (orcL LG) (Sg1 M) (n + 60) 3 (BA 1) [N.v x0, N.v y0, p1, p2, p3, .int .i64 0, v6, v7, v8, v9, v10, v11, v12, v13, v14, v15, v16, v17, v18, v19, v20, v21, v22, v23, v24, v25, v26, v27, v28, v29, v30, v31, v32, v33, v34, v35, v36, v37, v38, v39, v40, v41, v42, v43, v44, v45, v46, v47, v48, v49, v50, v51, v52, v53, v54, v55, v56, v57, v58, v59, v60, v61, v62, v63, v64, v65, v66] [uni, pow, mxl M, rb x, rb y, rb O, sb2 x0 y0] k =
    bif decide (y.k < x.k) then k .normal [N.v x0, N.v y0, p1, p2, p3, .int .i64 0, v6, v7, v8, v9, v10, v11, v12, v13, v14, v15, v16, v17, v18, v19, v20, v21, v22, v23, v24, v25, v26, v27, v28, v29, (.pointer (some ⟨4, 4, none⟩)), (.int .i64 y.k), (.pointer (some ⟨3, 4, none⟩)), (.int .i64 x.k), (.bool true), (N.v y), (N.v (tmR y)), (.pointer (some ⟨4, 4, none⟩)), (.int .i64 y.k), (.int .i64 (w (y.k + 1))), (.pointer (some ⟨4, 4, none⟩)), v41, v42, v43, v44, v45, v46, v47, v48, v49, v50, v51, v52, v53, v54, v55, v56, v57, v58, v59, v60, v61, v62, v63, v64, v65, v66] [uni, pow, mxl M, rb x, rb (N.upW y), rb O, sb2 x0 y0] else k (.exit 2) [N.v x0, N.v y0, p1, p2, p3, .int .i64 0, v6, v7, v8, v9, v10, v11, v12, v13, v14, v15, v16, v17, v18, v19, v20, v21, v22, v23, v24, v25, v26, v27, v28, v29, (.pointer (some ⟨4, 4, none⟩)), (.int .i64 y.k), (.pointer (some ⟨3, 4, none⟩)), (.int .i64 x.k), (.bool false), v35, v36, v37, v38, v39, v40, v41, v42, v43, v44, v45, v46, v47, v48, v49, v50, v51, v52, v53, v54, v55, v56, v57, v58, v59, v60, v61, v62, v63, v64, v65, v66] [uni, pow, mxl M, rb x, rb y, rb O, sb2 x0 y0] := by kernel_rfl
theorem tailA {α : Type} (M : Int) (fs : Nat → Nat) (x0 y0 x y : N) (v6 v7 v8 v9 v10 v11 v12 v13 v14 v15 v16 v17 v18 v19 v20 v21 v22 v23 v24 v25 v26 v27 v28 v29 v30 v31 v32 v33 v34 v35 v36 v37 v38 v39 v40 v41 v42 v43 v44 v45 v46 v47 v48 v49 v50 v51 v52 v53 v54 v55 v56 v57 v58 v59 v60 v61 v62 v63 v64 v65 v66 : Value) (k : Kont α) :
    evP Tryz.prog (orcL LG) (Sg1 M) 3 fs 7 [qA 7, qA 8] [N.v x0, N.v y0, p1, p2, p3, .int .i64 0, v6, v7, v8, v9, v10, v11, v12, v13, v14, v15, v16, v17, v18, v19, v20, v21, v22, v23, v24, v25, v26, v27, v28, v29, v30, v31, v32, v33, v34, v35, v36, v37, v38, v39, v40, v41, v42, v43, v44, v45, v46, v47, v48, v49, v50, v51, v52, v53, v54, v55, v56, v57, v58, v59, v60, v61, v62, v63, v64, v65, v66] [uni, pow, mxl M, rb x, rb y, rb O, sb2 x0 y0] k =
    bif symN (addW x y x.k) then (bif okB (addW x y x.k).nf then k .ret ([N.v x0, N.v y0, p1, p2, p3, .int .i64 0, v6, v7, v8, v9, v10, v11, v12, v13, v14, v15, v16, v17, v18, v19, v20, v21, v22, v23, v24, v25, v26, v27, v28, v29, v30, v31, v32, v33, v34, v35, v36, v37, v38, v39, v40, (.pointer (some ⟨3, 0, none⟩)), (.int .i64 x.a), (.pointer (some ⟨4, 0, none⟩)), (.int .i64 y.a), (.int .i64 (w (x.a + y.a))), (.pointer (some ⟨3, 1, none⟩)), (.int .i64 x.b), (.pointer (some ⟨4, 1, none⟩)), (.int .i64 y.b), (.int .i64 (w (x.b + y.b))), (.pointer (some ⟨3, 2, none⟩)), (.int .i64 x.c), (.pointer (some ⟨4, 2, none⟩)), (.int .i64 y.c), (.int .i64 (w (x.c + y.c))), (.pointer (some ⟨3, 3, none⟩)), (.int .i64 x.d), (.pointer (some ⟨4, 3, none⟩)), (.int .i64 y.d), (.int .i64 (w (x.d + y.d))), (.pointer (some ⟨3, 4, none⟩)), (.int .i64 x.k), (N.v (addW x y x.k)), (resV ((addW x y x.k).nf, 0)), (N.v (addW x y x.k).nf), (.int .i64 0)].set 5 (.int .i64 0)) [uni, pow, mxl M, rb x, rb y, rb (addW x y x.k).nf, sb2 x0 y0] else k .ret ([N.v x0, N.v y0, p1, p2, p3, .int .i64 0, v6, v7, v8, v9, v10, v11, v12, v13, v14, v15, v16, v17, v18, v19, v20, v21, v22, v23, v24, v25, v26, v27, v28, v29, v30, v31, v32, v33, v34, v35, v36, v37, v38, v39, v40, (.pointer (some ⟨3, 0, none⟩)), (.int .i64 x.a), (.pointer (some ⟨4, 0, none⟩)), (.int .i64 y.a), (.int .i64 (w (x.a + y.a))), (.pointer (some ⟨3, 1, none⟩)), (.int .i64 x.b), (.pointer (some ⟨4, 1, none⟩)), (.int .i64 y.b), (.int .i64 (w (x.b + y.b))), (.pointer (some ⟨3, 2, none⟩)), (.int .i64 x.c), (.pointer (some ⟨4, 2, none⟩)), (.int .i64 y.c), (.int .i64 (w (x.c + y.c))), (.pointer (some ⟨3, 3, none⟩)), (.int .i64 x.d), (.pointer (some ⟨4, 3, none⟩)), (.int .i64 y.d), (.int .i64 (w (x.d + y.d))), (.pointer (some ⟨3, 4, none⟩)), (.int .i64 x.k), (N.v (addW x y x.k)), (resV (O, 8)), (N.v O), (.int .i64 8)].set 5 (.int .i64 8)) [uni, pow, mxl M, rb x, rb y, rb O, sb2 x0 y0]) else none := by kernel_rfl
theorem loopA1 (M : Int) (x0 y0 x y : N) (K : Int) (h : x.In 1073741824) (h0 : 0 ≤ x.k) (hK : K = max x.k y.k) (h2 : K ≤ 60) (L : List Value) (hL : L.length = 61) :
    Ev Tryz.prog (orcL LG) (Sg1 M) Value 3 (.loop (BA 0)) (N.v x0 :: N.v y0 :: p1 :: p2 :: p3 :: .int .i64 0 :: L) [uni, pow, mxl M, rb x, rb y, rb O, sb2 x0 y0] fun e T S => e = .exit 0 ∧ (∃ L : List Value, L.length = 61 ∧ T = N.v x0 :: N.v y0 :: p1 :: p2 :: p3 :: .int .i64 0 :: L) ∧ S = [uni, pow, mxl M, rb (x.lift K), rb y, rb O, sb2 x0 y0] := by
  refine Ev.loop (fun m T S => ∃ (L : List Value) (j : Nat), L.length = 61 ∧ T = N.v x0 :: N.v y0 :: p1 :: p2 :: p3 :: .int .i64 0 :: L ∧ S = [uni, pow, mxl M, rb (x.ups j), rb y, rb O, sb2 x0 y0] ∧ x.k + j + m = K) ?_ (K - x.k).toNat _ _ ⟨L, 0, hL, rfl, rfl, by omega⟩
  rintro m T S ⟨L, j, hL, rfl, rfl, hm⟩
  match L, hL with
  | v6 :: v7 :: v8 :: v9 :: v10 :: v11 :: v12 :: v13 :: v14 :: v15 :: v16 :: v17 :: v18 :: v19 :: v20 :: v21 :: v22 :: v23 :: v24 :: v25 :: v26 :: v27 :: v28 :: v29 :: v30 :: v31 :: v32 :: v33 :: v34 :: v35 :: v36 :: v37 :: v38 :: v39 :: v40 :: v41 :: v42 :: v43 :: v44 :: v45 :: v46 :: v47 :: v48 :: v49 :: v50 :: v51 :: v52 :: v53 :: v54 :: v55 :: v56 :: v57 :: v58 :: v59 :: v60 :: v61 :: v62 :: v63 :: v64 :: v65 :: v66 :: [], _ =>
  have hk : (x.ups j).k = x.k + j := N.ups_k x j
  cases m with
  | zero =>
    refine Ev.of_eq 60 (fun n k => (roundA1 M n x0 y0 (x.ups j) y v6 v7 v8 v9 v10 v11 v12 v13 v14 v15 v16 v17 v18 v19 v20 v21 v22 v23 v24 v25 v26 v27 v28 v29 v30 v31 v32 v33 v34 v35 v36 v37 v38 v39 v40 v41 v42 v43 v44 v45 v46 v47 v48 v49 v50 v51 v52 v53 v54 v55 v56 v57 v58 v59 v60 v61 v62 v63 v64 v65 v66 k).trans (condF (decide_eq_false (by omega)))) ?_
    exact ⟨rfl, ⟨_, rfl, rfl⟩, by unfold N.lift; rw [show (K - x.k).toNat = j by omega]⟩
  | succ m =>
    refine Ev.of_eq 60 (fun n k => (roundA1 M n x0 y0 (x.ups j) y v6 v7 v8 v9 v10 v11 v12 v13 v14 v15 v16 v17 v18 v19 v20 v21 v22 v23 v24 v25 v26 v27 v28 v29 v30 v31 v32 v33 v34 v35 v36 v37 v38 v39 v40 v41 v42 v43 v44 v45 v46 v47 v48 v49 v50 v51 v52 v53 v54 v55 v56 v57 v58 v59 v60 v61 v62 v63 v64 v65 v66 k).trans (condT (decide_eq_true (by omega)))) ?_
    refine ⟨m, Nat.lt_succ_self m, _, j + 1, rfl, rfl, ?_, by omega⟩
    rw [upW_eq (N.In.ups60 (h.mono (by omega)) (by omega)) (by omega) (by omega)]; rfl
theorem loopA2 (M : Int) (x0 y0 x y : N) (K : Int) (h : y.In 1073741824) (h0 : 0 ≤ y.k) (hK : K = x.k) (h1 : y.k ≤ K) (h2 : K ≤ 60) (L : List Value) (hL : L.length = 61) :
    Ev Tryz.prog (orcL LG) (Sg1 M) Value 3 (.loop (BA 1)) (N.v x0 :: N.v y0 :: p1 :: p2 :: p3 :: .int .i64 0 :: L) [uni, pow, mxl M, rb x, rb y, rb O, sb2 x0 y0] fun e T S => e = .exit 2 ∧ (∃ L : List Value, L.length = 61 ∧ T = N.v x0 :: N.v y0 :: p1 :: p2 :: p3 :: .int .i64 0 :: L) ∧ S = [uni, pow, mxl M, rb x, rb (y.lift K), rb O, sb2 x0 y0] := by
  refine Ev.loop (fun m T S => ∃ (L : List Value) (j : Nat), L.length = 61 ∧ T = N.v x0 :: N.v y0 :: p1 :: p2 :: p3 :: .int .i64 0 :: L ∧ S = [uni, pow, mxl M, rb x, rb (y.ups j), rb O, sb2 x0 y0] ∧ y.k + j + m = K) ?_ (K - y.k).toNat _ _ ⟨L, 0, hL, rfl, rfl, by omega⟩
  rintro m T S ⟨L, j, hL, rfl, rfl, hm⟩
  match L, hL with
  | v6 :: v7 :: v8 :: v9 :: v10 :: v11 :: v12 :: v13 :: v14 :: v15 :: v16 :: v17 :: v18 :: v19 :: v20 :: v21 :: v22 :: v23 :: v24 :: v25 :: v26 :: v27 :: v28 :: v29 :: v30 :: v31 :: v32 :: v33 :: v34 :: v35 :: v36 :: v37 :: v38 :: v39 :: v40 :: v41 :: v42 :: v43 :: v44 :: v45 :: v46 :: v47 :: v48 :: v49 :: v50 :: v51 :: v52 :: v53 :: v54 :: v55 :: v56 :: v57 :: v58 :: v59 :: v60 :: v61 :: v62 :: v63 :: v64 :: v65 :: v66 :: [], _ =>
  have hk : (y.ups j).k = y.k + j := N.ups_k y j
  cases m with
  | zero =>
    refine Ev.of_eq 60 (fun n k => (roundA2 M n x0 y0 x (y.ups j) v6 v7 v8 v9 v10 v11 v12 v13 v14 v15 v16 v17 v18 v19 v20 v21 v22 v23 v24 v25 v26 v27 v28 v29 v30 v31 v32 v33 v34 v35 v36 v37 v38 v39 v40 v41 v42 v43 v44 v45 v46 v47 v48 v49 v50 v51 v52 v53 v54 v55 v56 v57 v58 v59 v60 v61 v62 v63 v64 v65 v66 k).trans (condF (decide_eq_false (by omega)))) ?_
    exact ⟨rfl, ⟨_, rfl, rfl⟩, by unfold N.lift; rw [show (K - y.k).toNat = j by omega]⟩
  | succ m =>
    refine Ev.of_eq 60 (fun n k => (roundA2 M n x0 y0 x (y.ups j) v6 v7 v8 v9 v10 v11 v12 v13 v14 v15 v16 v17 v18 v19 v20 v21 v22 v23 v24 v25 v26 v27 v28 v29 v30 v31 v32 v33 v34 v35 v36 v37 v38 v39 v40 v41 v42 v43 v44 v45 v46 v47 v48 v49 v50 v51 v52 v53 v54 v55 v56 v57 v58 v59 v60 v61 v62 v63 v64 v65 v66 k).trans (condT (decide_eq_true (by omega)))) ?_
    refine ⟨m, Nat.lt_succ_self m, _, j + 1, rfl, rfl, ?_, by omega⟩
    rw [upW_eq (N.In.ups60 (h.mono (by omega)) (by omega)) (by omega) (by omega)]; rfl
theorem tmpsA (x y : N) : tmps0Of Tryz.prog 8 [N.v x, N.v y] = N.v x :: N.v y :: List.replicate 65 undef := by kernel_rfl
theorem outA (x y z : N) (e : Int) (L : List Value) (b0 b1 b2 b3 b4 b6 : Blk) : outOf Tryz.prog 8 (N.v x :: N.v y :: p1 :: p2 :: p3 :: .int .i64 e :: L) [b0, b1, b2, b3, b4, rb z, b6] = some (resV (z, e)) := by kernel_rfl
theorem symN_fit {x : N} (h : x.In (2 ^ 61)) (h1 : x.k ≤ 60) : symN x = true := by
  obtain ⟨a1, a2, b1, b2, c1, c2, d1, d2⟩ := h
  simp only [symN, symB, Bool.and_eq_true, decide_eq_true_eq]; omega
theorem bif3_cases {α : Type} {x : N} {a : α} {f : Int → α} : (okB x = true ∧ bif3 x a f = a) ∨ ∃ e, okB x = false ∧ bif3 x a f = f e := by
  unfold bif3 okB
  cases rgB x
  · exact .inr ⟨3, rfl, rfl⟩
  · cases inB x
    · exact .inr ⟨8, rfl, rfl⟩
    · exact .inl ⟨rfl, rfl⟩
theorem bif3_bad {x : N} (h : okB x = false) : ∃ e : Int, ∀ {α : Type} (a : α) (f : Int → α), bif3 x a f = f e := by
  unfold okB at h
  cases hr : rgB x
  · exact ⟨3, fun a f => by unfold bif3; rw [hr]; rfl⟩
  · cases hi : inB x
    · exact ⟨8, fun a f => by unfold bif3; rw [hr, hi]; rfl⟩
    · rw [hr, hi] at h; cases h
theorem eA (M : Int) (x y : N) (v : Value) (hv : (twoT x y (x.sum y)).get = some v) : EvF Tryz.prog (orcL LG) (Sg1 M) 8 [N.v x, N.v y] v := by
  unfold twoT at hv
  simp only [okT_get] at hv
  have start : ∀ (w : Value), plain w = true → EvP Tryz.prog (orcL LG) (Sg1 M) Value 3 0 [qA 0, qA 1, qA 2, qA 3, qA 4, .block 0 (.loop (BA 0)), .block 2 (.loop (BA 1)), qA 7, qA 8] (N.v x :: N.v y :: List.replicate 65 undef) (Sg1 M) (fun e T S => (match e with | .exit _ => False | _ => True) ∧ outOf Tryz.prog 8 T S = some w) → EvF Tryz.prog (orcL LG) (Sg1 M) 8 [N.v x, N.v y] w := by
    intro w hp h
    refine EvF.of_body hp ?_
    rw [tmpsA]
    show Ev Tryz.prog (orcL LG) (Sg1 M) Value 3 _ _ _ _
    refine Ev.of_pieces ?_
    rw [show flatC (bodyOf Tryz.prog 8) = _ from LA_eq]
    exact h
  cases hx : okB x with
  | false =>
    obtain ⟨e, he⟩ := bif3_bad hx
    rw [he] at hv
    cases hv
    exact start _ rfl (EvP.stop (fun fs k => (headA M fs x y _ k).trans (he _ _)) ⟨trivial, outA x y O e _ _ _ _ _ _ _⟩)
  | true =>
    rw [bif3_ok hx] at hv
    cases hy : okB y with
    | false =>
      obtain ⟨e, he⟩ := bif3_bad hy
      rw [he] at hv
      cases hv
      exact start _ rfl (EvP.stop (fun fs k => (headA M fs x y _ k).trans ((bif3_ok hx).trans (he _ _))) ⟨trivial, outA x y O e _ _ _ _ _ _ _⟩)
    | true =>
      rw [bif3_ok hy, fitT_get] at hv
      cases hv
      obtain ⟨x0, x1, x2⟩ := (okB_iff x).1 hx
      obtain ⟨y0, y1, y2⟩ := (okB_iff y).1 hy
      have nx := N.nf_k x0
      have ny := N.nf_k y0
      refine start _ rfl (EvP.run (fun fs k => (headA M fs x y _ k).trans ((bif3_ok hx).trans ((bif3_ok hy).trans ((condT (symN_of hx)).trans (condT (symN_of hy)))))) ?_)
      refine EvP.step (Ev.block ((loopA1 M x y x.nf y.nf (max x.nf.k y.nf.k) x2.nf nx.1 rfl (by omega) _ rfl).mono ?_))
      rintro e T S ⟨rfl, ⟨L, hL, rfl⟩, rfl⟩
      have hk1 : (x.nf.lift (max x.nf.k y.nf.k)).k = max x.nf.k y.nf.k := N.lift_k (by omega)
      refine EvP.step (Ev.block ((loopA2 M x y _ y.nf (max x.nf.k y.nf.k) y2.nf ny.1 hk1.symm (by omega) (by omega) L hL).mono ?_))
      rintro e T S ⟨rfl, ⟨L, hL, rfl⟩, rfl⟩
      match L, hL with
      | v6 :: v7 :: v8 :: v9 :: v10 :: v11 :: v12 :: v13 :: v14 :: v15 :: v16 :: v17 :: v18 :: v19 :: v20 :: v21 :: v22 :: v23 :: v24 :: v25 :: v26 :: v27 :: v28 :: v29 :: v30 :: v31 :: v32 :: v33 :: v34 :: v35 :: v36 :: v37 :: v38 :: v39 :: v40 :: v41 :: v42 :: v43 :: v44 :: v45 :: v46 :: v47 :: v48 :: v49 :: v50 :: v51 :: v52 :: v53 :: v54 :: v55 :: v56 :: v57 :: v58 :: v59 :: v60 :: v61 :: v62 :: v63 :: v64 :: v65 :: v66 :: [], _ =>
      have a1 := N.lift_in x2.nf (K := max x.nf.k y.nf.k) nx.1 (by omega)
      have a2 := N.lift_in y2.nf (K := max x.nf.k y.nf.k) ny.1 (by omega)
      have e1 : addW (x.nf.lift (max x.nf.k y.nf.k)) (y.nf.lift (max x.nf.k y.nf.k)) (x.nf.lift (max x.nf.k y.nf.k)).k = x.nf.sum y.nf := addW_eq a1 a2 rfl
      have e2 : (x.nf.sum y.nf).nf = (x.sum y).nf := N.nf_sum x0 y0 (by omega) (by omega) (by omega) (by omega) (by omega)
      have hs : symN (x.nf.sum y.nf) = true := by
        refine symN_fit ?_ (by rw [N.sum_k]; omega)
        obtain ⟨p1, p2, p3, p4, p5, p6, p7, p8⟩ := a1
        obtain ⟨q1, q2, q3, q4, q5, q6, q7, q8⟩ := a2
        constructor <;> simp only [N.sum, N.add] <;> omega
      unfold fitS
      cases ho : okB (x.sum y).nf with
      | true =>
        refine EvP.stop (fun fs k => (tailA M fs x y _ _ v6 v7 v8 v9 v10 v11 v12 v13 v14 v15 v16 v17 v18 v19 v20 v21 v22 v23 v24 v25 v26 v27 v28 v29 v30 v31 v32 v33 v34 v35 v36 v37 v38 v39 v40 v41 v42 v43 v44 v45 v46 v47 v48 v49 v50 v51 v52 v53 v54 v55 v56 v57 v58 v59 v60 v61 v62 v63 v64 v65 v66 k).trans ((condT (by rw [e1]; exact hs)).trans (condT (by rw [e1, e2]; exact ho)))) ⟨trivial, ?_⟩
        rw [e1, e2]
        exact outA x y _ 0 _ _ _ _ _ _ _
      | false =>
        refine EvP.stop (fun fs k => (tailA M fs x y _ _ v6 v7 v8 v9 v10 v11 v12 v13 v14 v15 v16 v17 v18 v19 v20 v21 v22 v23 v24 v25 v26 v27 v28 v29 v30 v31 v32 v33 v34 v35 v36 v37 v38 v39 v40 v41 v42 v43 v44 v45 v46 v47 v48 v49 v50 v51 v52 v53 v54 v55 v56 v57 v58 v59 v60 v61 v62 v63 v64 v65 v66 k).trans ((condT (by rw [e1]; exact hs)).trans (condF (by rw [e1, e2]; exact ho)))) ⟨trivial, ?_⟩
        exact outA x y O 8 _ _ _ _ _ _ _
theorem cAddR_ok (M : Int) : ConOk M (con2 8 fun x y => twoT x y (x.sum y)) := con2_ok (LG_ok M) fun x y v h => eA M x y v h
end Go.Proofs.YtihccnfaibiiiaaGreatDoor.R
/- Ring: what the program's functions give, as one value each. -/
namespace Go.Proofs.YtihccnfaibiiiaaGreatDoor.R
open Go Go.Proofs.XX.Vm Go.Proofs.XX.Rm Go.RowKit
set_option maxRecDepth 100000
/-- What the functions give, as one value each. -/
def oneS (x z : N) : N × Int := bif3 x (z.nf, 0) fun n => (O, n)
def twoS (x y z : N) : N × Int := bif3 x (bif3 y (fitS z.nf) fun n => (O, n)) fun n => (O, n)
def norS (x : N) : N × Int := bif3 x (fitS (x.mul x.conj).nf) fun n => (O, n)
theorem oneS_get (x z : N) : (oneT x z).get = some (resV (oneS x z)) := by unfold oneT oneS badN; rw [okT_get]; unfold bif3; cases rgB x <;> cases inB x <;> rfl
theorem twoS_get (x y z : N) : (twoT x y z).get = some (resV (twoS x y z)) := by
  unfold twoT twoS badN; simp only [okT_get, fitT_get]; unfold bif3
  cases rgB x <;> cases inB x <;> cases rgB y <;> cases inB y <;> rfl
theorem norS_get (x : N) : (norT x).get = some (resV (norS x)) := by
  unfold norT norS badN; simp only [okT_get, fitT_get]; unfold bif3
  cases rgB x <;> cases inB x <;> rfl
end Go.Proofs.YtihccnfaibiiiaaGreatDoor.R
/- Ring: the specification's products, differences, negatives, conjugates, dots and norms. -/
namespace Go.Proofs.YtihccnfaibiiiaaGreatDoor.R
open Go Go.Proofs.XX.Vm Go.Proofs.XX.Rm Go.RowKit
set_option maxRecDepth 100000

def prdW (x y : N) : N :=
  ⟨w (w (w (w (x.a * y.a) - w (x.b * y.d)) - w (x.c * y.c)) - w (x.d * y.b)), w (w (w (w (x.a * y.b) + w (x.b * y.a)) - w (x.c * y.d)) - w (x.d * y.c)),
   w (w (w (w (x.a * y.c) + w (x.b * y.b)) + w (x.c * y.a)) - w (x.d * y.d)), w (w (w (w (x.a * y.d) + w (x.b * y.c)) + w (x.c * y.b)) + w (x.d * y.a)), w (x.k + y.k)⟩
theorem tPr (M : Int) (m : Nat) (x y : N) : runK Tryz.prog (orcL []) (Sg1 M) (m + 60) 46 [N.v x, N.v y] = some (N.v (prdW x y)) := by kernel_rfl
theorem w_add0 (a : Int) : w (0 + w a) = w a := by
  show IntKind.i64.wrap (0 + IntKind.i64.wrap a) = IntKind.i64.wrap a
  rw [IntKind.wrap_i64, IntKind.wrap_i64]; omega
theorem prdW_eq {x y : N} (hx : okB x = true) (hy : okB y = true) : prdW x y = x.mul y := by
  rw [← mulW_eq hx hy]
  unfold prdW mulW
  simp only [w_add0]
theorem cPrd_ok (M : Int) : ConOk M (con2 46 fun x y => .ite (okB2 x y) (.val (N.v (x.mul y))) .no) := con2_ok nil_ok fun x y v h => by
  obtain ⟨h0, rfl⟩ := OT.pre h
  obtain ⟨h1, h2⟩ := okB2_iff h0
  exact EvF.of_eq 60 fun m => by rw [tPr, prdW_eq h1 h2]
theorem tNg (M : Int) (m : Nat) (x : N) : runK Tryz.prog (orcL []) (Sg1 M) (m + 60) 45 [N.v x] = some (N.v (negW x)) := by kernel_rfl
theorem tCj (M : Int) (m : Nat) (x : N) : runK Tryz.prog (orcL []) (Sg1 M) (m + 60) 58 [N.v x] = some (N.v (conjW x)) := by kernel_rfl
theorem cNg_ok (M : Int) : ConOk M (con1 45 fun x => .val (N.v (negW x))) := con1_ok nil_ok fun x v h => by cases h; exact EvF.of_eq 60 fun m => tNg M m x
theorem cCj_ok (M : Int) : ConOk M (con1 58 fun x => .val (N.v (conjW x))) := con1_ok nil_ok fun x v h => by cases h; exact EvF.of_eq 60 fun m => tCj M m x
noncomputable abbrev LH : List Con := [cChkR, cFrm, cFit, con2 46 fun x y => .ite (okB2 x y) (.val (N.v (x.mul y))) .no, con1 45 fun x => .val (N.v (negW x)), con1 58 fun x => .val (N.v (conjW x)),
  con2 8 fun x y => okV2 x y (fitT (x.sum y).nf)]
theorem LH_ok (M : Int) : ∀ c ∈ LH, ConOk M c := mem_cons_ok (cChkR_ok M) (mem_cons_ok (cFrm_ok M) (mem_cons_ok (cFit_ok M) (mem_cons_ok (cPrd_ok M) (mem_cons_ok (cNg_ok M) (mem_cons_ok (cCj_ok M) (mem_cons_ok (okV2_of (cAddR_ok M) fun _ _ hx hy => twoT_ok hx hy) nil_ok))))))
theorem symN_fit2 {x : N} (h : x.Fit) (h1 : x.k ≤ 9223372036854775807) : symN x = true := by
  obtain ⟨⟨a1, a2, b1, b2, c1, c2, d1, d2⟩, -⟩ := h
  simp only [symN, symB, Bool.and_eq_true, decide_eq_true_eq]; omega
theorem tMulR (M : Int) (m : Nat) (x y : N) : runK Tryz.prog (orcL LH) (Sg1 M) (m + 60) 10 [N.v x, N.v y] =
    bif3 x (bif3 y (bif okB2 x y then bif symN (x.mul y) then bif okB (x.mul y).nf then some (resV ((x.mul y).nf, 0)) else some (resV (O, 8)) else none else none) fun n => some (resV (O, n))) fun n => some (resV (O, n)) := by kernel_rfl
theorem sym_mul {x y : N} (hx : okB x = true) (hy : okB y = true) : symN (x.mul y) = true := by
  obtain ⟨h1, h2, h3⟩ := fitB_iff.1 (fit_mul hx hy)
  exact symN_fit2 h1 (by omega)
theorem cMulR_ok (M : Int) : ConOk M (con2 10 fun x y => twoT x y (x.mul y)) := con2_ok (LH_ok M) fun x y v h => by
  refine EvF.of_eq 60 fun m => get_some h ?_
  rw [tMulR]
  unfold twoT
  rw [okT_get]
  refine bif3_ext (fun hx => ?_) fun n => rfl
  rw [okT_get]
  refine bif3_ext (fun hy => ?_) fun n => rfl
  rw [okB2_mk hx hy, sym_mul hx hy]; rfl
theorem tSubR (M : Int) (m : Nat) (x y : N) : runK Tryz.prog (orcL LH) (Sg1 M) (m + 60) 9 [N.v x, N.v y] =
    bif3 x (bif3 y (bif okB2 x (negW y) then bif okB (x.sum (negW y)).nf then some (resV ((x.sum (negW y)).nf, 0)) else some (resV (O, 8)) else none) fun n => some (resV (O, n))) fun n => some (resV (O, n)) := by kernel_rfl
theorem cSubR_ok (M : Int) : ConOk M (con2 9 fun x y => twoT x y (x.sum y.neg)) := con2_ok (LH_ok M) fun x y v h => by
  refine EvF.of_eq 60 fun m => get_some h ?_
  rw [tSubR]
  unfold twoT
  rw [okT_get]
  refine bif3_ext (fun hx => ?_) fun n => rfl
  rw [okT_get]
  refine bif3_ext (fun hy => ?_) fun n => rfl
  rw [negW_eq hy, okB2_mk hx (okB_neg hy)]; rfl
theorem tNegR (M : Int) (m : Nat) (x : N) : runK Tryz.prog (orcL LH) (Sg1 M) (m + 60) 15 [N.v x] =
    bif3 x (bif symN (negW x) then some (resV ((negW x).nf, 0)) else none) fun n => some (resV (O, n)) := by kernel_rfl
theorem cNegR_ok (M : Int) : ConOk M (con1 15 fun x => oneT x x.neg) := con1_ok (LH_ok M) fun x v h => by
  refine EvF.of_eq 60 fun m => get_some h ?_
  rw [tNegR]
  unfold oneT
  rw [okT_get]
  refine bif3_ext (fun hx => ?_) fun n => rfl
  rw [negW_eq hx, symN_of (okB_neg hx)]; rfl
theorem tConjR (M : Int) (m : Nat) (x : N) : runK Tryz.prog (orcL LH) (Sg1 M) (m + 60) 16 [N.v x] =
    bif3 x (bif symN (conjW x) then some (resV ((conjW x).nf, 0)) else none) fun n => some (resV (O, n)) := by kernel_rfl
theorem cConjR_ok (M : Int) : ConOk M (con1 16 fun x => oneT x x.conj) := con1_ok (LH_ok M) fun x v h => by
  refine EvF.of_eq 60 fun m => get_some h ?_
  rw [tConjR]
  unfold oneT
  rw [okT_get]
  refine bif3_ext (fun hx => ?_) fun n => rfl
  rw [conjW_eq hx, symN_of (okB_conj hx)]; rfl
theorem tDotR (M : Int) (m : Nat) (x : N) : runK Tryz.prog (orcL LH) (Sg1 M) (m + 60) 17 [N.v x] =
    bif3 x (bif x.k.tmod 2 == 1 then (bif symN (negW (altW x)) then some (resV ((negW (altW x)).nf, 0)) else none) else (bif symN (altW x) then some (resV ((altW x).nf, 0)) else none)) fun n => some (resV (O, n)) := by kernel_rfl
theorem odd_eq {x : N} (h : okB x = true) : (x.k.tmod 2 == 1) = oddB x := by
  obtain ⟨h0, -, -⟩ := (okB_iff x).1 h
  unfold oddB
  have e : x.k.tmod 2 = x.k % 2 := Int.tmod_eq_emod_of_nonneg h0
  rw [e, Bool.eq_iff_iff]
  simp only [beq_iff_eq, bne_iff_ne, ne_eq]; omega
theorem cDotR_ok (M : Int) : ConOk M (con1 17 fun x => oneT x (N.dot x)) := con1_ok (LH_ok M) fun x v h => by
  refine EvF.of_eq 60 fun m => get_some h ?_
  rw [tDotR]
  unfold oneT
  rw [okT_get]
  refine bif3_ext (fun hx => ?_) fun n => rfl
  rw [odd_eq hx, altW_eq hx, negW_eq (okB_alt hx), symN_of (okB_alt hx), symN_of (okB_neg (okB_alt hx))]
  unfold N.dot
  cases oddB x <;> rfl
theorem tNormR (M : Int) (m : Nat) (x : N) : runK Tryz.prog (orcL LH) (Sg1 M) (m + 60) 18 [N.v x] =
    bif3 x (bif okB2 x (conjW x) then bif symN (x.mul (conjW x)) then bif okB (x.mul (conjW x)).nf then some (resV ((x.mul (conjW x)).nf, 0)) else some (resV (O, 8)) else none else none) fun n => some (resV (O, n)) := by kernel_rfl
theorem cNormR_ok (M : Int) : ConOk M (con1 18 norT) := con1_ok (LH_ok M) fun x v h => by
  refine EvF.of_eq 60 fun m => get_some h ?_
  rw [tNormR]
  unfold norT
  rw [okT_get]
  refine bif3_ext (fun hx => ?_) fun n => rfl
  rw [conjW_eq hx, okB2_mk hx (okB_conj hx), sym_mul hx (okB_conj hx)]; rfl

abbrev LAdds : List Con := [con2 11 fun x y => .val (resV (twoS x y (x.sum y))), con2 12 fun x y => .val (resV (twoS x y (x.sum y.neg))), con2 13 fun x y => .val (resV (twoS x y (x.mul y))),
  con2 8 fun x y => .val (resV (twoS x y (x.sum y))), con2 9 fun x y => .val (resV (twoS x y (x.sum y.neg))), con2 10 fun x y => .val (resV (twoS x y (x.mul y))), cAwk]
theorem LAdds_ok (M : Int) : ∀ c ∈ LAdds, ConOk M c :=
  mem_cons_ok (con2_val (cAdd_ok M) fun x y => twoS_get x y _) (mem_cons_ok (con2_val (cSub_ok M) fun x y => twoS_get x y _) (mem_cons_ok (con2_val (cMul_ok M) fun x y => twoS_get x y _)
  (mem_cons_ok (con2_val (cAddR_ok M) fun x y => twoS_get x y _) (mem_cons_ok (con2_val (cSubR_ok M) fun x y => twoS_get x y _) (mem_cons_ok (con2_val (cMulR_ok M) fun x y => twoS_get x y _) (mem_cons_ok (cAwk_ok M) nil_ok))))))
abbrev LTurns : List Con := [con1 19 fun x => .val (resV (oneS x x.neg)), con1 20 fun x => .val (resV (oneS x x.conj)), con1 21 fun x => .val (resV (oneS x (N.dot x))), con1 22 fun x => .val (resV (norS x)),
  con1 15 fun x => .val (resV (oneS x x.neg)), con1 16 fun x => .val (resV (oneS x x.conj)), con1 17 fun x => .val (resV (oneS x (N.dot x))), con1 18 fun x => .val (resV (norS x)), cAwk]
theorem LTurns_ok (M : Int) : ∀ c ∈ LTurns, ConOk M c :=
  mem_cons_ok (con1_val (cNeg_ok M) fun x => oneS_get x _) (mem_cons_ok (con1_val (cConj_ok M) fun x => oneS_get x _) (mem_cons_ok (con1_val (cDot_ok M) fun x => oneS_get x _) (mem_cons_ok (con1_val (cNorm_ok M) norS_get)
  (mem_cons_ok (con1_val (cNegR_ok M) fun x => oneS_get x _) (mem_cons_ok (con1_val (cConjR_ok M) fun x => oneS_get x _) (mem_cons_ok (con1_val (cDotR_ok M) fun x => oneS_get x _) (mem_cons_ok (con1_val (cNormR_ok M) norS_get) (mem_cons_ok (cAwk_ok M) nil_ok))))))))
end Go.Proofs.YtihccnfaibiiiaaGreatDoor.R
/- Ring, plain mathematics: quotients. -/
namespace Go.Proofs.XX.Rm
open Go

theorem bd_mul {a p A B : Int} (h1 : -A ≤ a) (h2 : a ≤ A) (h3 : -B ≤ p) (h4 : p ≤ B) : -(A * B) ≤ a * p ∧ a * p ≤ A * B := by
  have ha : a.natAbs ≤ A.natAbs := by omega
  have hp : p.natAbs ≤ B.natAbs := by omega
  have h := Nat.mul_le_mul ha hp
  have e : (a * p).natAbs = a.natAbs * p.natAbs := Int.natAbs_mul a p
  have e2 : (A * B).natAbs = A.natAbs * B.natAbs := Int.natAbs_mul A B
  have h5 : 0 ≤ A * B := Int.mul_nonneg (by omega) (by omega)
  omega
theorem N.In.mul {x y : N} {A B : Int} (hx : x.In A) (hy : y.In B) : (x.mul y).In (4 * (A * B)) := by
  obtain ⟨a1, a2, b1, b2, c1, c2, d1, d2⟩ := hx
  obtain ⟨p1, p2, q1, q2, r1, r2, s1, s2⟩ := hy
  have aa := bd_mul a1 a2 p1 p2
  have ab := bd_mul a1 a2 q1 q2
  have ac := bd_mul a1 a2 r1 r2
  have ad := bd_mul a1 a2 s1 s2
  have ba := bd_mul b1 b2 p1 p2
  have bb := bd_mul b1 b2 q1 q2
  have bc := bd_mul b1 b2 r1 r2
  have bd := bd_mul b1 b2 s1 s2
  have ca := bd_mul c1 c2 p1 p2
  have cb := bd_mul c1 c2 q1 q2
  have cc := bd_mul c1 c2 r1 r2
  have cd := bd_mul c1 c2 s1 s2
  have da := bd_mul d1 d2 p1 p2
  have db := bd_mul d1 d2 q1 q2
  have dc := bd_mul d1 d2 r1 r2
  have dd := bd_mul d1 d2 s1 s2
  constructor <;> simp only [N.mul] <;> omega
theorem N.mul_assoc (x y z : N) : (x.mul y).mul z = x.mul (y.mul z) := by
  ext <;> simp only [N.mul] <;> grind
theorem N.In.conj {x : N} {A : Int} (hx : x.In A) : x.conj.In A := by
  obtain ⟨a1, a2, b1, b2, c1, c2, d1, d2⟩ := hx
  constructor <;> simp only [N.conj] <;> omega
theorem N.In.alt {x : N} {A : Int} (hx : x.In A) : x.alt.In A := by
  obtain ⟨a1, a2, b1, b2, c1, c2, d1, d2⟩ := hx
  constructor <;> simp only [N.alt] <;> omega
/-- The number that y times becomes a whole number, and that whole number. -/
def N.nrm (y : N) : N := y.mul y.conj
def N.oth (y : N) : N := y.conj.mul y.nrm.alt
def N.bel (y : N) : Int := (y.nrm.mul y.nrm.alt).a
/-- No square is twice a square. -/
theorem sq_two : ∀ (n : Nat) (a b : Int), a.natAbs ≤ n → a * a = 2 * (b * b) → a = 0 := by
  intro n
  induction n using Nat.strongRecOn with
  | ind n ih =>
    intro a b hn h
    by_cases h0 : a = 0
    · exact h0
    exfalso
    have ev : a % 2 = 0 := by
      by_cases e : a % 2 = 0
      · exact e
      exfalso
      obtain ⟨k, hk⟩ : ∃ k, a = 2 * k + 1 := ⟨a / 2, by omega⟩
      rw [hk] at h
      have : (2 * k + 1) * (2 * k + 1) = 2 * (2 * (k * k) + 2 * k) + 1 := by grind
      omega
    obtain ⟨k, hk⟩ : ∃ k, a = 2 * k := ⟨a / 2, by omega⟩
    have h2 : b * b = 2 * (k * k) := by
      rw [hk] at h
      have : 2 * k * (2 * k) = 4 * (k * k) := by grind
      omega
    have ev2 : b % 2 = 0 := by
      by_cases e : b % 2 = 0
      · exact e
      exfalso
      obtain ⟨j, hj⟩ : ∃ j, b = 2 * j + 1 := ⟨b / 2, by omega⟩
      rw [hj] at h2
      have : (2 * j + 1) * (2 * j + 1) = 2 * (2 * (j * j) + 2 * j) + 1 := by grind
      omega
    obtain ⟨j, hj⟩ : ∃ j, b = 2 * j := ⟨b / 2, by omega⟩
    have h3 : k * k = 2 * (j * j) := by
      rw [hj] at h2
      have : 2 * j * (2 * j) = 4 * (j * j) := by grind
      omega
    have hk0 := ih k.natAbs (by omega) k j (Nat.le_refl _) h3
    omega
theorem N.bel_eq (y : N) : y.bel = (y.a * y.a - y.c * y.c + 2 * (y.b * y.d)) * (y.a * y.a - y.c * y.c + 2 * (y.b * y.d)) + (2 * (y.a * y.c) - y.b * y.b + y.d * y.d) * (2 * (y.a * y.c) - y.b * y.b + y.d * y.d) := by
  simp only [N.bel, N.nrm, N.mul, N.conj, N.alt]; grind
theorem sq_nonneg (a : Int) : 0 ≤ a * a := by
  rcases Int.le_total 0 a with h | h
  · exact Int.mul_nonneg h h
  · exact Int.mul_nonneg_of_nonpos_of_nonpos h h
theorem N.bel_eq2 (y : N) : y.bel = (y.a * y.a + y.b * y.b + y.c * y.c + y.d * y.d) * (y.a * y.a + y.b * y.b + y.c * y.c + y.d * y.d) - 2 * ((y.a * y.b + y.b * y.c + y.c * y.d - y.d * y.a) * (y.a * y.b + y.b * y.c + y.c * y.d - y.d * y.a)) := by
  simp only [N.bel, N.nrm, N.mul, N.conj, N.alt]; grind
theorem sq_zero {a : Int} (h : a * a = 0) : a = 0 := by
  rcases Int.mul_eq_zero.1 h with h | h <;> exact h
theorem N.bel_pos {y : N} (h : y.zero = false) : 0 < y.bel := by
  have h1 : 0 ≤ y.bel := by
    rw [N.bel_eq]
    have e1 := sq_nonneg (y.a * y.a - y.c * y.c + 2 * (y.b * y.d))
    have e2 := sq_nonneg (2 * (y.a * y.c) - y.b * y.b + y.d * y.d)
    omega
  rcases Int.lt_or_eq_of_le h1 with h2 | h2
  · exact h2
  exfalso
  rw [N.bel_eq2] at h2
  have h3 := sq_two _ (y.a * y.a + y.b * y.b + y.c * y.c + y.d * y.d) (y.a * y.b + y.b * y.c + y.c * y.d - y.d * y.a) (Nat.le_refl _) (by omega)
  have ga := sq_nonneg y.a
  have gb := sq_nonneg y.b
  have gc := sq_nonneg y.c
  have gd := sq_nonneg y.d
  have za := sq_zero (a := y.a) (by omega)
  have zb := sq_zero (a := y.b) (by omega)
  have zc := sq_zero (a := y.c) (by omega)
  have zd := sq_zero (a := y.d) (by omega)
  have : y.zero = true := by simp only [N.zero, za, zb, zc, zd]; rfl
  rw [h] at this; cases this
theorem N.bel_le {y : N} (h : y.In 4096) : y.bel ≤ 18014398509481984 := by
  have h1 : y.nrm.In 67108864 := (h.mul h.conj).mono (by omega)
  have h2 := (h1.mul h1.alt).a2
  simp only [N.bel]
  omega
/-- The odd part, and how often it could be halved. -/
def oddL : Nat → Int → Int × Nat
  | 0, n => (n, 0)
  | r + 1, n => if n % 2 = 0 then ((oddL r (n / 2)).1, (oddL r (n / 2)).2 + 1) else (n, 0)
theorem oddL_odd : ∀ (r : Nat) (n : Int), 0 < n → n < 2 ^ r → (oddL r n).1 % 2 = 1
  | 0, n => by intro h1 h2; simp only [Int.pow_zero] at h2; omega
  | r + 1, n => by
    intro h1 h2
    rw [Int.pow_succ] at h2
    simp only [oddL]
    by_cases e : n % 2 = 0
    · rw [if_pos e]; exact oddL_odd r (n / 2) (by omega) (by omega)
    · rw [if_neg e]; show n % 2 = 1; omega
theorem oddL_more : ∀ (r s : Nat) (n : Int), 0 < n → n < 2 ^ r → r ≤ s → oddL s n = oddL r n
  | 0, s, n => by intro h1 h2; simp only [Int.pow_zero] at h2; omega
  | r + 1, 0, n => by intro _ _ h; omega
  | r + 1, s + 1, n => by
    intro h1 h2 h3
    rw [Int.pow_succ] at h2
    simp only [oddL]
    by_cases e : n % 2 = 0
    · rw [if_pos e, if_pos e, oddL_more r s (n / 2) (by omega) (by omega) (by omega)]
    · rw [if_neg e, if_neg e]
theorem oddL_pos : ∀ (r : Nat) (n : Int), 0 < n → n < 2 ^ r → 0 < (oddL r n).1 ∧ (oddL r n).1 ≤ n ∧ (oddL r n).2 ≤ r
  | 0, n => by intro h1 h2; simp only [Int.pow_zero] at h2; omega
  | r + 1, n => by
    intro h1 h2
    rw [Int.pow_succ] at h2
    simp only [oddL]
    by_cases e : n % 2 = 0
    · rw [if_pos e]
      obtain ⟨g1, g2, g3⟩ := oddL_pos r (n / 2) (by omega) (by omega)
      exact ⟨g1, by show (oddL r (n / 2)).1 ≤ n; omega, by show (oddL r (n / 2)).2 + 1 ≤ r + 1; omega⟩
    · rw [if_neg e]; exact ⟨h1, Int.le_refl _, Nat.zero_le _⟩
end Go.Proofs.XX.Rm
/- Ring: the program's quotients: products of coefficients, companions, odd parts. -/
namespace Go.Proofs.YtihccnfaibiiiaaGreatDoor.R
open Go Go.Proofs.XX.Vm Go.Proofs.XX.Rm Go.RowKit
set_option maxRecDepth 100000

def conC (f : FuncId) (g : N → OT) : Con := ⟨f, fun args => match args with
  | [v] => match asC v with
    | some x => some (g x)
    | none => none
  | _ => none⟩
theorem conC_ok {M : Int} {l : List Con} {f : FuncId} {g : N → OT} (hl : ∀ c ∈ l, ConOk M c) (h : ∀ x v, (g x).get = some v → EvF Tryz.prog (orcL l) (Sg1 M) f [N.cv x] v) : ConOk M (conC f g) := by
  refine conOk_of_evF hl ?_
  intro args t v ht hv
  simp only [conC] at ht
  split at ht
  · rename_i u
    split at ht
    · rename_i x hx
      rw [asC_eq hx]
      cases ht
      exact ⟨rfl, h x v hv⟩
    · cases ht
  · cases ht
def conC2 (f : FuncId) (g : N → N → OT) : Con := ⟨f, fun args => match args with
  | [u, v] => match asC u, asC v with
    | some x, some y => some (g x y)
    | _, _ => none
  | _ => none⟩
theorem conC2_ok {M : Int} {l : List Con} {f : FuncId} {g : N → N → OT} (hl : ∀ c ∈ l, ConOk M c) (h : ∀ x y v, (g x y).get = some v → EvF Tryz.prog (orcL l) (Sg1 M) f [N.cv x, N.cv y] v) : ConOk M (conC2 f g) := by
  refine conOk_of_evF hl ?_
  intro args t v ht hv
  simp only [conC2] at ht
  split at ht
  · rename_i u t'
    split at ht
    · rename_i x y hx hy
      rw [asC_eq hx, asC_eq hy]
      cases ht
      exact ⟨rfl, h x y v hv⟩
    · cases ht
  · cases ht
def conIF (f : FuncId) (g : Int → OT) : Con := ⟨f, fun args => match args with
  | [.int .i64 n] => some (g n)
  | _ => none⟩
theorem conIF_ok {M : Int} {l : List Con} {f : FuncId} {g : Int → OT} (hl : ∀ c ∈ l, ConOk M c) (h : ∀ x v, (g x).get = some v → EvF Tryz.prog (orcL l) (Sg1 M) f [.int .i64 x] v) : ConOk M (conIF f g) := by
  refine conOk_of_evF hl ?_
  intro args t v ht hv
  simp only [conIF] at ht
  split at ht
  · rename_i n
    cases ht
    exact ⟨rfl, h n v hv⟩
  · cases ht
theorem tTms (M : Int) (m : Nat) (x y : N) : runK Tryz.prog (orcL []) (Sg1 M) (m + 60) 85 [N.cv x, N.cv y] = some (N.cv (mulW x y)) := by kernel_rfl
def cTms : Con := conC2 85 fun x y => .val (N.cv (mulW x y))
theorem cTms_ok (M : Int) : ConOk M cTms := conC2_ok nil_ok fun x y v h => by cases h; exact EvF.of_eq 60 fun m => tTms M m x y
theorem tCmp (M : Int) (m : Nat) (x : N) : runK Tryz.prog (orcL [cTms]) (Sg1 M) (m + 60) 107 [N.cv x] =
    some (.tuple #[N.cv (mulW (conjW x) (altW (mulW x (conjW x)))), .int .i64 (mulW (mulW x (conjW x)) (altW (mulW x (conjW x)))).a]) := by kernel_rfl

def cCmp : Con := conC 107 fun x => .val (.tuple #[N.cv (mulW (conjW x) (altW (mulW x (conjW x)))), .int .i64 (mulW (mulW x (conjW x)) (altW (mulW x (conjW x)))).a])
theorem cCmp_ok (M : Int) : ConOk M cCmp := conC_ok (mem_cons_ok (cTms_ok M) nil_ok) fun x v h => by cases h; exact EvF.of_eq 60 fun m => tCmp M m x
def u64B (n : Int) : Bool := decide (0 ≤ n) && decide (n ≤ 18446744073709551615)
def cLen : Con := ⟨118, fun args => match args with
  | [.int .u64 n] => some (.ite (u64B n) (.val (.int .i64 (Lib.bitLen n.toNat))) .no)
  | _ => none⟩
theorem cLen_ok (M : Int) : ConOk M cLen := by
  intro args t v h hv w inv
  simp only [cLen] at h
  split at h
  · rename_i n
    cases h
    obtain ⟨h1, h⟩ := OT.pre hv
    cases h
    simp only [u64B, Bool.and_eq_true, decide_eq_true_eq] at h1
    refine (Tryz.bits_Len n w h1.1 h1.2).mono ?_
    rintro e w' ⟨rfl, rfl⟩
    exact ⟨rfl, Below.refl _ _⟩
  · cases h
theorem LL_ok (M : Int) : ∀ c ∈ [cLen], ConOk M c := mem_cons_ok (cLen_ok M) nil_ok
noncomputable abbrev qPF (i : Nat) : Code := nthC (pcs Tryz.prog 108) i
noncomputable abbrev BP : Code := loopOf Tryz.prog 108 0
theorem LP_eq : pcs Tryz.prog 108 = [qPF 0, qPF 1, .block 0 (.loop BP), qPF 3, qPF 4] := by kernel_rfl
theorem headP {α : Type} (M : Int) (fs : Nat → Nat) (n : Int) (l : List Code) (k : Kont α) :
    evP Tryz.prog (orcL [cLen]) (Sg1 M) 3 fs 0 (qPF 0 :: qPF 1 :: l) (.int .i64 n :: List.replicate 18 undef) (Sg1 M) k =
    bif u64B (IntKind.u64.wrap n) then evP Tryz.prog (orcL [cLen]) (Sg1 M) 3 fs 2 l [.int .i64 n, undef, .int .i64 0, .int .i64 0, .int .i64 n, .int .u64 (IntKind.u64.wrap n), .int .i64 (Lib.bitLen (IntKind.u64.wrap n).toNat), .int .i64 0, undef, undef, undef, undef, undef, undef, undef, undef, undef, undef, undef] (Sg1 M) k else none := by kernel_rfl
theorem roundP {α : Type} (M : Int) (m : Nat) (n c r i : Int) (v1 v2 v4 v5 v8 v9 v10 v11 v12 v13 v14 v15 v16 v17 v18 : Value) (k : Kont α) :
    evCodeK Tryz.prog (orcL [cLen]) (Sg1 M) (m + 60) 3 BP [(.int .i64 n), v1, v2, (.int .i64 c), v4, v5, (.int .i64 r), (.int .i64 i), v8, v9, v10, v11, v12, v13, v14, v15, v16, v17, v18] (Sg1 M) k =
    bif decide (i < r) then (bif n.tmod 2 == 0 then k .normal [(.int .i64 (w (n.tdiv 2))), v1, v2, (.int .i64 (w (c + 1))), v4, v5, (.int .i64 r), (.int .i64 (w (i + 1))), (.bool true), (.int .i64 n), (.int .i64 (n.tmod 2)), (.bool true), (.int .i64 n), (.int .i64 (w (n.tdiv 2))), (.int .i64 c), (.int .i64 (w (c + 1))), (.int .i64 (w (i + 1))), v17, v18] (Sg1 M) else k .normal [(.int .i64 n), v1, v2, (.int .i64 c), v4, v5, (.int .i64 r), (.int .i64 (w (i + 1))), (.bool true), (.int .i64 n), (.int .i64 (n.tmod 2)), (.bool false), v12, v13, v14, v15, (.int .i64 (w (i + 1))), v17, v18] (Sg1 M)) else k (.exit 0) [(.int .i64 n), v1, v2, (.int .i64 c), v4, v5, (.int .i64 r), (.int .i64 i), (.bool false), v9, v10, v11, v12, v13, v14, v15, v16, v17, v18] (Sg1 M) := by kernel_rfl
theorem tailP {α : Type} (M : Int) (fs : Nat → Nat) (n c r i : Int) (v1 v2 v4 v5 v8 v9 v10 v11 v12 v13 v14 v15 v16 v17 v18 : Value) (k : Kont α) :
    evP Tryz.prog (orcL [cLen]) (Sg1 M) 3 fs 3 [qPF 3, qPF 4] [(.int .i64 n), v1, v2, (.int .i64 c), v4, v5, (.int .i64 r), (.int .i64 i), v8, v9, v10, v11, v12, v13, v14, v15, v16, v17, v18] (Sg1 M) k = k .ret [(.int .i64 n), v1, (.int .i64 n), (.int .i64 c), v4, v5, (.int .i64 r), (.int .i64 i), v8, v9, v10, v11, v12, v13, v14, v15, v16, (.int .i64 n), (.int .i64 c)] (Sg1 M) := by kernel_rfl
theorem oddL_odd' {n : Int} (h : n % 2 ≠ 0) : ∀ r, oddL r n = (n, 0)
  | 0 => rfl
  | r + 1 => by simp only [oddL, if_neg h]
theorem loopP (M : Int) (R : Nat) (n0 : Int) (h1 : 0 ≤ n0) (h2 : n0 ≤ 9223372036854775807) (hR : R ≤ 64) (v1 v2 v4 v5 : Value) (L : List Value) (hL : L.length = 11) :
    Ev Tryz.prog (orcL [cLen]) (Sg1 M) Value 3 (.loop BP) (.int .i64 n0 :: v1 :: v2 :: .int .i64 0 :: v4 :: v5 :: .int .i64 R :: .int .i64 0 :: L) (Sg1 M) fun e T S => e = .exit 0 ∧ (∃ (i : Int) (L : List Value), L.length = 11 ∧ T = .int .i64 (oddL R n0).1 :: v1 :: v2 :: .int .i64 ((oddL R n0).2 : Nat) :: v4 :: v5 :: .int .i64 R :: .int .i64 i :: L) ∧ S = Sg1 M := by
  refine Ev.loop (fun m T S => ∃ (L : List Value) (n c i : Int), L.length = 11 ∧ T = .int .i64 n :: v1 :: v2 :: .int .i64 c :: v4 :: v5 :: .int .i64 R :: .int .i64 i :: L ∧ S = Sg1 M ∧ i + m = R ∧ 0 ≤ i ∧ 0 ≤ n ∧ n ≤ 9223372036854775807 ∧ 0 ≤ c ∧ c ≤ i ∧ (oddL m n).1 = (oddL R n0).1 ∧ c + ((oddL m n).2 : Nat) = ((oddL R n0).2 : Nat)) ?_ R _ _ ⟨L, n0, 0, 0, hL, rfl, rfl, by omega, by omega, h1, h2, by omega, by omega, rfl, by omega⟩
  rintro m T S ⟨L, n, c, i, hL, rfl, rfl, hi, hi0, g1, g2, g3, g4, e1, e2⟩
  match L, hL with
  | [v8, v9, v10, v11, v12, v13, v14, v15, v16, v17, v18], _ =>
  cases m with
  | zero =>
    refine Ev.of_eq 60 (fun s k => (roundP M s n c R i v1 v2 v4 v5 v8 v9 v10 v11 v12 v13 v14 v15 v16 v17 v18 k).trans (condF (decide_eq_false (by omega)))) ?_
    simp only [oddL] at e1 e2
    rw [← e1, ← e2, show c + ((0 : Nat) : Int) = c by omega]
    exact ⟨rfl, ⟨i, [.bool false, v9, v10, v11, v12, v13, v14, v15, v16, v17, v18], rfl, rfl⟩, rfl⟩
  | succ m =>
    have hw : w (i + 1) = i + 1 := w_eq _ (by omega) (by omega)
    by_cases e : n % 2 = 0
    · have ht : n.tmod 2 = 0 := by rw [Int.tmod_eq_emod_of_nonneg g1]; exact e
      have hd : w (n.tdiv 2) = n / 2 := by rw [Int.tdiv_eq_ediv_of_nonneg g1]; exact w_eq _ (by omega) (by omega)
      have hc : w (c + 1) = c + 1 := w_eq _ (by omega) (by omega)
      refine Ev.of_eq 60 (fun s k => (roundP M s n c R i v1 v2 v4 v5 v8 v9 v10 v11 v12 v13 v14 v15 v16 v17 v18 k).trans ((condT (decide_eq_true (by omega))).trans (condT (by rw [ht]; rfl)))) ?_
      simp only [oddL, if_pos e] at e1 e2
      exact ⟨m, Nat.lt_succ_self m, _, n / 2, c + 1, i + 1, rfl, by rw [hd, hc, hw], rfl, by omega, by omega, by omega, by omega, by omega, by omega, e1, by omega⟩
    · have ht : n.tmod 2 ≠ 0 := by rw [Int.tmod_eq_emod_of_nonneg g1]; exact e
      refine Ev.of_eq 60 (fun s k => (roundP M s n c R i v1 v2 v4 v5 v8 v9 v10 v11 v12 v13 v14 v15 v16 v17 v18 k).trans ((condT (decide_eq_true (by omega))).trans (condF (beq_eq_false_iff_ne.2 ht)))) ?_
      rw [oddL_odd' e] at e1 e2
      exact ⟨m, Nat.lt_succ_self m, _, n, c, i + 1, rfl, by rw [hw], rfl, by omega, by omega, by omega, by omega, by omega, by omega, by rw [oddL_odd' e]; exact e1, by rw [oddL_odd' e]; exact e2⟩
theorem tmpsP (n : Int) : tmps0Of Tryz.prog 108 [.int .i64 n] = .int .i64 n :: List.replicate 18 undef := by kernel_rfl
theorem outP (M n c : Int) (v0 v1 : Value) (L : List Value) : outOf Tryz.prog 108 (v0 :: v1 :: .int .i64 n :: .int .i64 c :: L) (Sg1 M) = some (.tuple #[.int .i64 n, .int .i64 c]) := by kernel_rfl
/-- The odd part of a number of 64 bits. -/
def oddS (n : Int) : Int × Nat := oddL (Lib.bitLen n.toNat) n
theorem eP (M : Int) (n : Int) (h1 : 0 ≤ n) (h2 : n ≤ 9223372036854775807) (hR : Lib.bitLen n.toNat ≤ 64) : EvF Tryz.prog (orcL [cLen]) (Sg1 M) 108 [.int .i64 n] (.tuple #[.int .i64 (oddS n).1, .int .i64 ((oddS n).2 : Nat)]) := by
  have hw : IntKind.u64.wrap n = n := by rw [IntKind.wrap_u64]; omega
  refine EvF.of_body rfl ?_
  rw [tmpsP]
  show Ev Tryz.prog (orcL [cLen]) (Sg1 M) Value 3 _ _ _ _
  refine Ev.of_pieces ?_
  rw [show flatC (bodyOf Tryz.prog 108) = _ from LP_eq]
  refine EvP.run (fun fs k => (headP M fs n _ k).trans (condT (by rw [hw]; simp only [u64B, Bool.and_eq_true, decide_eq_true_eq]; omega))) ?_
  rw [hw]
  refine EvP.step (Ev.block ((loopP M (Lib.bitLen n.toNat) n h1 h2 hR _ _ _ _ _ rfl).mono ?_))
  rintro e T S ⟨rfl, ⟨i, L, hL, rfl⟩, rfl⟩
  match L, hL with
  | [v8, v9, v10, v11, v12, v13, v14, v15, v16, v17, v18], _ =>
  refine EvP.stop (fun fs k => tailP M fs _ _ _ _ _ _ _ _ v8 v9 v10 v11 v12 v13 v14 v15 v16 v17 v18 k) ⟨trivial, ?_⟩
  exact outP M _ _ _ _ _
end Go.Proofs.YtihccnfaibiiiaaGreatDoor.R
