/- Ring: the specification's sums and products. -/
import Derived.Test.YtihccnfaibiiiaaGreatDoorD3
namespace Go.Proofs.YtihccnfaibiiiaaGreatDoor.R
open Go Go.Proofs.XX.Vm Go.Proofs.XX.Rm Go.RowKit
set_option maxRecDepth 100000

/-- The specification's 'times', and 'product'. -/
def tmR (x : N) : N := ⟨w (x.b - x.d), w (x.a + x.c), w (x.b + x.d), w (x.c - x.a), x.k⟩
theorem tTm (M : Int) (m : Nat) (x : N) : runK Tryz.prog (orcL []) (Sg1 M) (m + 60) 43 [N.v x] = some (N.v (tmR x)) := by kernel_rfl
def cTim : Con := con1 43 fun x => .val (N.v (tmR x))
theorem cTim_ok (M : Int) : ConOk M cTim := con1_ok nil_ok fun x v h => by cases h; exact EvF.of_eq 60 fun m => tTm M m x
abbrev LF : List Con := [cChkR, cFrm]
theorem LF_ok (M : Int) : ∀ c ∈ LF, ConOk M c := mem_cons_ok (cChkR_ok M) (mem_cons_ok (cFrm_ok M) nil_ok)
theorem tFit (M : Int) (m : Nat) (x : N) : runK Tryz.prog (orcL LF) (Sg1 M) (m + 60) 44 [N.v x] =
    bif symN x then bif3 x.nf (some (resV (x.nf, 0))) (fun _ => some (resV (O, 8))) else none := by kernel_rfl
def cFit : Con := con1 44 fun x => .ite (symN x) (fitT x.nf) .no
theorem cFit_ok (M : Int) : ConOk M cFit := con1_ok (LF_ok M) fun x v h => by
  refine EvF.of_eq 60 fun m => get_some h ?_
  rw [tFit]
  simp only [OT.get, fitT]
  unfold bif3 okB
  cases symN x <;> cases rgB x.nf <;> cases inB x.nf <;> rfl
noncomputable abbrev LG : List Con := [cChkR, cFrm, cTim, cFit]
theorem LG_ok (M : Int) : ∀ c ∈ LG, ConOk M c := mem_cons_ok (cChkR_ok M) (mem_cons_ok (cFrm_ok M) (mem_cons_ok (cTim_ok M) (mem_cons_ok (cFit_ok M) nil_ok)))
/-- Two numbers in a row. -/
def sb2 (x y : N) : Blk := ⟨[.int .i64 x.a, .int .i64 x.b, .int .i64 x.c, .int .i64 x.d, .int .i64 x.k, .int .i64 y.a, .int .i64 y.b, .int .i64 y.c, .int .i64 y.d, .int .i64 y.k], 23, false, none⟩
def sl2 : Value := .slice (some ⟨6, 0, none⟩) 2 2
noncomputable abbrev qA (i : Nat) : Code := nthC (pcs Tryz.prog 8) i
noncomputable abbrev BA (i : Nat) : Code := loopOf Tryz.prog 8 i
theorem LA_eq : pcs Tryz.prog 8 = [qA 0, qA 1, qA 2, qA 3, qA 4, .block 0 (.loop (BA 0)), .block 2 (.loop (BA 1)), qA 7, qA 8] := by kernel_rfl
theorem headA {α : Type} (M : Int) (fs : Nat → Nat) (x0 y0 : N) (l : List Code) (k : Kont α) :
    evP Tryz.prog (orcL LG) (Sg1 M) 3 fs 0 (qA 0 :: qA 1 :: qA 2 :: qA 3 :: qA 4 :: l) (N.v x0 :: N.v y0 :: List.replicate 65 undef) (Sg1 M) k =
    bif3 x0 (bif3 y0 (bif symN x0 then bif symN y0 then evP Tryz.prog (orcL LG) (Sg1 M) 3 fs 5 l [N.v x0, N.v y0, p1, p2, p3, .int .i64 0, (.int .i64 0), (N.v x0), (N.v y0), sl2, (.int .i64 0), (.int .i64 0), (.bool false), undef, undef, (N.v x0), (N.v x0.nf), (N.v y0), (N.v y0.nf), undef, undef, undef, undef, undef, undef, undef, undef, undef, undef, undef, undef, undef, undef, undef, undef, undef, undef, undef, undef, undef, undef, undef, undef, undef, undef, undef, undef, undef, undef, undef, undef, undef, undef, undef, undef, undef, undef, undef, undef, undef, undef, undef, undef, undef, undef, undef, undef] [uni, pow, mxl M, rb x0.nf, rb y0.nf, rb O, sb2 x0 y0] k else none else none)
      fun e => k .ret [N.v x0, N.v y0, p1, p2, p3, .int .i64 e, (.int .i64 e), (N.v x0), (N.v y0), sl2, (.int .i64 e), (.int .i64 e), (.bool true), (N.v O), (.int .i64 e), undef, undef, undef, undef, undef, undef, undef, undef, undef, undef, undef, undef, undef, undef, undef, undef, undef, undef, undef, undef, undef, undef, undef, undef, undef, undef, undef, undef, undef, undef, undef, undef, undef, undef, undef, undef, undef, undef, undef, undef, undef, undef, undef, undef, undef, undef, undef, undef, undef, undef, undef, undef] [uni, pow, mxl M, rb x0, rb y0, rb O, sb2 x0 y0]) fun e => k .ret [N.v x0, N.v y0, p1, p2, p3, .int .i64 e, (.int .i64 e), (N.v x0), (N.v y0), sl2, (.int .i64 e), (.int .i64 e), (.bool true), (N.v O), (.int .i64 e), undef, undef, undef, undef, undef, undef, undef, undef, undef, undef, undef, undef, undef, undef, undef, undef, undef, undef, undef, undef, undef, undef, undef, undef, undef, undef, undef, undef, undef, undef, undef, undef, undef, undef, undef, undef, undef, undef, undef, undef, undef, undef, undef, undef, undef, undef, undef, undef, undef, undef, undef, undef] [uni, pow, mxl M, rb x0, rb y0, rb O, sb2 x0 y0] := by kernel_rfl
theorem roundA1 {α : Type} (M : Int) (n : Nat) (x0 y0 x y : N) (v6 v7 v8 v9 v10 v11 v12 v13 v14 v15 v16 v17 v18 v19 v20 v21 v22 v23 v24 v25 v26 v27 v28 v29 v30 v31 v32 v33 v34 v35 v36 v37 v38 v39 v40 v41 v42 v43 v44 v45 v46 v47 v48 v49 v50 v51 v52 v53 v54 v55 v56 v57 v58 v59 v60 v61 v62 v63 v64 v65 v66 : Value) (k : Kont α) :
    evCodeK Tryz.prog (orcL LG) (Sg1 M) (n + 60) 3 (BA 0) [N.v x0, N.v y0, p1, p2, p3, .int .i64 0, v6, v7, v8, v9, v10, v11, v12, v13, v14, v15, v16, v17, v18, v19, v20, v21, v22, v23, v24, v25, v26, v27, v28, v29, v30, v31, v32, v33, v34, v35, v36, v37, v38, v39, v40, v41, v42, v43, v44, v45, v46, v47, v48, v49, v50, v51, v52, v53, v54, v55, v56, v57, v58, v59, v60, v61, v62, v63, v64, v65, v66] [uni, pow, mxl M, rb x, rb y, rb O, sb2 x0 y0] k =
    bif decide (x.k < y.k) then k .normal [N.v x0, N.v y0, p1, p2, p3, .int .i64 0, v6, v7, v8, v9, v10, v11, v12, v13, v14, v15, v16, v17, v18, (.pointer (some ⟨3, 4, none⟩)), (.int .i64 x.k), (.pointer (some ⟨4, 4, none⟩)), (.int .i64 y.k), (.bool true), (N.v x), (N.v (tmR x)), (.pointer (some ⟨3, 4, none⟩)), (.int .i64 x.k), (.int .i64 (w (x.k + 1))), (.pointer (some ⟨3, 4, none⟩)), v30, v31, v32, v33, v34, v35, v36, v37, v38, v39, v40, v41, v42, v43, v44, v45, v46, v47, v48, v49, v50, v51, v52, v53, v54, v55, v56, v57, v58, v59, v60, v61, v62, v63, v64, v65, v66] [uni, pow, mxl M, rb (N.upW x), rb y, rb O, sb2 x0 y0] else k (.exit 0) [N.v x0, N.v y0, p1, p2, p3, .int .i64 0, v6, v7, v8, v9, v10, v11, v12, v13, v14, v15, v16, v17, v18, (.pointer (some ⟨3, 4, none⟩)), (.int .i64 x.k), (.pointer (some ⟨4, 4, none⟩)), (.int .i64 y.k), (.bool false), v24, v25, v26, v27, v28, v29, v30, v31, v32, v33, v34, v35, v36, v37, v38, v39, v40, v41, v42, v43, v44, v45, v46, v47, v48, v49, v50, v51, v52, v53, v54, v55, v56, v57, v58, v59, v60, v61, v62, v63, v64, v65, v66] [uni, pow, mxl M, rb x, rb y, rb O, sb2 x0 y0] := by kernel_rfl
theorem roundA2 {α : Type} (M : Int) (n : Nat) (x0 y0 x y : N) (v6 v7 v8 v9 v10 v11 v12 v13 v14 v15 v16 v17 v18 v19 v20 v21 v22 v23 v24 v25 v26 v27 v28 v29 v30 v31 v32 v33 v34 v35 v36 v37 v38 v39 v40 v41 v42 v43 v44 v45 v46 v47 v48 v49 v50 v51 v52 v53 v54 v55 v56 v57 v58 v59 v60 v61 v62 v63 v64 v65 v66 : Value) (k : Kont α) :
    evCodeK Tryz.prog (orcL LG) (Sg1 M) (n + 60) 3 (BA 1) [N.v x0, N.v y0, p1, p2, p3, .int .i64 0, v6, v7, v8, v9, v10, v11, v12, v13, v14, v15, v16, v17, v18, v19, v20, v21, v22, v23, v24, v25, v26, v27, v28, v29, v30, v31, v32, v33, v34, v35, v36, v37, v38, v39, v40, v41, v42, v43, v44, v45, v46, v47, v48, v49, v50, v51, v52, v53, v54, v55, v56, v57, v58, v59, v60, v61, v62, v63, v64, v65, v66] [uni, pow, mxl M, rb x, rb y, rb O, sb2 x0 y0] k =
    bif decide (y.k < x.k) then k .normal [N.v x0, N.v y0, p1, p2, p3, .int .i64 0, v6, v7, v8, v9, v10, v11, v12, v13, v14, v15, v16, v17, v18, v19, v20, v21, v22, v23, v24, v25, v26, v27, v28, v29, (.pointer (some ⟨4, 4, none⟩)), (.int .i64 y.k), (.pointer (some ⟨3, 4, none⟩)), (.int .i64 x.k), (.bool true), (N.v y), (N.v (tmR y)), (.pointer (some ⟨4, 4, none⟩)), (.int .i64 y.k), (.int .i64 (w (y.k + 1))), (.pointer (some ⟨4, 4, none⟩)), v41, v42, v43, v44, v45, v46, v47, v48, v49, v50, v51, v52, v53, v54, v55, v56, v57, v58, v59, v60, v61, v62, v63, v64, v65, v66] [uni, pow, mxl M, rb x, rb (N.upW y), rb O, sb2 x0 y0] else k (.exit 2) [N.v x0, N.v y0, p1, p2, p3, .int .i64 0, v6, v7, v8, v9, v10, v11, v12, v13, v14, v15, v16, v17, v18, v19, v20, v21, v22, v23, v24, v25, v26, v27, v28, v29, (.pointer (some ⟨4, 4, none⟩)), (.int .i64 y.k), (.pointer (some ⟨3, 4, none⟩)), (.int .i64 x.k), (.bool false), v35, v36, v37, v38, v39, v40, v41, v42, v43, v44, v45, v46, v47, v48, v49, v50, v51, v52, v53, v54, v55, v56, v57, v58, v59, v60, v61, v62, v63, v64, v65, v66] [uni, pow, mxl M, rb x, rb y, rb O, sb2 x0 y0] := by kernel_rfl
theorem tailA {α : Type} (M : Int) (fs : Nat → Nat) (x0 y0 x y : N) (v6 v7 v8 v9 v10 v11 v12 v13 v14 v15 v16 v17 v18 v19 v20 v21 v22 v23 v24 v25 v26 v27 v28 v29 v30 v31 v32 v33 v34 v35 v36 v37 v38 v39 v40 v41 v42 v43 v44 v45 v46 v47 v48 v49 v50 v51 v52 v53 v54 v55 v56 v57 v58 v59 v60 v61 v62 v63 v64 v65 v66 : Value) (k : Kont α) :
    evP Tryz.prog (orcL LG) (Sg1 M) 3 fs 7 [qA 7, qA 8] [N.v x0, N.v y0, p1, p2, p3, .int .i64 0, v6, v7, v8, v9, v10, v11, v12, v13, v14, v15, v16, v17, v18, v19, v20, v21, v22, v23, v24, v25, v26, v27, v28, v29, v30, v31, v32, v33, v34, v35, v36, v37, v38, v39, v40, v41, v42, v43, v44, v45, v46, v47, v48, v49, v50, v51, v52, v53, v54, v55, v56, v57, v58, v59, v60, v61, v62, v63, v64, v65, v66] [uni, pow, mxl M, rb x, rb y, rb O, sb2 x0 y0] k =
    bif symN (addW x y x.k) then (bif okB (addW x y x.k).nf then k .ret ([N.v x0, N.v y0, p1, p2, p3, .int .i64 0, v6, v7, v8, v9, v10, v11, v12, v13, v14, v15, v16, v17, v18, v19, v20, v21, v22, v23, v24, v25, v26, v27, v28, v29, v30, v31, v32, v33, v34, v35, v36, v37, v38, v39, v40, (.pointer (some ⟨3, 0, none⟩)), (.int .i64 x.a), (.pointer (some ⟨4, 0, none⟩)), (.int .i64 y.a), (.int .i64 (w (x.a + y.a))), (.pointer (some ⟨3, 1, none⟩)), (.int .i64 x.b), (.pointer (some ⟨4, 1, none⟩)), (.int .i64 y.b), (.int .i64 (w (x.b + y.b))), (.pointer (some ⟨3, 2, none⟩)), (.int .i64 x.c), (.pointer (some ⟨4, 2, none⟩)), (.int .i64 y.c), (.int .i64 (w (x.c + y.c))), (.pointer (some ⟨3, 3, none⟩)), (.int .i64 x.d), (.pointer (some ⟨4, 3, none⟩)), (.int .i64 y.d), (.int .i64 (w (x.d + y.d))), (.pointer (some ⟨3, 4, none⟩)), (.int .i64 x.k), (N.v (addW x y x.k)), (resV ((addW x y x.k).nf, 0)), (N.v (addW x y x.k).nf), (.int .i64 0)].set 5 (.int .i64 0)) [uni, pow, mxl M, rb x, rb y, rb (addW x y x.k).nf, sb2 x0 y0] else k .ret ([N.v x0, N.v y0, p1, p2, p3, .int .i64 0, v6, v7, v8, v9, v10, v11, v12, v13, v14, v15, v16, v17, v18, v19, v20, v21, v22, v23, v24, v25, v26, v27, v28, v29, v30, v31, v32, v33, v34, v35, v36, v37, v38, v39, v40, (.pointer (some ⟨3, 0, none⟩)), (.int .i64 x.a), (.pointer (some ⟨4, 0, none⟩)), (.int .i64 y.a), (.int .i64 (w (x.a + y.a))), (.pointer (some ⟨3, 1, none⟩)), (.int .i64 x.b), (.pointer (some ⟨4, 1, none⟩)), (.int .i64 y.b), (.int .i64 (w (x.b + y.b))), (.pointer (some ⟨3, 2, none⟩)), (.int .i64 x.c), (.pointer (some ⟨4, 2, none⟩)), (.int .i64 y.c), (.int .i64 (w (x.c + y.c))), (.pointer (some ⟨3, 3, none⟩)), (.int .i64 x.d), (.pointer (some ⟨4, 3, none⟩)), (.int .i64 y.d), (.int .i64 (w (x.d + y.d))), (.pointer (some ⟨3, 4, none⟩)), (.int .i64 x.k), (N.v (addW x y x.k)), (resV (O, 8)), (N.v O), (.int .i64 8)].set 5 (.int .i64 8)) [uni, pow, mxl M, rb x, rb y, rb O, sb2 x0 y0]) else none := by kernel_rfl
theorem loopA1 (M : Int) (x0 y0 x y : N) (K : Int) (h : x.In 1073741824) (h0 : 0 ≤ x.k) (hK : K = max x.k y.k) (h2 : K ≤ 60) (L : List Value) (hL : L.length = 61) :
    Ev Tryz.prog (orcL LG) (Sg1 M) Value 3 (.loop (BA 0)) (N.v x0 :: N.v y0 :: p1 :: p2 :: p3 :: .int .i64 0 :: L) [uni, pow, mxl M, rb x, rb y, rb O, sb2 x0 y0] fun e T S => e = .exit 0 ∧ (∃ L : List Value, L.length = 61 ∧ T = N.v x0 :: N.v y0 :: p1 :: p2 :: p3 :: .int .i64 0 :: L) ∧ S = [uni, pow, mxl M, rb (x.lift K), rb y, rb O, sb2 x0 y0] := by
  refine Ev.loop (fun m T S => ∃ (L : List Value) (j : Nat), L.length = 61 ∧ T = N.v x0 :: N.v y0 :: p1 :: p2 :: p3 :: .int .i64 0 :: L ∧ S = [uni, pow, mxl M, rb (x.ups j), rb y, rb O, sb2 x0 y0] ∧ x.k + j + m = K) ?_ (K - x.k).toNat _ _ ⟨L, 0, hL, rfl, rfl, by omega⟩
  rintro m T S ⟨L, j, hL, rfl, rfl, hm⟩
  match L, hL with
  | v6 :: v7 :: v8 :: v9 :: v10 :: v11 :: v12 :: v13 :: v14 :: v15 :: v16 :: v17 :: v18 :: v19 :: v20 :: v21 :: v22 :: v23 :: v24 :: v25 :: v26 :: v27 :: v28 :: v29 :: v30 :: v31 :: v32 :: v33 :: v34 :: v35 :: v36 :: v37 :: v38 :: v39 :: v40 :: v41 :: v42 :: v43 :: v44 :: v45 :: v46 :: v47 :: v48 :: v49 :: v50 :: v51 :: v52 :: v53 :: v54 :: v55 :: v56 :: v57 :: v58 :: v59 :: v60 :: v61 :: v62 :: v63 :: v64 :: v65 :: v66 :: [], _ =>
  have hk : (x.ups j).k = x.k + j := N.ups_k x j
  cases m with
  | zero =>
    refine Ev.of_eq 60 (fun n k => (roundA1 M n x0 y0 (x.ups j) y v6 v7 v8 v9 v10 v11 v12 v13 v14 v15 v16 v17 v18 v19 v20 v21 v22 v23 v24 v25 v26 v27 v28 v29 v30 v31 v32 v33 v34 v35 v36 v37 v38 v39 v40 v41 v42 v43 v44 v45 v46 v47 v48 v49 v50 v51 v52 v53 v54 v55 v56 v57 v58 v59 v60 v61 v62 v63 v64 v65 v66 k).trans (condF (decide_eq_false (by omega)))) ?_
    exact ⟨rfl, ⟨_, rfl, rfl⟩, by unfold N.lift; rw [show (K - x.k).toNat = j by omega]⟩
  | succ m =>
    refine Ev.of_eq 60 (fun n k => (roundA1 M n x0 y0 (x.ups j) y v6 v7 v8 v9 v10 v11 v12 v13 v14 v15 v16 v17 v18 v19 v20 v21 v22 v23 v24 v25 v26 v27 v28 v29 v30 v31 v32 v33 v34 v35 v36 v37 v38 v39 v40 v41 v42 v43 v44 v45 v46 v47 v48 v49 v50 v51 v52 v53 v54 v55 v56 v57 v58 v59 v60 v61 v62 v63 v64 v65 v66 k).trans (condT (decide_eq_true (by omega)))) ?_
    refine ⟨m, Nat.lt_succ_self m, _, j + 1, rfl, rfl, ?_, by omega⟩
    rw [upW_eq (N.In.ups60 (h.mono (by omega)) (by omega)) (by omega) (by omega)]; rfl
theorem loopA2 (M : Int) (x0 y0 x y : N) (K : Int) (h : y.In 1073741824) (h0 : 0 ≤ y.k) (hK : K = x.k) (h1 : y.k ≤ K) (h2 : K ≤ 60) (L : List Value) (hL : L.length = 61) :
    Ev Tryz.prog (orcL LG) (Sg1 M) Value 3 (.loop (BA 1)) (N.v x0 :: N.v y0 :: p1 :: p2 :: p3 :: .int .i64 0 :: L) [uni, pow, mxl M, rb x, rb y, rb O, sb2 x0 y0] fun e T S => e = .exit 2 ∧ (∃ L : List Value, L.length = 61 ∧ T = N.v x0 :: N.v y0 :: p1 :: p2 :: p3 :: .int .i64 0 :: L) ∧ S = [uni, pow, mxl M, rb x, rb (y.lift K), rb O, sb2 x0 y0] := by
  refine Ev.loop (fun m T S => ∃ (L : List Value) (j : Nat), L.length = 61 ∧ T = N.v x0 :: N.v y0 :: p1 :: p2 :: p3 :: .int .i64 0 :: L ∧ S = [uni, pow, mxl M, rb x, rb (y.ups j), rb O, sb2 x0 y0] ∧ y.k + j + m = K) ?_ (K - y.k).toNat _ _ ⟨L, 0, hL, rfl, rfl, by omega⟩
  rintro m T S ⟨L, j, hL, rfl, rfl, hm⟩
  match L, hL with
  | v6 :: v7 :: v8 :: v9 :: v10 :: v11 :: v12 :: v13 :: v14 :: v15 :: v16 :: v17 :: v18 :: v19 :: v20 :: v21 :: v22 :: v23 :: v24 :: v25 :: v26 :: v27 :: v28 :: v29 :: v30 :: v31 :: v32 :: v33 :: v34 :: v35 :: v36 :: v37 :: v38 :: v39 :: v40 :: v41 :: v42 :: v43 :: v44 :: v45 :: v46 :: v47 :: v48 :: v49 :: v50 :: v51 :: v52 :: v53 :: v54 :: v55 :: v56 :: v57 :: v58 :: v59 :: v60 :: v61 :: v62 :: v63 :: v64 :: v65 :: v66 :: [], _ =>
  have hk : (y.ups j).k = y.k + j := N.ups_k y j
  cases m with
  | zero =>
    refine Ev.of_eq 60 (fun n k => (roundA2 M n x0 y0 x (y.ups j) v6 v7 v8 v9 v10 v11 v12 v13 v14 v15 v16 v17 v18 v19 v20 v21 v22 v23 v24 v25 v26 v27 v28 v29 v30 v31 v32 v33 v34 v35 v36 v37 v38 v39 v40 v41 v42 v43 v44 v45 v46 v47 v48 v49 v50 v51 v52 v53 v54 v55 v56 v57 v58 v59 v60 v61 v62 v63 v64 v65 v66 k).trans (condF (decide_eq_false (by omega)))) ?_
    exact ⟨rfl, ⟨_, rfl, rfl⟩, by unfold N.lift; rw [show (K - y.k).toNat = j by omega]⟩
  | succ m =>
    refine Ev.of_eq 60 (fun n k => (roundA2 M n x0 y0 x (y.ups j) v6 v7 v8 v9 v10 v11 v12 v13 v14 v15 v16 v17 v18 v19 v20 v21 v22 v23 v24 v25 v26 v27 v28 v29 v30 v31 v32 v33 v34 v35 v36 v37 v38 v39 v40 v41 v42 v43 v44 v45 v46 v47 v48 v49 v50 v51 v52 v53 v54 v55 v56 v57 v58 v59 v60 v61 v62 v63 v64 v65 v66 k).trans (condT (decide_eq_true (by omega)))) ?_
    refine ⟨m, Nat.lt_succ_self m, _, j + 1, rfl, rfl, ?_, by omega⟩
    rw [upW_eq (N.In.ups60 (h.mono (by omega)) (by omega)) (by omega) (by omega)]; rfl
theorem tmpsA (x y : N) : tmps0Of Tryz.prog 8 [N.v x, N.v y] = N.v x :: N.v y :: List.replicate 65 undef := by kernel_rfl
theorem outA (x y z : N) (e : Int) (L : List Value) (b0 b1 b2 b3 b4 b6 : Blk) : outOf Tryz.prog 8 (N.v x :: N.v y :: p1 :: p2 :: p3 :: .int .i64 e :: L) [b0, b1, b2, b3, b4, rb z, b6] = some (resV (z, e)) := by kernel_rfl
theorem symN_fit {x : N} (h : x.In (2 ^ 61)) (h1 : x.k ≤ 60) : symN x = true := by
  obtain ⟨a1, a2, b1, b2, c1, c2, d1, d2⟩ := h
  simp only [symN, symB, Bool.and_eq_true, decide_eq_true_eq]; omega
theorem bif3_cases {α : Type} {x : N} {a : α} {f : Int → α} : (okB x = true ∧ bif3 x a f = a) ∨ ∃ e, okB x = false ∧ bif3 x a f = f e := by
  unfold bif3 okB
  cases rgB x
  · exact .inr ⟨3, rfl, rfl⟩
  · cases inB x
    · exact .inr ⟨8, rfl, rfl⟩
    · exact .inl ⟨rfl, rfl⟩
theorem bif3_bad {x : N} (h : okB x = false) : ∃ e : Int, ∀ {α : Type} (a : α) (f : Int → α), bif3 x a f = f e := by
  unfold okB at h
  cases hr : rgB x
  · exact ⟨3, fun a f => by unfold bif3; rw [hr]; rfl⟩
  · cases hi : inB x
    · exact ⟨8, fun a f => by unfold bif3; rw [hr, hi]; rfl⟩
    · rw [hr, hi] at h; cases h
theorem eA (M : Int) (x y : N) (v : Value) (hv : (twoT x y (x.sum y)).get = some v) : EvF Tryz.prog (orcL LG) (Sg1 M) 8 [N.v x, N.v y] v := by
  unfold twoT at hv
  simp only [okT_get] at hv
  have start : ∀ (w : Value), plain w = true → EvP Tryz.prog (orcL LG) (Sg1 M) Value 3 0 [qA 0, qA 1, qA 2, qA 3, qA 4, .block 0 (.loop (BA 0)), .block 2 (.loop (BA 1)), qA 7, qA 8] (N.v x :: N.v y :: List.replicate 65 undef) (Sg1 M) (fun e T S => (match e with | .exit _ => False | _ => True) ∧ outOf Tryz.prog 8 T S = some w) → EvF Tryz.prog (orcL LG) (Sg1 M) 8 [N.v x, N.v y] w := by
    intro w hp h
    refine EvF.of_body hp ?_
    rw [tmpsA]
    show Ev Tryz.prog (orcL LG) (Sg1 M) Value 3 _ _ _ _
    refine Ev.of_pieces ?_
    rw [show flatC (bodyOf Tryz.prog 8) = _ from LA_eq]
    exact h
  cases hx : okB x with
  | false =>
    obtain ⟨e, he⟩ := bif3_bad hx
    rw [he] at hv
    cases hv
    exact start _ rfl (EvP.stop (fun fs k => (headA M fs x y _ k).trans (he _ _)) ⟨trivial, outA x y O e _ _ _ _ _ _ _⟩)
  | true =>
    rw [bif3_ok hx] at hv
    cases hy : okB y with
    | false =>
      obtain ⟨e, he⟩ := bif3_bad hy
      rw [he] at hv
      cases hv
      exact start _ rfl (EvP.stop (fun fs k => (headA M fs x y _ k).trans ((bif3_ok hx).trans (he _ _))) ⟨trivial, outA x y O e _ _ _ _ _ _ _⟩)
    | true =>
      rw [bif3_ok hy, fitT_get] at hv
      cases hv
      obtain ⟨x0, x1, x2⟩ := (okB_iff x).1 hx
      obtain ⟨y0, y1, y2⟩ := (okB_iff y).1 hy
      have nx := N.nf_k x0
      have ny := N.nf_k y0
      refine start _ rfl (EvP.run (fun fs k => (headA M fs x y _ k).trans ((bif3_ok hx).trans ((bif3_ok hy).trans ((condT (symN_of hx)).trans (condT (symN_of hy)))))) ?_)
      refine EvP.step (Ev.block ((loopA1 M x y x.nf y.nf (max x.nf.k y.nf.k) x2.nf nx.1 rfl (by omega) _ rfl).mono ?_))
      rintro e T S ⟨rfl, ⟨L, hL, rfl⟩, rfl⟩
      have hk1 : (x.nf.lift (max x.nf.k y.nf.k)).k = max x.nf.k y.nf.k := N.lift_k (by omega)
      refine EvP.step (Ev.block ((loopA2 M x y _ y.nf (max x.nf.k y.nf.k) y2.nf ny.1 hk1.symm (by omega) (by omega) L hL).mono ?_))
      rintro e T S ⟨rfl, ⟨L, hL, rfl⟩, rfl⟩
      match L, hL with
      | v6 :: v7 :: v8 :: v9 :: v10 :: v11 :: v12 :: v13 :: v14 :: v15 :: v16 :: v17 :: v18 :: v19 :: v20 :: v21 :: v22 :: v23 :: v24 :: v25 :: v26 :: v27 :: v28 :: v29 :: v30 :: v31 :: v32 :: v33 :: v34 :: v35 :: v36 :: v37 :: v38 :: v39 :: v40 :: v41 :: v42 :: v43 :: v44 :: v45 :: v46 :: v47 :: v48 :: v49 :: v50 :: v51 :: v52 :: v53 :: v54 :: v55 :: v56 :: v57 :: v58 :: v59 :: v60 :: v61 :: v62 :: v63 :: v64 :: v65 :: v66 :: [], _ =>
      have a1 := N.lift_in x2.nf (K := max x.nf.k y.nf.k) nx.1 (by omega)
      have a2 := N.lift_in y2.nf (K := max x.nf.k y.nf.k) ny.1 (by omega)
      have e1 : addW (x.nf.lift (max x.nf.k y.nf.k)) (y.nf.lift (max x.nf.k y.nf.k)) (x.nf.lift (max x.nf.k y.nf.k)).k = x.nf.sum y.nf := addW_eq a1 a2 rfl
      have e2 : (x.nf.sum y.nf).nf = (x.sum y).nf := N.nf_sum x0 y0 (by omega) (by omega) (by omega) (by omega) (by omega)
      have hs : symN (x.nf.sum y.nf) = true := by
        refine symN_fit ?_ (by rw [N.sum_k]; omega)
        obtain ⟨p1, p2, p3, p4, p5, p6, p7, p8⟩ := a1
        obtain ⟨q1, q2, q3, q4, q5, q6, q7, q8⟩ := a2
        constructor <;> simp only [N.sum, N.add] <;> omega
      unfold fitS
      cases ho : okB (x.sum y).nf with
      | true =>
        refine EvP.stop (fun fs k => (tailA M fs x y _ _ v6 v7 v8 v9 v10 v11 v12 v13 v14 v15 v16 v17 v18 v19 v20 v21 v22 v23 v24 v25 v26 v27 v28 v29 v30 v31 v32 v33 v34 v35 v36 v37 v38 v39 v40 v41 v42 v43 v44 v45 v46 v47 v48 v49 v50 v51 v52 v53 v54 v55 v56 v57 v58 v59 v60 v61 v62 v63 v64 v65 v66 k).trans ((condT (by rw [e1]; exact hs)).trans (condT (by rw [e1, e2]; exact ho)))) ⟨trivial, ?_⟩
        rw [e1, e2]
        exact outA x y _ 0 _ _ _ _ _ _ _
      | false =>
        refine EvP.stop (fun fs k => (tailA M fs x y _ _ v6 v7 v8 v9 v10 v11 v12 v13 v14 v15 v16 v17 v18 v19 v20 v21 v22 v23 v24 v25 v26 v27 v28 v29 v30 v31 v32 v33 v34 v35 v36 v37 v38 v39 v40 v41 v42 v43 v44 v45 v46 v47 v48 v49 v50 v51 v52 v53 v54 v55 v56 v57 v58 v59 v60 v61 v62 v63 v64 v65 v66 k).trans ((condT (by rw [e1]; exact hs)).trans (condF (by rw [e1, e2]; exact ho)))) ⟨trivial, ?_⟩
        exact outA x y O 8 _ _ _ _ _ _ _
theorem cAddR_ok (M : Int) : ConOk M (con2 8 fun x y => twoT x y (x.sum y)) := con2_ok (LG_ok M) fun x y v h => eA M x y v h
end Go.Proofs.YtihccnfaibiiiaaGreatDoor.R
