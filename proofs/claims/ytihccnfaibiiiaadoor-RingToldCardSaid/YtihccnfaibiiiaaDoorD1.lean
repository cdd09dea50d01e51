/- Ring: sums and products of numbers at work. -/
import Derived.Test.YtihccnfaibiiiaaDoorC4
import Derived.Test.YtihccnfaibiiiaaDoorRM3
namespace Go.Proofs.YtihccnfaibiiiaaDoor.R
open Go Go.Proofs.XX.Vm Go.Proofs.XX.Rm Go.RowKit
set_option maxRecDepth 100000

def p3 : Value := .pointer (some ⟨5, 0, none⟩)
def p24 : Value := .pointer (some ⟨4, 4, none⟩)
def addW (x y : N) (K : Int) : N := ⟨w (x.a + y.a), w (x.b + y.b), w (x.c + y.c), w (x.d + y.d), K⟩
noncomputable abbrev qS (i : Nat) : Code := nthC (pcs Tryd.prog 66) i
noncomputable abbrev BS (i : Nat) : Code := loopOf Tryd.prog 66 i
theorem LS_eq : pcs Tryd.prog 66 = [qS 0, qS 1, .block 0 (.loop (BS 0)), .block 2 (.loop (BS 1)), qS 4, qS 5] := by kernel_rfl
theorem headS {α : Type} (M : Int) (fs : Nat → Nat) (x0 y0 : N) (l : List Code) (k : Kont α) :
    evP Tryd.prog (orcL []) (Sg1 M) 3 fs 0 (qS 0 :: qS 1 :: l) (N.v x0 :: N.v y0 :: List.replicate 33 undef) (Sg1 M) k =
    evP Tryd.prog (orcL []) (Sg1 M) 3 fs 2 l [N.v x0, N.v y0, p1, p2, p3, .int .i64 (mx x0.k y0.k), p1, p14, (.int .i64 x0.k), p2, p24, (.int .i64 y0.k), (.int .i64 (mx x0.k y0.k)), undef, undef, undef, undef, undef, undef, undef, undef, undef, undef, undef, undef, undef, undef, undef, undef, undef, undef, undef, undef, undef, undef] [uni, pow, mxl M, wb x0, wb y0, wb O] k := by kernel_rfl
theorem roundS1 {α : Type} (M : Int) (n : Nat) (x0 y0 x y : N) (K : Int) (v6 v7 v8 v9 v10 v11 v12 v13 v14 v15 v16 v17 v18 v19 v20 v21 v22 v23 v24 v25 v26 v27 v28 v29 v30 v31 v32 v33 v34 : Value) (k : Kont α) :
    evCodeK Tryd.prog (orcL []) (Sg1 M) (n + 60) 3 (BS 0) [N.v x0, N.v y0, p1, p2, p3, .int .i64 K, v6, v7, v8, v9, v10, v11, v12, v13, v14, v15, v16, v17, v18, v19, v20, v21, v22, v23, v24, v25, v26, v27, v28, v29, v30, v31, v32, v33, v34] [uni, pow, mxl M, wb x, wb y, wb O] k =
    bif decide (x.k < K) then k .normal [N.v x0, N.v y0, p1, p2, p3, .int .i64 K, v6, v7, v8, v9, v10, v11, v12, p1, p14, (.int .i64 x.k), (.int .i64 K), (.bool true), undef, v19, v20, v21, v22, v23, v24, v25, v26, v27, v28, v29, v30, v31, v32, v33, v34] [uni, pow, mxl M, wb (N.upW x), wb y, wb O] else k (.exit 0) [N.v x0, N.v y0, p1, p2, p3, .int .i64 K, v6, v7, v8, v9, v10, v11, v12, p1, p14, (.int .i64 x.k), (.int .i64 K), (.bool false), v18, v19, v20, v21, v22, v23, v24, v25, v26, v27, v28, v29, v30, v31, v32, v33, v34] [uni, pow, mxl M, wb x, wb y, wb O] := by kernel_rfl
theorem roundS2 {α : Type} (M : Int) (n : Nat) (x0 y0 x y : N) (K : Int) (v6 v7 v8 v9 v10 v11 v12 v13 v14 v15 v16 v17 v18 v19 v20 v21 v22 v23 v24 v25 v26 v27 v28 v29 v30 v31 v32 v33 v34 : Value) (k : Kont α) :
    evCodeK Tryd.prog (orcL []) (Sg1 M) (n + 60) 3 (BS 1) [N.v x0, N.v y0, p1, p2, p3, .int .i64 K, v6, v7, v8, v9, v10, v11, v12, v13, v14, v15, v16, v17, v18, v19, v20, v21, v22, v23, v24, v25, v26, v27, v28, v29, v30, v31, v32, v33, v34] [uni, pow, mxl M, wb x, wb y, wb O] k =
    bif decide (y.k < K) then k .normal [N.v x0, N.v y0, p1, p2, p3, .int .i64 K, v6, v7, v8, v9, v10, v11, v12, v13, v14, v15, v16, v17, v18, p2, p24, (.int .i64 y.k), (.int .i64 K), (.bool true), undef, v25, v26, v27, v28, v29, v30, v31, v32, v33, v34] [uni, pow, mxl M, wb x, wb (N.upW y), wb O] else k (.exit 2) [N.v x0, N.v y0, p1, p2, p3, .int .i64 K, v6, v7, v8, v9, v10, v11, v12, v13, v14, v15, v16, v17, v18, p2, p24, (.int .i64 y.k), (.int .i64 K), (.bool false), v24, v25, v26, v27, v28, v29, v30, v31, v32, v33, v34] [uni, pow, mxl M, wb x, wb y, wb O] := by kernel_rfl
theorem tailS {α : Type} (M : Int) (fs : Nat → Nat) (x0 y0 x y : N) (K : Int) (v6 v7 v8 v9 v10 v11 v12 v13 v14 v15 v16 v17 v18 v19 v20 v21 v22 v23 v24 v25 v26 v27 v28 v29 v30 v31 v32 v33 v34 : Value) (k : Kont α) :
    evP Tryd.prog (orcL []) (Sg1 M) 3 fs 4 [qS 4, qS 5] [N.v x0, N.v y0, p1, p2, p3, .int .i64 K, v6, v7, v8, v9, v10, v11, v12, v13, v14, v15, v16, v17, v18, v19, v20, v21, v22, v23, v24, v25, v26, v27, v28, v29, v30, v31, v32, v33, v34] [uni, pow, mxl M, wb x, wb y, wb O] k =
    k .ret [N.v x0, N.v y0, p1, p2, p3, .int .i64 K, v6, v7, v8, v9, v10, v11, v12, v13, v14, v15, v16, v17, v18, v19, v20, v21, v22, v23, v24, p1, (N.v x), (N.cv x), p2, (N.v y), (N.cv y), (N.cv (addW x y K)), (.int .i64 K), (N.v (addW x y K)), (N.v (addW x y K))] [uni, pow, mxl M, wb x, wb y, wb (addW x y K)] := by kernel_rfl

theorem upW_eq {x : N} (h : x.In (2 ^ 60)) (h0 : 0 ≤ x.k) (h1 : x.k ≤ 60) : N.upW x = x.up := by
  obtain ⟨a1, a2, b1, b2, c1, c2, d1, d2⟩ := h
  have e1 : w (x.b - x.d) = x.b - x.d := w_eq _ (by omega) (by omega)
  have e2 : w (x.a + x.c) = x.a + x.c := w_eq _ (by omega) (by omega)
  have e3 : w (x.b + x.d) = x.b + x.d := w_eq _ (by omega) (by omega)
  have e4 : w (x.c - x.a) = x.c - x.a := w_eq _ (by omega) (by omega)
  have e5 : w (x.k + 1) = x.k + 1 := w_eq _ (by omega) (by omega)
  ext
  · exact e1
  · exact e2
  · exact e3
  · exact e4
  · exact e5
theorem loopS1 (M : Int) (x0 y0 x y : N) (K : Int) (h : x.In 1073741824) (h0 : 0 ≤ x.k) (h1 : x.k ≤ K) (h2 : K ≤ 60) (L : List Value) (hL : L.length = 29) :
    Ev Tryd.prog (orcL []) (Sg1 M) Value 3 (.loop (BS 0)) (N.v x0 :: N.v y0 :: p1 :: p2 :: p3 :: .int .i64 K :: L) [uni, pow, mxl M, wb x, wb y, wb O] fun e T S => e = .exit 0 ∧ (∃ L : List Value, L.length = 29 ∧ T = N.v x0 :: N.v y0 :: p1 :: p2 :: p3 :: .int .i64 K :: L) ∧ S = [uni, pow, mxl M, wb (x.lift K), wb y, wb O] := by
  refine Ev.loop (fun m T S => ∃ (L : List Value) (j : Nat), L.length = 29 ∧ T = N.v x0 :: N.v y0 :: p1 :: p2 :: p3 :: .int .i64 K :: L ∧ S = [uni, pow, mxl M, wb (x.ups j), wb y, wb O] ∧ x.k + j + m = K) ?_ (K - x.k).toNat _ _ ⟨L, 0, hL, rfl, rfl, by omega⟩
  rintro m T S ⟨L, j, hL, rfl, rfl, hm⟩
  match L, hL with
  | [v6, v7, v8, v9, v10, v11, v12, v13, v14, v15, v16, v17, v18, v19, v20, v21, v22, v23, v24, v25, v26, v27, v28, v29, v30, v31, v32, v33, v34], _ =>
  have hk : (x.ups j).k = x.k + j := N.ups_k x j
  cases m with
  | zero =>
    refine Ev.of_eq 60 (fun n k => (roundS1 M n x0 y0 (x.ups j) y K v6 v7 v8 v9 v10 v11 v12 v13 v14 v15 v16 v17 v18 v19 v20 v21 v22 v23 v24 v25 v26 v27 v28 v29 v30 v31 v32 v33 v34 k).trans (condF (decide_eq_false (by omega)))) ?_
    exact ⟨rfl, ⟨_, rfl, rfl⟩, by unfold N.lift; rw [show (K - x.k).toNat = j by omega]⟩
  | succ m =>
    refine Ev.of_eq 60 (fun n k => (roundS1 M n x0 y0 (x.ups j) y K v6 v7 v8 v9 v10 v11 v12 v13 v14 v15 v16 v17 v18 v19 v20 v21 v22 v23 v24 v25 v26 v27 v28 v29 v30 v31 v32 v33 v34 k).trans (condT (decide_eq_true (by omega)))) ?_
    refine ⟨m, Nat.lt_succ_self m, _, j + 1, rfl, rfl, ?_, by omega⟩
    rw [upW_eq (N.In.ups60 (h.mono (by omega)) (by omega)) (by omega) (by omega)]; rfl
theorem loopS2 (M : Int) (x0 y0 x y : N) (K : Int) (h : y.In 1073741824) (h0 : 0 ≤ y.k) (h1 : y.k ≤ K) (h2 : K ≤ 60) (L : List Value) (hL : L.length = 29) :
    Ev Tryd.prog (orcL []) (Sg1 M) Value 3 (.loop (BS 1)) (N.v x0 :: N.v y0 :: p1 :: p2 :: p3 :: .int .i64 K :: L) [uni, pow, mxl M, wb x, wb y, wb O] fun e T S => e = .exit 2 ∧ (∃ L : List Value, L.length = 29 ∧ T = N.v x0 :: N.v y0 :: p1 :: p2 :: p3 :: .int .i64 K :: L) ∧ S = [uni, pow, mxl M, wb x, wb (y.lift K), wb O] := by
  refine Ev.loop (fun m T S => ∃ (L : List Value) (j : Nat), L.length = 29 ∧ T = N.v x0 :: N.v y0 :: p1 :: p2 :: p3 :: .int .i64 K :: L ∧ S = [uni, pow, mxl M, wb x, wb (y.ups j), wb O] ∧ y.k + j + m = K) ?_ (K - y.k).toNat _ _ ⟨L, 0, hL, rfl, rfl, by omega⟩
  rintro m T S ⟨L, j, hL, rfl, rfl, hm⟩
  match L, hL with
  | [v6, v7, v8, v9, v10, v11, v12, v13, v14, v15, v16, v17, v18, v19, v20, v21, v22, v23, v24, v25, v26, v27, v28, v29, v30, v31, v32, v33, v34], _ =>
  have hk : (y.ups j).k = y.k + j := N.ups_k y j
  cases m with
  | zero =>
    refine Ev.of_eq 60 (fun n k => (roundS2 M n x0 y0 x (y.ups j) K v6 v7 v8 v9 v10 v11 v12 v13 v14 v15 v16 v17 v18 v19 v20 v21 v22 v23 v24 v25 v26 v27 v28 v29 v30 v31 v32 v33 v34 k).trans (condF (decide_eq_false (by omega)))) ?_
    exact ⟨rfl, ⟨_, rfl, rfl⟩, by unfold N.lift; rw [show (K - y.k).toNat = j by omega]⟩
  | succ m =>
    refine Ev.of_eq 60 (fun n k => (roundS2 M n x0 y0 x (y.ups j) K v6 v7 v8 v9 v10 v11 v12 v13 v14 v15 v16 v17 v18 v19 v20 v21 v22 v23 v24 v25 v26 v27 v28 v29 v30 v31 v32 v33 v34 k).trans (condT (decide_eq_true (by omega)))) ?_
    refine ⟨m, Nat.lt_succ_self m, _, j + 1, rfl, rfl, ?_, by omega⟩
    rw [upW_eq (N.In.ups60 (h.mono (by omega)) (by omega)) (by omega) (by omega)]; rfl
theorem tmpsS (x y : N) : tmps0Of Tryd.prog 66 [N.v x, N.v y] = N.v x :: N.v y :: List.replicate 33 undef := by kernel_rfl
theorem outS (x y z : N) (L : List Value) (b0 b1 b2 b3 b4 : Blk) : outOf Tryd.prog 66 (N.v x :: N.v y :: p1 :: p2 :: p3 :: L) [b0, b1, b2, b3, b4, wb z] = some (N.v z) := by kernel_rfl
theorem mx_eq (a b : Int) : mx a b = max a b := by unfold mx; split <;> omega
theorem addW_eq {x y : N} {K : Int} (hx : x.In (2 ^ 60)) (hy : y.In (2 ^ 60)) (hk : x.k = K) : addW x y K = x.add y := by
  obtain ⟨a1, a2, a3, a4, a5, a6, a7, a8⟩ := hx
  obtain ⟨b1, b2, b3, b4, b5, b6, b7, b8⟩ := hy
  have e1 : w (x.a + y.a) = x.a + y.a := w_eq _ (by omega) (by omega)
  have e2 : w (x.b + y.b) = x.b + y.b := w_eq _ (by omega) (by omega)
  have e3 : w (x.c + y.c) = x.c + y.c := w_eq _ (by omega) (by omega)
  have e4 : w (x.d + y.d) = x.d + y.d := w_eq _ (by omega) (by omega)
  ext
  · exact e1
  · exact e2
  · exact e3
  · exact e4
  · exact hk.symm
theorem eS (M : Int) (x y : N) (hx : okB x = true) (hy : okB y = true) : EvF Tryd.prog (orcL []) (Sg1 M) 66 [N.v x, N.v y] (N.v (x.sum y)) := by
  obtain ⟨x0, x1, x2⟩ := (okB_iff x).1 hx
  obtain ⟨y0, y1, y2⟩ := (okB_iff y).1 hy
  refine EvF.of_body rfl ?_
  rw [tmpsS]
  show Ev Tryd.prog (orcL []) (Sg1 M) Value 3 _ _ _ _
  refine Ev.of_pieces ?_
  rw [show flatC (bodyOf Tryd.prog 66) = _ from LS_eq]
  refine EvP.run (fun fs k => headS M fs x y _ k) ?_
  rw [mx_eq]
  refine EvP.step (Ev.block ((loopS1 M x y x y (max x.k y.k) x2 x0 (by omega) (by omega) _ rfl).mono ?_))
  rintro e T S ⟨rfl, ⟨L, hL, rfl⟩, rfl⟩
  refine EvP.step (Ev.block ((loopS2 M x y _ y (max x.k y.k) y2 y0 (by omega) (by omega) L hL).mono ?_))
  rintro e T S ⟨rfl, ⟨L, hL, rfl⟩, rfl⟩
  match L, hL with
  | [v6, v7, v8, v9, v10, v11, v12, v13, v14, v15, v16, v17, v18, v19, v20, v21, v22, v23, v24, v25, v26, v27, v28, v29, v30, v31, v32, v33, v34], _ =>
  refine EvP.stop (fun fs k => tailS M fs x y _ _ _ v6 v7 v8 v9 v10 v11 v12 v13 v14 v15 v16 v17 v18 v19 v20 v21 v22 v23 v24 v25 v26 v27 v28 v29 v30 v31 v32 v33 v34 k) ⟨trivial, ?_⟩
  have e : addW (x.lift (max x.k y.k)) (y.lift (max x.k y.k)) (max x.k y.k) = x.sum y := addW_eq (N.lift_in x2 x0 (by omega)) (N.lift_in y2 y0 (by omega)) (N.lift_k (by omega))
  rw [e]
  exact outS x y _ _ _ _ _ _ _
def okB2 (x y : N) : Bool := okB x && okB y
theorem okB2_iff {x y : N} (h : okB2 x y = true) : okB x = true ∧ okB y = true := by simpa [okB2] using h
theorem cSum_ok (M : Int) : ConOk M (con2 66 fun x y => .ite (okB2 x y) (.val (N.v (x.sum y))) .no) := con2_ok nil_ok fun x y v h => by
  obtain ⟨h0, rfl⟩ := OT.pre h
  obtain ⟨h1, h2⟩ := okB2_iff h0
  exact eS M x y h1 h2
/-- The least form of a number at work that is not too large. -/
noncomputable def fitB (x : N) : Bool := @decide (x.Fit ∧ 0 ≤ x.k ∧ x.k ≤ 4611686018427387904) (Classical.propDecidable _)
theorem fitB_iff {x : N} : fitB x = true ↔ x.Fit ∧ 0 ≤ x.k ∧ x.k ≤ 4611686018427387904 := by unfold fitB; simp
def fitT (y : N) : OT := .ite (okB y) (.val (resV (y, 0))) (.val (resV (O, 8)))
theorem fitT_get (y : N) : (fitT y).get = some (resV (fitS y)) := by unfold fitT fitS; simp only [OT.get]; cases okB y <;> rfl
noncomputable def cLsF : Con := con1 46 fun x => .ite (fitB x) (fitT x.nf) .no
theorem cLsF_ok (M : Int) : ConOk M cLsF := con1_ok (L1_ok M) fun x v h => by
  simp only [OT.get] at h
  cases hf : fitB x with
  | false => rw [hf] at h; cases h
  | true =>
    obtain ⟨h1, h2, h3⟩ := fitB_iff.1 hf
    rw [hf, cond_true, fitT_get, ← leastW_eq h1 h2 (by omega)] at h
    cases h
    exact e46 M x (by omega) (by omega)
end Go.Proofs.YtihccnfaibiiiaaDoor.R
