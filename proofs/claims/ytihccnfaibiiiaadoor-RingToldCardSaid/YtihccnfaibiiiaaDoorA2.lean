/- Ring: the least form. -/
import Derived.Test.YtihccnfaibiiiaaDoorW3
import Derived.Test.YtihccnfaibiiiaaDoorA1
namespace Go.Proofs.YtihccnfaibiiiaaDoor.R
open Go Go.Proofs.XX.Vm Go.Proofs.XX.Rm
set_option maxRecDepth 100000



noncomputable def L46 : List Code := pcs Tryd.prog 46
noncomputable abbrev q46 (i : Nat) : Code := nthC (pcs Tryd.prog 46) i
noncomputable abbrev B46 (i : Nat) : Code := loopOf Tryd.prog 46 i
theorem L46_eq : pcs Tryd.prog 46 = [q46 0, q46 1, q46 2, .block 0 (.loop (B46 0)), q46 4, .block 2 (.loop (B46 1)), q46 6, q46 7, q46 8, q46 9] := by kernel_rfl

/-- The number at work, and the result. -/
def wb (x : N) : Blk := ⟨[.int .i64 x.a, .int .i64 x.b, .int .i64 x.c, .int .i64 x.d, .int .i64 x.k], 60, false, none⟩
def rb (x : N) : Blk := ⟨[.int .i64 x.a, .int .i64 x.b, .int .i64 x.c, .int .i64 x.d, .int .i64 x.k], 23, false, none⟩
def z0 (x : N) : Bool := (x.a == 0) && ((x.b == 0) && ((x.c == 0) && ((x.d == 0) && true)))
def p1 : Value := .pointer (some ⟨3, 0, none⟩)
def p2 : Value := .pointer (some ⟨4, 0, none⟩)
def hv : Value := .func (.func 84) #[p1] #[]
def T46 (x : N) (v4 v5 v6 v7 v8 v9 v10 v11 v12 v13 v14 v15 v16 v17 v18 v19 v20 v21 v22 v23 v24 v25 v26 v27 v28 v29 v30 v31 : Value) : List Value :=
  [N.v x, p1, p2, .int .i64 0, v4, v5, v6, v7, v8, v9, v10, v11, v12, v13, v14, v15, v16, v17, v18, v19, v20, v21, v22, v23, v24, v25, v26, v27, v28, v29, v30, v31]
theorem head46 {α : Type} (M : Int) (fs : Nat → Nat) (x : N) (l : List Code) (k : Kont α) :
    evP Tryd.prog (orcL L1) (Sg1 M) 3 fs 0 (q46 0 :: q46 1 :: q46 2 :: l) (N.v x :: List.replicate 31 undef) (Sg1 M) k =
    bif z0 x then k .ret (T46 x undef p1 (N.v x) (N.cv x) (N.cv O) (.bool true) (N.v O) undef undef undef undef undef undef undef undef undef undef undef undef undef undef undef undef undef undef undef undef undef) [uni, pow, mxl M, wb x, rb O]
    else evP Tryd.prog (orcL L1) (Sg1 M) 3 fs 3 l (T46 x undef p1 (N.v x) (N.cv x) (N.cv O) (.bool false) undef undef undef undef undef undef undef undef undef undef undef undef undef undef undef undef undef undef undef undef undef undef) [uni, pow, mxl M, wb x, rb O] k := by kernel_rfl
def p14 : Value := .pointer (some ⟨3, 4, none⟩)
def wB (y : N) : Bool := withinB y.a y.b y.c y.d 1073741824
def N.upW (x : N) : N := ⟨w (x.b - x.d), w (x.a + x.c), w (x.b + x.d), w (x.c - x.a), w (x.k + 1)⟩
def N.dnW (x : N) : N := ⟨w ((w (x.b - x.d)).tdiv 2), w ((w (x.a + x.c)).tdiv 2), w ((w (x.b + x.d)).tdiv 2), w ((w (x.c - x.a)).tdiv 2), w (x.k - 1)⟩
theorem up46 {α : Type} (M : Int) (n : Nat) (x y : N) (R : Blk) (v4 v5 v6 v7 v8 v9 v10 v11 v12 v13 v14 v15 v16 v17 v18 v19 v20 v21 v22 v23 v24 v25 v26 v27 v28 v29 v30 v31 : Value) (k : Kont α) :
    evCodeK Tryd.prog (orcL L1) (Sg1 M) (n + 60) 3 (B46 0) (T46 x v4 v5 v6 v7 v8 v9 v10 v11 v12 v13 v14 v15 v16 v17 v18 v19 v20 v21 v22 v23 v24 v25 v26 v27 v28 v29 v30 v31) [uni, pow, mxl M, wb y, R] k =
    bif decide (y.k < 0) then (bif wB y then k .normal (T46 x v4 v5 v6 v7 v8 v9 v10 p1 p14 (.int .i64 y.k) (.bool (decide (y.k < 0))) (.bool true) p1 (N.v y) (N.cv y) (.bool (wB y)) (.bool true) undef v22 v23 v24 v25 v26 v27 v28 v29 v30 v31) [uni, pow, mxl M, wb (N.upW y), R] else k (.exit 0) (T46 x v4 v5 v6 v7 v8 v9 v10 p1 p14 (.int .i64 y.k) (.bool (decide (y.k < 0))) (.bool true) p1 (N.v y) (N.cv y) (.bool (wB y)) (.bool false) v21 v22 v23 v24 v25 v26 v27 v28 v29 v30 v31) [uni, pow, mxl M, wb y, R])
    else k (.exit 0) (T46 x v4 v5 v6 v7 v8 v9 v10 p1 p14 (.int .i64 y.k) (.bool (decide (y.k < 0))) (.bool false) undef undef undef undef (.bool false) v21 v22 v23 v24 v25 v26 v27 v28 v29 v30 v31) [uni, pow, mxl M, wb y, R] := by kernel_rfl
def rem2 (x y : Int) : Int := (w (x - y)).tmod 2
theorem dn46 {α : Type} (M : Int) (n : Nat) (x y : N) (R : Blk) (v5 v6 v7 v8 v9 v10 v11 v12 v13 v14 v15 v16 v17 v18 v19 v20 v21 v22 v23 v24 v25 v26 v27 v28 v29 v30 v31 : Value) (k : Kont α) :
    evCodeK Tryd.prog (orcL L1) (Sg1 M) (n + 60) 3 (B46 1) (T46 x hv v5 v6 v7 v8 v9 v10 v11 v12 v13 v14 v15 v16 v17 v18 v19 v20 v21 v22 v23 v24 v25 v26 v27 v28 v29 v30 v31) [uni, pow, mxl M, wb y, R] k =
    bif decide (y.k ≤ 0) then k (.exit 2) (T46 x hv v5 v6 v7 v8 v9 v10 v11 v12 v13 v14 v15 v16 v17 v18 v19 v20 v21 v22 hv (.bool false) v25 v26 v27 v28 v29 v30 v31) [uni, pow, mxl M, wb y, R]
    else bif rem2 y.a y.c != 0 then k (.exit 2) (T46 x hv v5 v6 v7 v8 v9 v10 v11 v12 v13 v14 v15 v16 v17 v18 v19 v20 v21 v22 hv (.bool false) v25 v26 v27 v28 v29 v30 v31) [uni, pow, mxl M, wb y, R]
    else bif rem2 y.b y.d != 0 then k (.exit 2) (T46 x hv v5 v6 v7 v8 v9 v10 v11 v12 v13 v14 v15 v16 v17 v18 v19 v20 v21 v22 hv (.bool false) v25 v26 v27 v28 v29 v30 v31) [uni, pow, mxl M, wb y, R]
    else k .normal (T46 x hv v5 v6 v7 v8 v9 v10 v11 v12 v13 v14 v15 v16 v17 v18 v19 v20 v21 v22 hv (.bool true) v25 v26 v27 v28 v29 v30 v31) [uni, pow, mxl M, wb (N.dnW y), R] := by kernel_rfl

theorem mid46 {α : Type} (M : Int) (fs : Nat → Nat) (x y : N) (R : Blk) (v4 v5 v6 v7 v8 v9 v10 v11 v12 v13 v14 v15 v16 v17 v18 v19 v20 v21 v22 v23 v24 v25 v26 v27 v28 v29 v30 v31 : Value) (l : List Code) (k : Kont α) :
    evP Tryd.prog (orcL L1) (Sg1 M) 3 fs 4 (q46 4 :: l) (T46 x v4 v5 v6 v7 v8 v9 v10 v11 v12 v13 v14 v15 v16 v17 v18 v19 v20 v21 v22 v23 v24 v25 v26 v27 v28 v29 v30 v31) [uni, pow, mxl M, wb y, R] k = evP Tryd.prog (orcL L1) (Sg1 M) 3 fs 5 l (T46 x hv v5 v6 v7 v8 v9 v10 v11 v12 v13 v14 v15 v16 v17 v18 v19 v20 v21 hv v23 v24 v25 v26 v27 v28 v29 v30 v31) [uni, pow, mxl M, wb y, R] k := by kernel_rfl
theorem tail46 {α : Type} (M : Int) (fs : Nat → Nat) (x y : N) (R : N) (v5 v6 v7 v8 v9 v10 v11 v12 v13 v14 v15 v16 v17 v18 v19 v20 v21 v22 v23 v24 v25 v26 v27 v28 v29 v30 v31 : Value) (k : Kont α) :
    evP Tryd.prog (orcL L1) (Sg1 M) 3 fs 6 [q46 6, q46 7, q46 8, q46 9] (T46 x hv v5 v6 v7 v8 v9 v10 v11 v12 v13 v14 v15 v16 v17 v18 v19 v20 v21 v22 v23 v24 v25 v26 v27 v28 v29 v30 v31) [uni, pow, mxl M, wb y, rb R] k =
    bif rgB y then (bif inB y then k .ret ((T46 x hv v5 v6 v7 v8 v9 v10 v11 v12 v13 v14 v15 v16 v17 v18 v19 v20 v21 v22 v23 v24 p1 (N.v y) (.int .i64 0) (.bool false) v29 p1 (N.v y)).set 3 (.int .i64 0)) [uni, pow, mxl M, wb y, rb y] else k .ret ((T46 x hv v5 v6 v7 v8 v9 v10 v11 v12 v13 v14 v15 v16 v17 v18 v19 v20 v21 v22 v23 v24 p1 (N.v y) (.int .i64 8) (.bool true) (N.v O) v30 v31).set 3 (.int .i64 8)) [uni, pow, mxl M, wb y, rb O])
    else k .ret ((T46 x hv v5 v6 v7 v8 v9 v10 v11 v12 v13 v14 v15 v16 v17 v18 v19 v20 v21 v22 v23 v24 p1 (N.v y) (.int .i64 3) (.bool true) (N.v O) v30 v31).set 3 (.int .i64 8)) [uni, pow, mxl M, wb y, rb O] := by kernel_rfl

def N.upWL : Nat → N → N
  | 0, x => x
  | n + 1, x => bif decide (x.k < 0) && wB x then upWL n (N.upW x) else x
def N.goesW (y : N) : Bool := !(decide (y.k ≤ 0)) && (!(rem2 y.a y.c != 0) && !(rem2 y.b y.d != 0))
def N.dnWL : Nat → N → N
  | 0, x => x
  | n + 1, x => bif N.goesW x then dnWL n (N.dnW x) else x
/-- The number at work at the loops' ends. -/
def midW (x : N) : N := N.upWL (-x.k).toNat x
def endW (x : N) : N := N.dnWL (midW x).k.toNat (midW x)
def leastW (x : N) : N × Int := bif z0 x then (O, 0) else bif rgB (endW x) then (bif inB (endW x) then (endW x, 0) else (O, 8)) else (O, 8)
def resV (r : N × Int) : Value := .tuple #[N.v r.1, .int .i64 r.2]
theorem w_id {n : Int} (h1 : -9223372036854775808 ≤ n) (h2 : n ≤ 9223372036854775807) : w n = n := w_eq n h1 h2

theorem loop1 (M : Int) (x : N) (h1 : -9223372036854775808 ≤ x.k) (h2 : x.k ≤ 9223372036854775807) (L : List Value) (hL : L.length = 28) :
    Ev Tryd.prog (orcL L1) (Sg1 M) Value 3 (.loop (B46 0)) (N.v x :: p1 :: p2 :: .int .i64 0 :: L) [uni, pow, mxl M, wb x, rb O] fun e T S => e = .exit 0 ∧ (∃ L : List Value, L.length = 28 ∧ T = N.v x :: p1 :: p2 :: .int .i64 0 :: L) ∧ S = [uni, pow, mxl M, wb (midW x), rb O] ∧ -9223372036854775808 ≤ (midW x).k ∧ (midW x).k ≤ 9223372036854775807 := by
  refine Ev.loop (fun m T S => ∃ (L : List Value) (y : N), L.length = 28 ∧ T = N.v x :: p1 :: p2 :: .int .i64 0 :: L ∧ S = [uni, pow, mxl M, wb y, rb O] ∧ m = (-y.k).toNat ∧ N.upWL m y = midW x ∧ -9223372036854775808 ≤ y.k ∧ y.k ≤ 9223372036854775807) ?_ (-x.k).toNat _ _ ⟨L, x, hL, rfl, rfl, rfl, rfl, h1, h2⟩
  rintro m T S ⟨L, y, hL, rfl, rfl, rfl, hm, h1, h2⟩
  match L, hL with
  | [v4, v5, v6, v7, v8, v9, v10, v11, v12, v13, v14, v15, v16, v17, v18, v19, v20, v21, v22, v23, v24, v25, v26, v27, v28, v29, v30, v31], _ =>
  by_cases hk : y.k < 0
  · obtain ⟨n, hn⟩ : ∃ n, (-y.k).toNat = n + 1 := ⟨(-y.k).toNat - 1, by omega⟩
    rw [hn] at hm ⊢
    simp only [N.upWL, hk, decide_true, Bool.true_and] at hm
    cases hw : wB y with
    | true =>
      rw [hw] at hm
      simp only [cond_true] at hm
      refine Ev.of_eq 60 (fun n k => (up46 M n x y _ v4 v5 v6 v7 v8 v9 v10 v11 v12 v13 v14 v15 v16 v17 v18 v19 v20 v21 v22 v23 v24 v25 v26 v27 v28 v29 v30 v31 k).trans (by rw [hw, decide_eq_true hk]; rfl)) ?_
      have hk2 : (N.upW y).k = y.k + 1 := w_id (by omega) (by omega)
      exact ⟨n, Nat.lt_succ_self n, _, N.upW y, rfl, rfl, rfl, by omega, hm, by omega, by omega⟩
    | false =>
      rw [hw] at hm
      simp only [cond_false] at hm
      subst hm
      refine Ev.of_eq 60 (fun n k => (up46 M n x _ _ v4 v5 v6 v7 v8 v9 v10 v11 v12 v13 v14 v15 v16 v17 v18 v19 v20 v21 v22 v23 v24 v25 v26 v27 v28 v29 v30 v31 k).trans (by rw [hw, decide_eq_true hk]; rfl)) ?_
      exact ⟨rfl, ⟨_, rfl, rfl⟩, rfl, h1, h2⟩
  · have h0 : (-y.k).toNat = 0 := by omega
    rw [h0] at hm
    simp only [N.upWL] at hm
    subst hm
    refine Ev.of_eq 60 (fun n k => (up46 M n x _ _ v4 v5 v6 v7 v8 v9 v10 v11 v12 v13 v14 v15 v16 v17 v18 v19 v20 v21 v22 v23 v24 v25 v26 v27 v28 v29 v30 v31 k).trans (by rw [decide_eq_false hk]; rfl)) ?_
    exact ⟨rfl, ⟨_, rfl, rfl⟩, rfl, h1, h2⟩

theorem loop2 (M : Int) (x y0 : N) (h2 : y0.k ≤ 9223372036854775807) (L : List Value) (hL : L.length = 27) :
    Ev Tryd.prog (orcL L1) (Sg1 M) Value 3 (.loop (B46 1)) (N.v x :: p1 :: p2 :: .int .i64 0 :: hv :: L) [uni, pow, mxl M, wb y0, rb O] fun e T S => e = .exit 2 ∧ (∃ L : List Value, L.length = 27 ∧ T = N.v x :: p1 :: p2 :: .int .i64 0 :: hv :: L) ∧ S = [uni, pow, mxl M, wb (N.dnWL y0.k.toNat y0), rb O] := by
  refine Ev.loop (fun m T S => ∃ (L : List Value) (y : N), L.length = 27 ∧ T = N.v x :: p1 :: p2 :: .int .i64 0 :: hv :: L ∧ S = [uni, pow, mxl M, wb y, rb O] ∧ m = y.k.toNat ∧ N.dnWL m y = N.dnWL y0.k.toNat y0 ∧ y.k ≤ 9223372036854775807) ?_ y0.k.toNat _ _ ⟨L, y0, hL, rfl, rfl, rfl, rfl, h2⟩
  rintro m T S ⟨L, y, hL, rfl, rfl, rfl, hm, h2⟩
  match L, hL with
  | [v5, v6, v7, v8, v9, v10, v11, v12, v13, v14, v15, v16, v17, v18, v19, v20, v21, v22, v23, v24, v25, v26, v27, v28, v29, v30, v31], _ =>
  by_cases hk : y.k ≤ 0
  · have h0 : y.k.toNat = 0 := by omega
    rw [h0] at hm
    simp only [N.dnWL] at hm
    subst hm
    refine Ev.of_eq 60 (fun n k => (dn46 M n x _ _ v5 v6 v7 v8 v9 v10 v11 v12 v13 v14 v15 v16 v17 v18 v19 v20 v21 v22 v23 v24 v25 v26 v27 v28 v29 v30 v31 k).trans (by rw [decide_eq_true hk]; rfl)) ?_
    exact ⟨rfl, ⟨_, rfl, rfl⟩, rfl⟩
  · obtain ⟨n, hn⟩ : ∃ n, y.k.toNat = n + 1 := ⟨y.k.toNat - 1, by omega⟩
    rw [hn] at hm ⊢
    simp only [N.dnWL, N.goesW, hk, decide_false, Bool.not_false, Bool.true_and] at hm
    cases ha : (rem2 y.a y.c != 0) with
    | true =>
      rw [ha] at hm
      simp only [Bool.not_true, Bool.false_and, cond_false] at hm
      subst hm
      refine Ev.of_eq 60 (fun n k => (dn46 M n x _ _ v5 v6 v7 v8 v9 v10 v11 v12 v13 v14 v15 v16 v17 v18 v19 v20 v21 v22 v23 v24 v25 v26 v27 v28 v29 v30 v31 k).trans (by rw [decide_eq_false hk, ha]; rfl)) ?_
      exact ⟨rfl, ⟨_, rfl, rfl⟩, rfl⟩
    | false =>
      cases hb : (rem2 y.b y.d != 0) with
      | true =>
        rw [ha, hb] at hm
        simp only [Bool.not_true, Bool.not_false, Bool.and_false, cond_false] at hm
        subst hm
        refine Ev.of_eq 60 (fun n k => (dn46 M n x _ _ v5 v6 v7 v8 v9 v10 v11 v12 v13 v14 v15 v16 v17 v18 v19 v20 v21 v22 v23 v24 v25 v26 v27 v28 v29 v30 v31 k).trans (by rw [decide_eq_false hk, ha, hb]; rfl)) ?_
        exact ⟨rfl, ⟨_, rfl, rfl⟩, rfl⟩
      | false =>
        rw [ha, hb] at hm
        simp only [Bool.not_false, Bool.and_true, cond_true] at hm
        refine Ev.of_eq 60 (fun n k => (dn46 M n x y _ v5 v6 v7 v8 v9 v10 v11 v12 v13 v14 v15 v16 v17 v18 v19 v20 v21 v22 v23 v24 v25 v26 v27 v28 v29 v30 v31 k).trans (by rw [decide_eq_false hk, ha, hb]; rfl)) ?_
        have hk2 : (N.dnW y).k = y.k - 1 := w_id (by omega) (by omega)
        exact ⟨n, Nat.lt_succ_self n, _, N.dnW y, rfl, rfl, rfl, by omega, hm, by omega⟩

theorem tmps46 (x : N) : tmps0Of Tryd.prog 46 [N.v x] = N.v x :: List.replicate 31 undef := by kernel_rfl
theorem out46 (x y : N) (e : Int) (L : List Value) (b0 b1 b2 b3 : Blk) : outOf Tryd.prog 46 (N.v x :: p1 :: p2 :: .int .i64 e :: L) [b0, b1, b2, b3, rb y] = some (resV (y, e)) := by kernel_rfl

end Go.Proofs.YtihccnfaibiiiaaDoor.R
