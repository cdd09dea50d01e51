/- Ring: the program's Phase, for all numbers (made by mkpp.py). -/
import Derived.Test.YtihccnfaibiiiaaGreatDoorK10
import Derived.Test.YtihccnfaibiiiaaGreatDoorK07
namespace Go.Proofs.YtihccnfaibiiiaaGreatDoor.R
open Go Go.Proofs.XX.Vm Go.Proofs.XX.Rm Go.RowKit
set_option maxRecDepth 100000

def res3 (a b : N) (n : Int) : Value := .tuple #[N.v a, N.v b, .int .i64 n]
def lt2T (x y : N) : OT := okT x (okT y (.val (res3 x.nf y.nf 0)) fun n => .val (res3 O O n)) fun n => .val (res3 O O n)
theorem tLt2 (M : Int) (m : Nat) (x y : N) : runK Tryz.prog (orcL LC) (Sg1 M) (m + 60) 72 [N.v x, N.v y] =
    bif3 x (bif3 y (bif okB x then (bif okB y then some (res3 x.nf y.nf 0) else none) else none) fun n => some (res3 O O n)) fun n => some (res3 O O n) := by kernel_rfl
theorem cLt2_ok (M : Int) : ConOk M (con2 72 lt2T) := con2_ok (LC_ok M) fun x y v h => by
  refine EvF.of_eq 60 fun m => get_some h ?_
  rw [tLt2]
  unfold lt2T
  rw [okT_get]
  refine bif3_ext (fun hx => ?_) fun n => rfl
  rw [okT_get]
  refine bif3_ext (fun hy => ?_) fun n => rfl
  rw [hx, hy]; rfl
noncomputable abbrev LPh : List Con := [con2 72 lt2T]
theorem LPh_ok (M : Int) : ∀ c ∈ LPh, ConOk M c := mem_cons_ok (cLt2_ok M) nil_ok
noncomputable abbrev qH (i : Nat) : Code := nthC (pcs Tryz.prog 36) i
theorem LH_eq : pcs Tryz.prog 36 = [qH 0, qH 1, qH 2, qH 3, qH 4, qH 5, .block 0 (.rangeFunc (rangeOf Tryz.prog 36 0).1 (rangeOf Tryz.prog 36 0).2.1 (rangeOf Tryz.prog 36 0).2.2.1 (rangeOf Tryz.prog 36 0).2.2.2), qH 7, qH 8, qH 9, qH 10, qH 11] := by kernel_rfl
def mb : Blk := ⟨[.map (some 5)], 74, false, none⟩
def T4 (x y a b : N) : List Value := [N.v x, N.v y, (.pointer (some ⟨3, 0, none⟩)), (.pointer (some ⟨4, 0, none⟩)), (.int .i64 (0)), (.int .i64 (0)), (.int .i64 (0)), undef, undef, undef, undef, undef, undef, undef, res3 a b 0, N.v x, N.v y, res3 a b 0, N.v a, N.v b, (.int .i64 (0)), (.int .i64 (0)), .bool false, undef, undef, undef, undef, undef, undef, undef, undef, undef, undef, undef, undef, undef, undef, undef, undef, undef, undef, undef, undef, undef, undef, undef, undef, undef, undef]
def TP (x y a b : N) : List Value := [N.v x, N.v y, (.pointer (some ⟨3, 0, none⟩)), (.pointer (some ⟨4, 0, none⟩)), (.int .i64 (0)), (.int .i64 (0)), (.int .i64 (0)), (.pointer (some ⟨6, 0, none⟩)), undef, undef, undef, undef, undef, undef, res3 a b 0, N.v x, N.v y, res3 a b 0, N.v a, N.v b, (.int .i64 (0)), (.int .i64 (0)), .bool false, undef, .map (some 5), N.v b, .func (.func 91) #[] #[(.pointer (some ⟨7, 0, none⟩))], undef, undef, undef, undef, undef, undef, undef, undef, undef, undef, undef, undef, undef, undef, undef, undef, undef, undef, undef, undef, undef, undef]
theorem headH {α : Type} (M : Int) (fs : Nat → Nat) (x y : N) (l : List Code) (k : Kont α) :
    evP Tryz.prog (orcL LPh) (Sg1 M) 3 fs 0 (qH 0 :: qH 1 :: qH 2 :: qH 3 :: l) (N.v x :: N.v y :: List.replicate 47 undef) (Sg1 M) k =
    bif3 x (bif3 y (evP Tryz.prog (orcL LPh) (Sg1 M) 3 fs 4 l (T4 x y x.nf y.nf) [uni, pow, mxl M, rb x.nf, rb y.nf] k) fun n => k .ret [N.v x, N.v y, (.pointer (some ⟨3, 0, none⟩)), (.pointer (some ⟨4, 0, none⟩)), (.int .i64 (0)), (.int .i64 (n)), (.int .i64 (n)), undef, undef, undef, undef, undef, undef, undef, res3 O O n, N.v x, N.v y, res3 O O n, N.v O, N.v O, (.int .i64 (n)), (.int .i64 (n)), .bool true, (.int .i64 (n)), undef, undef, undef, undef, undef, undef, undef, undef, undef, undef, undef, undef, undef, undef, undef, undef, undef, undef, undef, undef, undef, undef, undef, undef, undef] [uni, pow, mxl M, rb O, rb O]) fun n => k .ret [N.v x, N.v y, (.pointer (some ⟨3, 0, none⟩)), (.pointer (some ⟨4, 0, none⟩)), (.int .i64 (0)), (.int .i64 (n)), (.int .i64 (n)), undef, undef, undef, undef, undef, undef, undef, res3 O O n, N.v x, N.v y, res3 O O n, N.v O, N.v O, (.int .i64 (n)), (.int .i64 (n)), .bool true, (.int .i64 (n)), undef, undef, undef, undef, undef, undef, undef, undef, undef, undef, undef, undef, undef, undef, undef, undef, undef, undef, undef, undef, undef, undef, undef, undef, undef] [uni, pow, mxl M, rb O, rb O] := by kernel_rfl
theorem midH {α : Type} (M : Int) (fs : Nat → Nat) (x y a b : N) (l : List Code) (k : Kont α) :
    evP Tryz.prog (orcL LPh) (Sg1 M) 3 fs 4 (qH 4 :: qH 5 :: l) (T4 x y a b) [uni, pow, mxl M, rb a, rb b] k = evP Tryz.prog (orcL LPh) (Sg1 M) 3 fs 6 l (TP x y a b) [uni, pow, mxl M, rb a, rb b, mapBlk [] 0, mb, rb b] k := by kernel_rfl
noncomputable def hP (M : Int) (x y a b : N) (es : List MapEntry) (ck : Nat) (z : N) : List Blk := [uni, pow, mxl M, rb a, rb b, mapBlk es ck, mb, rb b, loopBlk ⟨.ready, none, TP x y a b, (rangeOf Tryz.prog 36 0).2.1, (rangeOf Tryz.prog 36 0).2.2.1, (rangeOf Tryz.prog 36 0).2.2.2⟩, cb z]
def pwN (z b : N) : N := ⟨z.a, z.b, z.c, z.d, b.k⟩
def trP (z : N) : N := ⟨w (0 - z.d), z.a, z.b, z.c, z.k⟩
theorem headQ {α : Type} (M : Int) (fs : Nat → Nat) (x y a b : N) (l : List Code) (k : Kont α) :
    evP Tryz.prog (orcL LPh) (Sg1 M) 3 fs 0 (qG 0 :: qG 1 :: l) (yl 8 :: (.pointer (some ⟨7, 0, none⟩)) :: List.replicate 19 undef) ((hP M x y a b [] 0 b).take 9) k = evP Tryz.prog (orcL LPh) (Sg1 M) 3 fs 2 l [yl 8, (.pointer (some ⟨7, 0, none⟩)), undef, (.pointer (some ⟨9, 0, none⟩)), undef, N.v b, N.cv b, .int .i64 0, undef, undef, undef, undef, undef, undef, undef, undef, undef, undef, undef, undef, undef] (hP M x y a b [] 0 b ++ []) k := by kernel_rfl
theorem roundP0 {α : Type} (M : Int) (m : Nat) (x y a b z : N) (es : List MapEntry) (ck : Nat) (v2 v4 v5 v6 v8 v9 v10 v11 v12 v13 v14 v15 v16 v17 v18 v19 v20 : Value) (k : Kont α) :
    evCodeK Tryz.prog (orcL LPh) (Sg1 M) (m + 60) 3 BO [yl 8, (.pointer (some ⟨7, 0, none⟩)), v2, (.pointer (some ⟨9, 0, none⟩)), v4, v5, v6, (.int .i64 (0)), v8, v9, v10, v11, v12, v13, v14, v15, v16, v17, v18, v19, v20] (hP M x y a b es ck z ++ []) k =
    bif okKeys Tryz.prog 23 (N.v (pwN z b)) es && okVals es then (bif hasK Tryz.prog 23 (N.v (pwN z b)) es then k .normal [yl 8, (.pointer (some ⟨7, 0, none⟩)), v2, (.pointer (some ⟨9, 0, none⟩)), (.int .i64 (0)), v5, v6, (.int .i64 (1)), .bool true, (.int .i64 (0)), yl 8, (.int .i64 (0)), N.cv z, (.pointer (some ⟨7, 4, none⟩)), (.int .i64 (b.k)), N.v (pwN z b), .bool true, .bool false, N.cv z, N.cv (trP z), (.int .i64 (1))] (hP M x y a b es ck (trP z) ++ [rb (pwN z b)]) else (bif okKeys Tryz.prog 23 (N.v (pwN z b)) es then (bif hasK Tryz.prog 23 (N.v (pwN z b)) es then none else k .normal [yl 8, (.pointer (some ⟨7, 0, none⟩)), v2, (.pointer (some ⟨9, 0, none⟩)), (.int .i64 (0)), v5, v6, (.int .i64 (1)), .bool true, (.int .i64 (0)), yl 8, (.int .i64 (0)), N.cv z, (.pointer (some ⟨7, 4, none⟩)), (.int .i64 (b.k)), N.v (pwN z b), .bool true, .bool false, N.cv z, N.cv (trP z), (.int .i64 (1))] (hP M x y a b (es ++ [⟨(N.v (pwN z b)), .int .i64 0, ck⟩]) (ck + 1) (trP z) ++ [rb (pwN z b)])) else none)) else none := by kernel_rfl
theorem roundP1 {α : Type} (M : Int) (m : Nat) (x y a b z : N) (es : List MapEntry) (ck : Nat) (j0 : Blk) (v2 v4 v5 v6 v8 v9 v10 v11 v12 v13 v14 v15 v16 v17 v18 v19 v20 : Value) (k : Kont α) :
    evCodeK Tryz.prog (orcL LPh) (Sg1 M) (m + 60) 3 BO [yl 8, (.pointer (some ⟨7, 0, none⟩)), v2, (.pointer (some ⟨9, 0, none⟩)), v4, v5, v6, (.int .i64 (1)), v8, v9, v10, v11, v12, v13, v14, v15, v16, v17, v18, v19, v20] (hP M x y a b es ck z ++ [j0]) k =
    bif okKeys Tryz.prog 23 (N.v (pwN z b)) es && okVals es then (bif hasK Tryz.prog 23 (N.v (pwN z b)) es then k .normal [yl 8, (.pointer (some ⟨7, 0, none⟩)), v2, (.pointer (some ⟨9, 0, none⟩)), (.int .i64 (1)), v5, v6, (.int .i64 (2)), .bool true, (.int .i64 (1)), yl 8, (.int .i64 (1)), N.cv z, (.pointer (some ⟨7, 4, none⟩)), (.int .i64 (b.k)), N.v (pwN z b), .bool true, .bool false, N.cv z, N.cv (trP z), (.int .i64 (2))] (hP M x y a b es ck (trP z) ++ [j0, rb (pwN z b)]) else (bif okKeys Tryz.prog 23 (N.v (pwN z b)) es then (bif hasK Tryz.prog 23 (N.v (pwN z b)) es then none else k .normal [yl 8, (.pointer (some ⟨7, 0, none⟩)), v2, (.pointer (some ⟨9, 0, none⟩)), (.int .i64 (1)), v5, v6, (.int .i64 (2)), .bool true, (.int .i64 (1)), yl 8, (.int .i64 (1)), N.cv z, (.pointer (some ⟨7, 4, none⟩)), (.int .i64 (b.k)), N.v (pwN z b), .bool true, .bool false, N.cv z, N.cv (trP z), (.int .i64 (2))] (hP M x y a b (es ++ [⟨(N.v (pwN z b)), .int .i64 1, ck⟩]) (ck + 1) (trP z) ++ [j0, rb (pwN z b)])) else none)) else none := by kernel_rfl
theorem roundP2 {α : Type} (M : Int) (m : Nat) (x y a b z : N) (es : List MapEntry) (ck : Nat) (j0 j1 : Blk) (v2 v4 v5 v6 v8 v9 v10 v11 v12 v13 v14 v15 v16 v17 v18 v19 v20 : Value) (k : Kont α) :
    evCodeK Tryz.prog (orcL LPh) (Sg1 M) (m + 60) 3 BO [yl 8, (.pointer (some ⟨7, 0, none⟩)), v2, (.pointer (some ⟨9, 0, none⟩)), v4, v5, v6, (.int .i64 (2)), v8, v9, v10, v11, v12, v13, v14, v15, v16, v17, v18, v19, v20] (hP M x y a b es ck z ++ [j0, j1]) k =
    bif okKeys Tryz.prog 23 (N.v (pwN z b)) es && okVals es then (bif hasK Tryz.prog 23 (N.v (pwN z b)) es then k .normal [yl 8, (.pointer (some ⟨7, 0, none⟩)), v2, (.pointer (some ⟨9, 0, none⟩)), (.int .i64 (2)), v5, v6, (.int .i64 (3)), .bool true, (.int .i64 (2)), yl 8, (.int .i64 (2)), N.cv z, (.pointer (some ⟨7, 4, none⟩)), (.int .i64 (b.k)), N.v (pwN z b), .bool true, .bool false, N.cv z, N.cv (trP z), (.int .i64 (3))] (hP M x y a b es ck (trP z) ++ [j0, j1, rb (pwN z b)]) else (bif okKeys Tryz.prog 23 (N.v (pwN z b)) es then (bif hasK Tryz.prog 23 (N.v (pwN z b)) es then none else k .normal [yl 8, (.pointer (some ⟨7, 0, none⟩)), v2, (.pointer (some ⟨9, 0, none⟩)), (.int .i64 (2)), v5, v6, (.int .i64 (3)), .bool true, (.int .i64 (2)), yl 8, (.int .i64 (2)), N.cv z, (.pointer (some ⟨7, 4, none⟩)), (.int .i64 (b.k)), N.v (pwN z b), .bool true, .bool false, N.cv z, N.cv (trP z), (.int .i64 (3))] (hP M x y a b (es ++ [⟨(N.v (pwN z b)), .int .i64 2, ck⟩]) (ck + 1) (trP z) ++ [j0, j1, rb (pwN z b)])) else none)) else none := by kernel_rfl
theorem roundP3 {α : Type} (M : Int) (m : Nat) (x y a b z : N) (es : List MapEntry) (ck : Nat) (j0 j1 j2 : Blk) (v2 v4 v5 v6 v8 v9 v10 v11 v12 v13 v14 v15 v16 v17 v18 v19 v20 : Value) (k : Kont α) :
    evCodeK Tryz.prog (orcL LPh) (Sg1 M) (m + 60) 3 BO [yl 8, (.pointer (some ⟨7, 0, none⟩)), v2, (.pointer (some ⟨9, 0, none⟩)), v4, v5, v6, (.int .i64 (3)), v8, v9, v10, v11, v12, v13, v14, v15, v16, v17, v18, v19, v20] (hP M x y a b es ck z ++ [j0, j1, j2]) k =
    bif okKeys Tryz.prog 23 (N.v (pwN z b)) es && okVals es then (bif hasK Tryz.prog 23 (N.v (pwN z b)) es then k .normal [yl 8, (.pointer (some ⟨7, 0, none⟩)), v2, (.pointer (some ⟨9, 0, none⟩)), (.int .i64 (3)), v5, v6, (.int .i64 (4)), .bool true, (.int .i64 (3)), yl 8, (.int .i64 (3)), N.cv z, (.pointer (some ⟨7, 4, none⟩)), (.int .i64 (b.k)), N.v (pwN z b), .bool true, .bool false, N.cv z, N.cv (trP z), (.int .i64 (4))] (hP M x y a b es ck (trP z) ++ [j0, j1, j2, rb (pwN z b)]) else (bif okKeys Tryz.prog 23 (N.v (pwN z b)) es then (bif hasK Tryz.prog 23 (N.v (pwN z b)) es then none else k .normal [yl 8, (.pointer (some ⟨7, 0, none⟩)), v2, (.pointer (some ⟨9, 0, none⟩)), (.int .i64 (3)), v5, v6, (.int .i64 (4)), .bool true, (.int .i64 (3)), yl 8, (.int .i64 (3)), N.cv z, (.pointer (some ⟨7, 4, none⟩)), (.int .i64 (b.k)), N.v (pwN z b), .bool true, .bool false, N.cv z, N.cv (trP z), (.int .i64 (4))] (hP M x y a b (es ++ [⟨(N.v (pwN z b)), .int .i64 3, ck⟩]) (ck + 1) (trP z) ++ [j0, j1, j2, rb (pwN z b)])) else none)) else none := by kernel_rfl
theorem roundP4 {α : Type} (M : Int) (m : Nat) (x y a b z : N) (es : List MapEntry) (ck : Nat) (j0 j1 j2 j3 : Blk) (v2 v4 v5 v6 v8 v9 v10 v11 v12 v13 v14 v15 v16 v17 v18 v19 v20 : Value) (k : Kont α) :
    evCodeK Tryz.prog (orcL LPh) (Sg1 M) (m + 60) 3 BO [yl 8, (.pointer (some ⟨7, 0, none⟩)), v2, (.pointer (some ⟨9, 0, none⟩)), v4, v5, v6, (.int .i64 (4)), v8, v9, v10, v11, v12, v13, v14, v15, v16, v17, v18, v19, v20] (hP M x y a b es ck z ++ [j0, j1, j2, j3]) k =
    bif okKeys Tryz.prog 23 (N.v (pwN z b)) es && okVals es then (bif hasK Tryz.prog 23 (N.v (pwN z b)) es then k .normal [yl 8, (.pointer (some ⟨7, 0, none⟩)), v2, (.pointer (some ⟨9, 0, none⟩)), (.int .i64 (4)), v5, v6, (.int .i64 (5)), .bool true, (.int .i64 (4)), yl 8, (.int .i64 (4)), N.cv z, (.pointer (some ⟨7, 4, none⟩)), (.int .i64 (b.k)), N.v (pwN z b), .bool true, .bool false, N.cv z, N.cv (trP z), (.int .i64 (5))] (hP M x y a b es ck (trP z) ++ [j0, j1, j2, j3, rb (pwN z b)]) else (bif okKeys Tryz.prog 23 (N.v (pwN z b)) es then (bif hasK Tryz.prog 23 (N.v (pwN z b)) es then none else k .normal [yl 8, (.pointer (some ⟨7, 0, none⟩)), v2, (.pointer (some ⟨9, 0, none⟩)), (.int .i64 (4)), v5, v6, (.int .i64 (5)), .bool true, (.int .i64 (4)), yl 8, (.int .i64 (4)), N.cv z, (.pointer (some ⟨7, 4, none⟩)), (.int .i64 (b.k)), N.v (pwN z b), .bool true, .bool false, N.cv z, N.cv (trP z), (.int .i64 (5))] (hP M x y a b (es ++ [⟨(N.v (pwN z b)), .int .i64 4, ck⟩]) (ck + 1) (trP z) ++ [j0, j1, j2, j3, rb (pwN z b)])) else none)) else none := by kernel_rfl
theorem roundP5 {α : Type} (M : Int) (m : Nat) (x y a b z : N) (es : List MapEntry) (ck : Nat) (j0 j1 j2 j3 j4 : Blk) (v2 v4 v5 v6 v8 v9 v10 v11 v12 v13 v14 v15 v16 v17 v18 v19 v20 : Value) (k : Kont α) :
    evCodeK Tryz.prog (orcL LPh) (Sg1 M) (m + 60) 3 BO [yl 8, (.pointer (some ⟨7, 0, none⟩)), v2, (.pointer (some ⟨9, 0, none⟩)), v4, v5, v6, (.int .i64 (5)), v8, v9, v10, v11, v12, v13, v14, v15, v16, v17, v18, v19, v20] (hP M x y a b es ck z ++ [j0, j1, j2, j3, j4]) k =
    bif okKeys Tryz.prog 23 (N.v (pwN z b)) es && okVals es then (bif hasK Tryz.prog 23 (N.v (pwN z b)) es then k .normal [yl 8, (.pointer (some ⟨7, 0, none⟩)), v2, (.pointer (some ⟨9, 0, none⟩)), (.int .i64 (5)), v5, v6, (.int .i64 (6)), .bool true, (.int .i64 (5)), yl 8, (.int .i64 (5)), N.cv z, (.pointer (some ⟨7, 4, none⟩)), (.int .i64 (b.k)), N.v (pwN z b), .bool true, .bool false, N.cv z, N.cv (trP z), (.int .i64 (6))] (hP M x y a b es ck (trP z) ++ [j0, j1, j2, j3, j4, rb (pwN z b)]) else (bif okKeys Tryz.prog 23 (N.v (pwN z b)) es then (bif hasK Tryz.prog 23 (N.v (pwN z b)) es then none else k .normal [yl 8, (.pointer (some ⟨7, 0, none⟩)), v2, (.pointer (some ⟨9, 0, none⟩)), (.int .i64 (5)), v5, v6, (.int .i64 (6)), .bool true, (.int .i64 (5)), yl 8, (.int .i64 (5)), N.cv z, (.pointer (some ⟨7, 4, none⟩)), (.int .i64 (b.k)), N.v (pwN z b), .bool true, .bool false, N.cv z, N.cv (trP z), (.int .i64 (6))] (hP M x y a b (es ++ [⟨(N.v (pwN z b)), .int .i64 5, ck⟩]) (ck + 1) (trP z) ++ [j0, j1, j2, j3, j4, rb (pwN z b)])) else none)) else none := by kernel_rfl
theorem roundP6 {α : Type} (M : Int) (m : Nat) (x y a b z : N) (es : List MapEntry) (ck : Nat) (j0 j1 j2 j3 j4 j5 : Blk) (v2 v4 v5 v6 v8 v9 v10 v11 v12 v13 v14 v15 v16 v17 v18 v19 v20 : Value) (k : Kont α) :
    evCodeK Tryz.prog (orcL LPh) (Sg1 M) (m + 60) 3 BO [yl 8, (.pointer (some ⟨7, 0, none⟩)), v2, (.pointer (some ⟨9, 0, none⟩)), v4, v5, v6, (.int .i64 (6)), v8, v9, v10, v11, v12, v13, v14, v15, v16, v17, v18, v19, v20] (hP M x y a b es ck z ++ [j0, j1, j2, j3, j4, j5]) k =
    bif okKeys Tryz.prog 23 (N.v (pwN z b)) es && okVals es then (bif hasK Tryz.prog 23 (N.v (pwN z b)) es then k .normal [yl 8, (.pointer (some ⟨7, 0, none⟩)), v2, (.pointer (some ⟨9, 0, none⟩)), (.int .i64 (6)), v5, v6, (.int .i64 (7)), .bool true, (.int .i64 (6)), yl 8, (.int .i64 (6)), N.cv z, (.pointer (some ⟨7, 4, none⟩)), (.int .i64 (b.k)), N.v (pwN z b), .bool true, .bool false, N.cv z, N.cv (trP z), (.int .i64 (7))] (hP M x y a b es ck (trP z) ++ [j0, j1, j2, j3, j4, j5, rb (pwN z b)]) else (bif okKeys Tryz.prog 23 (N.v (pwN z b)) es then (bif hasK Tryz.prog 23 (N.v (pwN z b)) es then none else k .normal [yl 8, (.pointer (some ⟨7, 0, none⟩)), v2, (.pointer (some ⟨9, 0, none⟩)), (.int .i64 (6)), v5, v6, (.int .i64 (7)), .bool true, (.int .i64 (6)), yl 8, (.int .i64 (6)), N.cv z, (.pointer (some ⟨7, 4, none⟩)), (.int .i64 (b.k)), N.v (pwN z b), .bool true, .bool false, N.cv z, N.cv (trP z), (.int .i64 (7))] (hP M x y a b (es ++ [⟨(N.v (pwN z b)), .int .i64 6, ck⟩]) (ck + 1) (trP z) ++ [j0, j1, j2, j3, j4, j5, rb (pwN z b)])) else none)) else none := by kernel_rfl
theorem roundP7 {α : Type} (M : Int) (m : Nat) (x y a b z : N) (es : List MapEntry) (ck : Nat) (j0 j1 j2 j3 j4 j5 j6 : Blk) (v2 v4 v5 v6 v8 v9 v10 v11 v12 v13 v14 v15 v16 v17 v18 v19 v20 : Value) (k : Kont α) :
    evCodeK Tryz.prog (orcL LPh) (Sg1 M) (m + 60) 3 BO [yl 8, (.pointer (some ⟨7, 0, none⟩)), v2, (.pointer (some ⟨9, 0, none⟩)), v4, v5, v6, (.int .i64 (7)), v8, v9, v10, v11, v12, v13, v14, v15, v16, v17, v18, v19, v20] (hP M x y a b es ck z ++ [j0, j1, j2, j3, j4, j5, j6]) k =
    bif okKeys Tryz.prog 23 (N.v (pwN z b)) es && okVals es then (bif hasK Tryz.prog 23 (N.v (pwN z b)) es then k .normal [yl 8, (.pointer (some ⟨7, 0, none⟩)), v2, (.pointer (some ⟨9, 0, none⟩)), (.int .i64 (7)), v5, v6, (.int .i64 (8)), .bool true, (.int .i64 (7)), yl 8, (.int .i64 (7)), N.cv z, (.pointer (some ⟨7, 4, none⟩)), (.int .i64 (b.k)), N.v (pwN z b), .bool true, .bool false, N.cv z, N.cv (trP z), (.int .i64 (8))] (hP M x y a b es ck (trP z) ++ [j0, j1, j2, j3, j4, j5, j6, rb (pwN z b)]) else (bif okKeys Tryz.prog 23 (N.v (pwN z b)) es then (bif hasK Tryz.prog 23 (N.v (pwN z b)) es then none else k .normal [yl 8, (.pointer (some ⟨7, 0, none⟩)), v2, (.pointer (some ⟨9, 0, none⟩)), (.int .i64 (7)), v5, v6, (.int .i64 (8)), .bool true, (.int .i64 (7)), yl 8, (.int .i64 (7)), N.cv z, (.pointer (some ⟨7, 4, none⟩)), (.int .i64 (b.k)), N.v (pwN z b), .bool true, .bool false, N.cv z, N.cv (trP z), (.int .i64 (8))] (hP M x y a b (es ++ [⟨(N.v (pwN z b)), .int .i64 7, ck⟩]) (ck + 1) (trP z) ++ [j0, j1, j2, j3, j4, j5, j6, rb (pwN z b)])) else none)) else none := by kernel_rfl
theorem roundP8 {α : Type} (M : Int) (m : Nat) (x y a b z : N) (es : List MapEntry) (ck : Nat) (j0 j1 j2 j3 j4 j5 j6 j7 : Blk) (v2 v4 v5 v6 v8 v9 v10 v11 v12 v13 v14 v15 v16 v17 v18 v19 v20 : Value) (k : Kont α) :
    evCodeK Tryz.prog (orcL LPh) (Sg1 M) (m + 60) 3 BO [yl 8, (.pointer (some ⟨7, 0, none⟩)), v2, (.pointer (some ⟨9, 0, none⟩)), v4, v5, v6, (.int .i64 (8)), v8, v9, v10, v11, v12, v13, v14, v15, v16, v17, v18, v19, v20] (hP M x y a b es ck z ++ [j0, j1, j2, j3, j4, j5, j6, j7]) k = k (.exit 0) [yl 8, (.pointer (some ⟨7, 0, none⟩)), v2, (.pointer (some ⟨9, 0, none⟩)), v4, v5, v6, (.int .i64 (8)), .bool false, v9, v10, v11, v12, v13, v14, v15, v16, v17, v18, v19, v20] (hP M x y a b es ck z ++ [j0, j1, j2, j3, j4, j5, j6, j7]) := by kernel_rfl
theorem tailH {α : Type} (M : Int) (fs : Nat → Nat) (x y a b : N) (es : List MapEntry) (ck : Nat) (b4 b7 b8 b9 b10 b11 b12 b13 b14 b15 b16 b17 : Blk) (k : Kont α) :
    evP Tryz.prog (orcL LPh) (Sg1 M) 3 fs 7 [qH 7, qH 8, qH 9, qH 10, qH 11] (TP x y a b) [uni, pow, mxl M, rb a, b4, mapBlk es ck, mb, b7, b8, b9, b10, b11, b12, b13, b14, b15, b16, b17] k =
    bif okKeys Tryz.prog 23 (N.v a) es && okVals es then (bif hasK Tryz.prog 23 (N.v a) es then k .ret [N.v x, N.v y, (.pointer (some ⟨3, 0, none⟩)), (.pointer (some ⟨4, 0, none⟩)), (.int .i64 (valK Tryz.prog 23 (N.v a) es)), (.int .i64 (0)), (.int .i64 (0)), (.pointer (some ⟨6, 0, none⟩)), undef, undef, undef, undef, (.int .i64 (valK Tryz.prog 23 (N.v a) es)), .bool true, res3 a b 0, N.v x, N.v y, res3 a b 0, N.v a, N.v b, (.int .i64 (0)), (.int .i64 (0)), .bool false, undef, .map (some 5), N.v b, .func (.func 91) #[] #[(.pointer (some ⟨7, 0, none⟩))], undef, undef, undef, undef, undef, undef, undef, undef, undef, undef, undef, undef, undef, .tuple #[.int .i64 (valK Tryz.prog 23 (N.v a) es), .bool true], .map (some 5), N.v a, .tuple #[.int .i64 (valK Tryz.prog 23 (N.v a) es), .bool true], (.int .i64 (valK Tryz.prog 23 (N.v a) es)), .bool true, .bool true, .bool false, (.int .i64 (valK Tryz.prog 23 (N.v a) es))] [uni, pow, mxl M, rb a, b4, mapBlk es ck, mb, b7, b8, b9, b10, b11, b12, b13, b14, b15, b16, b17] else k .ret [N.v x, N.v y, (.pointer (some ⟨3, 0, none⟩)), (.pointer (some ⟨4, 0, none⟩)), (.int .i64 (0)), (.int .i64 (6)), (.int .i64 (0)), (.pointer (some ⟨6, 0, none⟩)), undef, undef, undef, undef, (.int .i64 (0)), .bool false, res3 a b 0, N.v x, N.v y, res3 a b 0, N.v a, N.v b, (.int .i64 (0)), (.int .i64 (0)), .bool false, undef, .map (some 5), N.v b, .func (.func 91) #[] #[(.pointer (some ⟨7, 0, none⟩))], undef, undef, undef, undef, undef, undef, undef, undef, undef, undef, undef, undef, undef, .tuple #[.int .i64 0, .bool false], .map (some 5), N.v a, .tuple #[.int .i64 0, .bool false], (.int .i64 (0)), .bool false, .bool false, .bool true, undef] [uni, pow, mxl M, rb a, b4, mapBlk es ck, mb, b7, b8, b9, b10, b11, b12, b13, b14, b15, b16, b17]) else none := by kernel_rfl
theorem tmpsH (x y : N) : tmps0Of Tryz.prog 36 [N.v x, N.v y] = N.v x :: N.v y :: List.replicate 47 undef := by kernel_rfl
theorem outH (a0 a1 a2 a3 : Value) (n e : Int) (L : List Value) (S : List Blk) : outOf Tryz.prog 36 (a0 :: a1 :: a2 :: a3 :: .int .i64 n :: .int .i64 e :: L) S = some (.tuple #[.int .i64 n, .int .i64 e]) := by kernel_rfl
theorem opdH (x y a b : N) : opd 3 (TP x y a b) (rangeOf Tryz.prog 36 0).1 = some (.func (.func 91) #[] #[(.pointer (some ⟨7, 0, none⟩))]) := by kernel_rfl
theorem calH : callee Tryz.prog (.func (.func 91) #[] #[(.pointer (some ⟨7, 0, none⟩))]) [.func (.yield 8) #[] #[]] = some (.call 91 [yl 8, (.pointer (some ⟨7, 0, none⟩))]) := by kernel_rfl
theorem loopAtH (M : Int) (x y a b : N) (es : List MapEntry) (ck : Nat) (z : N) (J : List Blk) : loopAt (hP M x y a b es ck z ++ J) 8 = some ⟨.ready, none, TP x y a b, (rangeOf Tryz.prog 36 0).2.1, (rangeOf Tryz.prog 36 0).2.2.1, (rangeOf Tryz.prog 36 0).2.2.2⟩ := rfl
end Go.Proofs.YtihccnfaibiiiaaGreatDoor.R
/- Ring: the program's Phase: what it comes to (made by mkpp.py). -/
namespace Go.Proofs.YtihccnfaibiiiaaGreatDoor.R
open Go Go.Proofs.XX.Vm Go.Proofs.XX.Rm Go.RowKit
set_option maxRecDepth 100000

def mkE (t : N × Int × Nat) : MapEntry := ⟨N.v t.1, .int .i64 t.2.1, t.2.2⟩
def hasL (p : N) : List (N × Int × Nat) → Bool
  | [] => false
  | t :: l => eqN p t.1 || hasL p l
def lookL (p : N) : List (N × Int × Nat) → Option Int
  | [] => none
  | t :: l => bif eqN p t.1 then some t.2.1 else lookL p l
theorem keyEqN (p q : N) : keyEq Tryz.prog 23 (N.v p) (N.v q) = some (eqN p q) := by kernel_rfl
theorem okKeysL (p : N) : ∀ l : List (N × Int × Nat), okKeys Tryz.prog 23 (N.v p) (l.map mkE) = true
  | [] => rfl
  | t :: l => by
    simp only [List.map_cons, okKeys, mkE, keyEqN, Bool.true_and]
    exact okKeysL p l
theorem okValsL : ∀ l : List (N × Int × Nat), okVals (l.map mkE) = true
  | [] => rfl
  | t :: l => by
    simp only [List.map_cons, okVals, mkE, Bool.true_and]
    exact okValsL l
theorem hasKL (p : N) : ∀ l : List (N × Int × Nat), hasK Tryz.prog 23 (N.v p) (l.map mkE) = hasL p l
  | [] => rfl
  | t :: l => by
    simp only [List.map_cons, hasK, hitK, mkE, keyEqN, hasL]
    rw [hasKL p l]
theorem valKL (p : N) : ∀ l : List (N × Int × Nat), valK Tryz.prog 23 (N.v p) (l.map mkE) = (lookL p l).getD 0
  | [] => rfl
  | t :: l => by
    simp only [List.map_cons, valK, hitK, mkE, keyEqN, lookL]
    cases eqN p t.1 with
    | true => rfl
    | false => exact valKL p l
theorem hasL_look (p : N) : ∀ l : List (N × Int × Nat), hasL p l = (lookL p l).isSome
  | [] => rfl
  | t :: l => by
    simp only [hasL, lookL]
    cases eqN p t.1 with
    | true => rfl
    | false => exact hasL_look p l
theorem lookL_app (p : N) (t : N × Int × Nat) : ∀ l : List (N × Int × Nat), lookL p (l ++ [t]) = (lookL p l).or (bif eqN p t.1 then some t.2.1 else none)
  | [] => rfl
  | u :: l => by
    simp only [List.cons_append, lookL]
    cases eqN p u.1 with
    | true => rfl
    | false => exact lookL_app p t l
/-- The map behind so many rounds. -/
def lN (b : N) : Nat → List (N × Int × Nat) × Nat
  | 0 => ([], 0)
  | m + 1 => bif hasL (trEs m b) (lN b m).1 then lN b m else ((lN b m).1 ++ [(trEs m b, (m : Int), (lN b m).2)], (lN b m).2 + 1)
def phB (q b : N) : Nat → Nat → Option Int
  | 0, _ => none
  | m + 1, j => bif eqN q (trEs j b) then some (j : Int) else phB q b m (j + 1)
theorem phB_succ (q b : N) : ∀ m j, phB q b (m + 1) j = (phB q b m j).or (bif eqN q (trEs (j + m) b) then some ((j + m : Nat) : Int) else none)
  | 0, j => rfl
  | m + 1, j => by
    rw [phB, phB_succ q b m (j + 1)]
    conv => rhs; rw [phB]
    rw [show j + 1 + m = j + (m + 1) by omega]
    cases eqN q (trEs j b) with
    | true => rfl
    | false => rfl
theorem look_lN (q b : N) : ∀ m, lookL q (lN b m).1 = phB q b m 0
  | 0 => rfl
  | m + 1 => by
    have ih := look_lN q b m
    rw [phB_succ, ← ih, Nat.zero_add]
    rw [show lN b (m + 1) = bif hasL (trEs m b) (lN b m).1 then lN b m else ((lN b m).1 ++ [(trEs m b, (m : Int), (lN b m).2)], (lN b m).2 + 1) from rfl]
    cases hh : hasL (trEs m b) (lN b m).1 with
    | false => rw [cond_false]; exact lookL_app _ _ _
    | true =>
      rw [cond_true]
      cases hq : eqN q (trEs m b) with
      | false => rw [cond_false, Option.or_none]
      | true =>
        have e := (eqN_iff _ _).1 hq
        subst e
        rw [hasL_look] at hh
        obtain ⟨v, hv⟩ := Option.isSome_iff_exists.1 hh
        rw [hv]; rfl
theorem trP_eq {b : N} (hb : okB b = true) (j : Nat) : trP (trEs j b) = trEs (j + 1) b := by
  have h := okB_trEs hb j
  obtain ⟨k1, k2, a1, a2, b1, b2, c1, c2, d1, d2⟩ := (okB_iff _).1 h
  simp only [trP, trEs, trE]
  rw [w_eq _ (by omega) (by omega)]
  ext <;> simp
theorem trEs_k (b : N) : ∀ j, (trEs j b).k = b.k
  | 0 => rfl
  | j + 1 => trEs_k b j
theorem pwN_eq (b : N) (j : Nat) : pwN (trEs j b) b = trEs j b := by
  ext <;> simp [pwN, trEs_k]
theorem pushQ {α : Type} {M : Int} {x y a b : N} (hb : okB b = true) (j : Nat) (T : List Value) (J : List Blk) (jv : Int) (k : Kont α) (hj : jv = (j : Int) := by rfl) :
    (bif okKeys Tryz.prog 23 (N.v (pwN (trEs j b) b)) ((lN b j).1.map mkE) && okVals ((lN b j).1.map mkE) then (bif hasK Tryz.prog 23 (N.v (pwN (trEs j b) b)) ((lN b j).1.map mkE) then k .normal T (hP M x y a b ((lN b j).1.map mkE) (lN b j).2 (trP (trEs j b)) ++ J) else (bif okKeys Tryz.prog 23 (N.v (pwN (trEs j b) b)) ((lN b j).1.map mkE) then (bif hasK Tryz.prog 23 (N.v (pwN (trEs j b) b)) ((lN b j).1.map mkE) then none else k .normal T (hP M x y a b ((lN b j).1.map mkE ++ [⟨N.v (pwN (trEs j b) b), .int .i64 jv, (lN b j).2⟩]) ((lN b j).2 + 1) (trP (trEs j b)) ++ J)) else none)) else none) =
    k .normal T (hP M x y a b ((lN b (j + 1)).1.map mkE) (lN b (j + 1)).2 (trEs (j + 1) b) ++ J) := by
  subst hj
  rw [okKeysL, okValsL, hasKL, trP_eq hb, pwN_eq]
  simp only [Bool.and_self, cond_true]
  cases hh : hasL (trEs j b) (lN b j).1 with
  | true => simp only [cond_true, lN, hh]
  | false => simp only [cond_false, lN, hh, List.map_append, List.map_cons, List.map_nil, mkE]
theorem evQ (M : Int) (x y a b : N) (hb : okB b = true) : EvM Tryz.prog (orcL LPh) (Sg1 M) Value 3 91 [yl 8, (.pointer (some ⟨7, 0, none⟩))] ((hP M x y a b [] 0 b).take 9) fun _ S2 => ∃ (J : List Blk), J.length = 8 ∧ S2 = hP M x y a b ((lN b 8).1.map mkE) (lN b 8).2 (trEs 8 b) ++ J := by
  refine EvM.of_body ?_
  rw [tmpsG]
  refine Ev.of_pieces ?_
  rw [show flatC (bodyOf Tryz.prog 91) = _ from LG_eq]
  refine EvP.run (fun fs k => headQ M fs x y a b _ k) ?_
  refine EvP.step (Ev.block ?_)
  show Ev _ _ _ _ _ (.loop BO) _ _ _
  refine Ev.unroll (Ev.of_eq 60 (fun s k => (roundP0 M s x y a b (trEs 0 b) ((lN b 0).1.map mkE) (lN b 0).2  _ _ _ _ _ _ _ _ _ _ _ _ _ _ _ _ _ k).trans (pushQ hb 0 _ _ _ k)) ?_)
  show Ev _ _ _ _ _ (.loop BO) _ _ _
  refine Ev.unroll (Ev.of_eq 60 (fun s k => (roundP1 M s x y a b (trEs 1 b) ((lN b 1).1.map mkE) (lN b 1).2 _ _ _ _ _ _ _ _ _ _ _ _ _ _ _ _ _ _ k).trans (pushQ hb 1 _ _ _ k)) ?_)
  show Ev _ _ _ _ _ (.loop BO) _ _ _
  refine Ev.unroll (Ev.of_eq 60 (fun s k => (roundP2 M s x y a b (trEs 2 b) ((lN b 2).1.map mkE) (lN b 2).2 _ _ _ _ _ _ _ _ _ _ _ _ _ _ _ _ _ _ _ k).trans (pushQ hb 2 _ _ _ k)) ?_)
  show Ev _ _ _ _ _ (.loop BO) _ _ _
  refine Ev.unroll (Ev.of_eq 60 (fun s k => (roundP3 M s x y a b (trEs 3 b) ((lN b 3).1.map mkE) (lN b 3).2 _ _ _ _ _ _ _ _ _ _ _ _ _ _ _ _ _ _ _ _ k).trans (pushQ hb 3 _ _ _ k)) ?_)
  show Ev _ _ _ _ _ (.loop BO) _ _ _
  refine Ev.unroll (Ev.of_eq 60 (fun s k => (roundP4 M s x y a b (trEs 4 b) ((lN b 4).1.map mkE) (lN b 4).2 _ _ _ _ _ _ _ _ _ _ _ _ _ _ _ _ _ _ _ _ _ k).trans (pushQ hb 4 _ _ _ k)) ?_)
  show Ev _ _ _ _ _ (.loop BO) _ _ _
  refine Ev.unroll (Ev.of_eq 60 (fun s k => (roundP5 M s x y a b (trEs 5 b) ((lN b 5).1.map mkE) (lN b 5).2 _ _ _ _ _ _ _ _ _ _ _ _ _ _ _ _ _ _ _ _ _ _ k).trans (pushQ hb 5 _ _ _ k)) ?_)
  show Ev _ _ _ _ _ (.loop BO) _ _ _
  refine Ev.unroll (Ev.of_eq 60 (fun s k => (roundP6 M s x y a b (trEs 6 b) ((lN b 6).1.map mkE) (lN b 6).2 _ _ _ _ _ _ _ _ _ _ _ _ _ _ _ _ _ _ _ _ _ _ _ k).trans (pushQ hb 6 _ _ _ k)) ?_)
  show Ev _ _ _ _ _ (.loop BO) _ _ _
  refine Ev.unroll (Ev.of_eq 60 (fun s k => (roundP7 M s x y a b (trEs 7 b) ((lN b 7).1.map mkE) (lN b 7).2 _ _ _ _ _ _ _ _ _ _ _ _ _ _ _ _ _ _ _ _ _ _ _ _ k).trans (pushQ hb 7 _ _ _ k)) ?_)
  show Ev _ _ _ _ _ (.loop BO) _ _ _
  refine Ev.unroll (Ev.of_eq 60 (fun s k => roundP8 M s x y a b (trEs 8 b) ((lN b 8).1.map mkE) (lN b 8).2 _ _ _ _ _ _ _ _ _ _ _ _ _ _ _ _ _ _ _ _ _ _ _ _ _ k) ?_)
  exact EvP.nil ⟨trivial, _, outG _ _, _, rfl, rfl⟩
theorem phaS_eq (x y : N) : phaS x y = (bif hasL x.nf (lN y.nf 8).1 then ((lookL x.nf (lN y.nf 8).1).getD 0, 0) else (0, 6)) := by
  have key : ∀ m j, phF x y m j = match phB x.nf y.nf m j with
      | some v => (v, 0)
      | none => (0, 6) := by
    intro m
    induction m with
    | zero => intro j; rfl
    | succ m ih =>
      intro j
      simp only [phF, phB, trEs_nf]
      cases eqN x.nf (trEs j y.nf) with
      | true => rfl
      | false => exact ih (j + 1)
  unfold phaS
  rw [key, hasL_look, look_lN]
  cases phB x.nf y.nf 8 0 <;> rfl
theorem bif3_1 {α : Type} {x : N} {a : α} {f : Int → α} (h : rgB x = false) : bif3 x a f = f 3 := by unfold bif3; rw [h]; rfl
theorem bif3_2 {α : Type} {x : N} {a : α} {f : Int → α} (h : rgB x = true) (h2 : inB x = false) : bif3 x a f = f 8 := by unfold bif3; rw [h, h2]; rfl
theorem bif3_3 {α : Type} {x : N} {a : α} {f : Int → α} (h : rgB x = true) (h2 : inB x = true) : bif3 x a f = a := by unfold bif3; rw [h, h2]; rfl
theorem ePha (M : Int) (x y : N) (v : Value) (h : (phaT x y).get = some v) : EvF Tryz.prog (orcL LPh) (Sg1 M) 36 [N.v x, N.v y] v := by
  refine EvF.of_body (by
    unfold phaT badP at h
    rw [okT_get, okT_get] at h
    unfold bif3 at h
    revert h
    cases rgB x <;> cases inB x <;> cases rgB y <;> cases inB y <;> intro h <;> cases h <;> rfl) ?_
  rw [tmpsH]
  show Ev Tryz.prog (orcL LPh) (Sg1 M) Value 3 _ _ _ _
  refine Ev.of_pieces ?_
  rw [show flatC (bodyOf Tryz.prog 36) = _ from LH_eq]
  unfold phaT badP at h
  rw [okT_get, okT_get] at h
  unfold bif3 at h
  cases hx1 : rgB x with
  | false =>
    rw [hx1] at h; cases h
    exact EvP.stop (fun fs k => (headH M fs x y _ k).trans (bif3_1 hx1)) ⟨trivial, outH _ _ _ _ _ _ _ _⟩
  | true =>
  cases hx2 : inB x with
  | false =>
    rw [hx1, hx2] at h; cases h
    exact EvP.stop (fun fs k => (headH M fs x y _ k).trans (bif3_2 hx1 hx2)) ⟨trivial, outH _ _ _ _ _ _ _ _⟩
  | true =>
  cases hy1 : rgB y with
  | false =>
    rw [hx1, hx2, hy1] at h; cases h
    exact EvP.stop (fun fs k => (headH M fs x y _ k).trans ((bif3_3 hx1 hx2).trans (bif3_1 hy1))) ⟨trivial, outH _ _ _ _ _ _ _ _⟩
  | true =>
  cases hy2 : inB y with
  | false =>
    rw [hx1, hx2, hy1, hy2] at h; cases h
    exact EvP.stop (fun fs k => (headH M fs x y _ k).trans ((bif3_3 hx1 hx2).trans (bif3_2 hy1 hy2))) ⟨trivial, outH _ _ _ _ _ _ _ _⟩
  | true =>
  rw [hx1, hx2, hy1, hy2] at h
  cases h
  have hy : okB y = true := by unfold okB; rw [hy1, hy2]; rfl
  have hb : okB y.nf = true := okB_nf hy
  refine EvP.run (fun fs k => (headH M fs x y _ k).trans ((bif3_3 hx1 hx2).trans (bif3_3 hy1 hy2))) ?_
  refine EvP.run (fun fs k => midH M fs x y x.nf y.nf _ k) ?_
  refine EvP.step (Ev.block ?_)
  refine Ev.range (show 3 ≤ 8 by decide) (opdH _ _ _ _) calH ((evQ M x y x.nf y.nf hb).mono ?_)
  rintro v S2 ⟨J, hJ, rfl⟩
  refine ⟨_, loopAtH M _ _ _ _ _ _ _ _, rfl, rfl, ?_⟩
  match J, hJ with
  | [j0, j1, j2, j3, j4, j5, j6, j7], _ =>
    show EvP _ _ _ _ _ _ [qH 7, qH 8, qH 9, qH 10, qH 11] _ _ _
    rw [phaS_eq]
    cases hh : hasL x.nf (lN y.nf 8).1 with
    | true => exact EvP.stop (fun fs k => (tailH M fs x y x.nf y.nf _ _ _ _ _ _ _ _ _ _ _ _ _ _ k).trans (by rw [okKeysL, okValsL, hasKL, hh]; rfl)) ⟨trivial, by rw [outH, valKL]; rfl⟩
    | false => exact EvP.stop (fun fs k => (tailH M fs x y x.nf y.nf _ _ _ _ _ _ _ _ _ _ _ _ _ _ k).trans (by rw [okKeysL, okValsL, hasKL, hh]; rfl)) ⟨trivial, outH _ _ _ _ _ _ _ _⟩
theorem cPhaP_ok (M : Int) : ConOk M (con2 36 phaT) := con2_ok (LPh_ok M) fun x y v h => ePha M x y v h
end Go.Proofs.YtihccnfaibiiiaaGreatDoor.R
/- Ring: real numbers: the specification. -/
namespace Go.Proofs.YtihccnfaibiiiaaGreatDoor.R
open Go Go.Proofs.XX.Vm Go.Proofs.XX.Rm Go.RowKit
set_option maxRecDepth 100000

def cEqu : Con := con2 68 fun x y => okV2 x y (.val (.bool (eqN x.nf y.nf)))
theorem tEqu (M : Int) (m : Nat) (x y : N) : runK Tryz.prog (orcL [cFrm]) (Sg1 M) (m + 60) 68 [N.v x, N.v y] =
    bif symN x then (bif symN y then some (.bool (eqN x.nf y.nf)) else none) else none := by kernel_rfl
theorem cEqu_ok (M : Int) : ConOk M cEqu := con2_ok (mem_cons_ok (cFrm_ok M) nil_ok) fun x y v h => by
  obtain ⟨h0, h⟩ := OT.pre h
  cases h
  obtain ⟨h1, h2⟩ := okB2_iff h0
  refine EvF.of_eq 60 fun m => ?_
  rw [tEqu, symN_of h1, symN_of h2]; rfl
def cCjR : Con := con1 58 fun x => .val (N.v (conjW x))
theorem tCjR (M : Int) (m : Nat) (x : N) : runK Tryz.prog (orcL []) (Sg1 M) (m + 60) 58 [N.v x] = some (N.v (conjW x)) := by kernel_rfl
theorem cCjR_ok (M : Int) : ConOk M cCjR := con1_ok nil_ok fun x v h => by cases h; exact EvF.of_eq 60 fun m => tCjR M m x
abbrev LK1 : List Con := [cChkR, cEqu, cCjR]
theorem LK1_ok (M : Int) : ∀ c ∈ LK1, ConOk M c := mem_cons_ok (cChkR_ok M) (mem_cons_ok (cEqu_ok M) (mem_cons_ok (cCjR_ok M) nil_ok))
theorem tRealR (M : Int) (m : Nat) (x : N) : runK Tryz.prog (orcL LK1) (Sg1 M) (m + 60) 31 [N.v x] =
    bif3 x (bif okB2 x (conjW x) then some (resB (eqN x.nf (conjW x).nf, 0)) else none) fun n => some (resB (false, n)) := by kernel_rfl
theorem eqN_conj {x : N} (h : okB x = true) : okB2 x (conjW x) = true ∧ eqN x.nf (conjW x).nf = realB x := by
  obtain ⟨h1, h2, h3⟩ := (okB_iff x).1 h
  rw [conjW_eq h]
  exact ⟨okB2_mk h (okB_conj h), eqN_nf h1 rfl⟩
theorem cRealR_ok (M : Int) : ConOk M (con1 31 realT) := con1_ok (LK1_ok M) fun x v h => by
  refine EvF.of_eq 60 fun m => get_some h ?_
  rw [tRealR]
  unfold realT badB
  rw [okT_get]
  exact bif3_ext (fun hx => by rw [(eqN_conj hx).1, (eqN_conj hx).2]; rfl) fun n => rfl
end Go.Proofs.YtihccnfaibiiiaaGreatDoor.R
/- Ring: the program's Less, and what Real and Less give, as one value each. -/
namespace Go.Proofs.YtihccnfaibiiiaaGreatDoor.R
open Go Go.Proofs.XX.Vm Go.Proofs.XX.Rm Go.RowKit
set_option maxRecDepth 100000

/-- Less. -/
def lesT (x y : N) : OT := okT x (okT y (.ite (realB x) (.ite (realB y) (.ite (okB (x.sum y.neg).nf) (.val (resB (negB (x.sum y.neg).nf, 0))) (badB 8)) (badB 7)) (badB 7)) badB) badB
abbrev LLs : List Con := [cChk, con2 12 fun x y => okV2 x y (fitT (x.sum y.neg).nf), cNgP]
theorem LLs_ok (M : Int) : ∀ c ∈ LLs, ConOk M c := mem_cons_ok (cChk_ok M) (mem_cons_ok (okV2_of (cSub_ok M) fun _ _ hx hy => twoT_ok hx hy) (mem_cons_ok (cNgP_ok M) nil_ok))
theorem tLes (M : Int) (m : Nat) (x y : N) : runK Tryz.prog (orcL LLs) (Sg1 M) (m + 60) 35 [N.v x, N.v y] =
    bif3 x (bif3 y (bif !(realW x) then some (resB (false, 7)) else (bif !(realW y) then some (resB (false, 7)) else (bif okB2 x y then (bif okB (x.sum y.neg).nf then (bif okB (x.sum y.neg).nf then some (resB (negB (x.sum y.neg).nf, 0)) else none) else some (resB (false, 8))) else none)))
      fun n => some (resB (false, n))) fun n => some (resB (false, n)) := by kernel_rfl
theorem cLes_ok (M : Int) : ConOk M (con2 35 lesT) := con2_ok (LLs_ok M) fun x y v h => by
  refine EvF.of_eq 60 fun m => get_some h ?_
  rw [tLes]
  unfold lesT badB
  rw [okT_get]
  refine bif3_ext (fun hx => ?_) fun n => rfl
  rw [okT_get]
  refine bif3_ext (fun hy => ?_) fun n => rfl
  rw [realW_eq hx, realW_eq hy, okB2_mk hx hy]
  simp only [OT.get]
  cases realB x <;> cases realB y <;> cases okB (x.sum y.neg).nf <;> rfl
def realS (x : N) : Bool × Int := bif3 x (realB x, 0) fun n => (false, n)
def lesS (x y : N) : Bool × Int := bif3 x (bif3 y (bif realB x then (bif realB y then (bif okB (x.sum y.neg).nf then (negB (x.sum y.neg).nf, 0) else (false, 8)) else (false, 7)) else (false, 7)) fun n => (false, n)) fun n => (false, n)
theorem realS_get (x : N) : (realT x).get = some (resB (realS x)) := by
  unfold realT realS badB; rw [okT_get]; unfold bif3; cases rgB x <;> cases inB x <;> rfl
theorem lesS_get (x y : N) : (lesT x y).get = some (resB (lesS x y)) := by
  unfold lesT lesS badB; simp only [okT_get, OT.get]; unfold bif3
  cases rgB x <;> cases inB x <;> cases rgB y <;> cases inB y <;> cases realB x <;> cases realB y <;> cases okB (x.sum y.neg).nf <;> rfl
end Go.Proofs.YtihccnfaibiiiaaGreatDoor.R
/- Ring: the order of real numbers: the specification's Less. -/
namespace Go.Proofs.YtihccnfaibiiiaaGreatDoor.R
open Go Go.Proofs.XX.Vm Go.Proofs.XX.Rm Go.RowKit
set_option maxRecDepth 100000

theorem tNgR (M : Int) (m : Nat) (x : N) : runK Tryz.prog (orcL []) (Sg1 M) (m + 60) 69 [N.v x] =
    (fun H : Option Value => (fun G : Option Value => bif decide (x.a ≥ 0) then (bif decide (x.b ≥ 0) then some (.bool false) else G) else G)
      (bif decide (x.a ≤ 0) then (bif decide (x.b ≤ 0) then some (.bool true) else H) else H))
    (bif decide (x.a < 0) then some (.bool (decide (w (x.a * x.a) > w (w (2 * x.b) * x.b)))) else some (.bool (decide (w (w (2 * x.b) * x.b) > w (x.a * x.a))))) := by kernel_rfl
theorem dsq {a : Int} (h1 : -1073741824 ≤ a) (h2 : a ≤ 1073741824) : w (w (2 * a) * a) = 2 * (a * a) := by
  have := sq_in h1 h2
  rw [w_eq (2 * a) (by omega) (by omega), Int.mul_assoc]
  exact w_eq _ (by omega) (by omega)
theorem sq_pos {a : Int} (h : a ≠ 0) : 0 < a * a := by
  rcases Int.lt_or_eq_of_le (sq_nonneg a) with h1 | h1
  · exact h1
  · exact absurd (sq_zero h1.symm) h
def cNgR : Con := con1 69 fun x => okV x (.bool (negB x))
theorem cNgR_ok (M : Int) : ConOk M cNgR := con1_ok nil_ok fun x v h => by
  obtain ⟨h0, rfl⟩ := okV_get h
  obtain ⟨-, -, a1, a2, b1, b2, -⟩ := (okB_iff x).1 h0
  have qa := sq_in a1 a2
  have qb := sq_in b1 b2
  refine EvF.of_eq 60 fun m => ?_
  rw [tNgR, dsq b1 b2, psq a1 a2]
  have key : ∀ (p : Bool), p = negB x → some (Value.bool p) = some (Value.bool (negB x)) := fun p hp => by rw [hp]
  have pa : x.a ≠ 0 → 0 < x.a * x.a := sq_pos
  have pb : x.b ≠ 0 → 0 < x.b * x.b := sq_pos
  have za : x.a = 0 → x.a * x.a = 0 := fun h => by rw [h]; rfl
  have zb : x.b = 0 → x.b * x.b = 0 := fun h => by rw [h]; rfl
  simp only
  unfold negB sgn2 at *
  by_cases ha : x.a < 0 <;> by_cases hb : x.b < 0
  · rw [condF (decide_eq_false (show ¬ x.a ≥ 0 by omega)), condT (decide_eq_true (show x.a ≤ 0 by omega)), condT (decide_eq_true (show x.b ≤ 0 by omega))]
    refine key _ ?_
    rw [decide_eq_true ha, decide_eq_true hb]; exact (decide_eq_true (by simp only [cond_true]; omega)).symm
  · rw [condF (decide_eq_false (show ¬ x.a ≥ 0 by omega)), condT (decide_eq_true (show x.a ≤ 0 by omega))]
    by_cases hb0 : x.b ≤ 0
    · rw [condT (decide_eq_true hb0)]
      refine key _ ?_
      have hb1 : x.b = 0 := by omega
      have := zb hb1; have := pa (by omega)
      rw [decide_eq_true ha, decide_eq_false hb]; exact (decide_eq_true (by simp only [cond_true, cond_false]; omega)).symm
    · rw [condF (decide_eq_false hb0), condT (decide_eq_true ha)]
      refine key _ ?_
      rw [decide_eq_true ha, decide_eq_false hb]
      exact decide_eq_decide.2 (by simp only [cond_true, cond_false]; omega)
  · rw [condT (decide_eq_true (show x.a ≥ 0 by omega)), condF (decide_eq_false (show ¬ x.b ≥ 0 by omega))]
    by_cases ha0 : x.a ≤ 0
    · rw [condT (decide_eq_true ha0), condT (decide_eq_true (show x.b ≤ 0 by omega))]
      refine key _ ?_
      have ha1 : x.a = 0 := by omega
      have := za ha1; have := pb (by omega)
      rw [decide_eq_false ha, decide_eq_true hb]; exact (decide_eq_true (by simp only [cond_true, cond_false]; omega)).symm
    · rw [condF (decide_eq_false ha0), condF (decide_eq_false ha)]
      refine key _ ?_
      rw [decide_eq_false ha, decide_eq_true hb]
      exact decide_eq_decide.2 (by simp only [cond_true, cond_false]; omega)
  · rw [condT (decide_eq_true (show x.a ≥ 0 by omega)), condT (decide_eq_true (show x.b ≥ 0 by omega))]
    refine key _ ?_
    rw [decide_eq_false ha, decide_eq_false hb]; exact (decide_eq_false (by simp only [cond_false]; omega)).symm
abbrev LLr : List Con := [cChkR, cEqu, cCjR, con2 9 fun x y => okV2 x y (fitT (x.sum y.neg).nf), cNgR]
theorem LLr_ok (M : Int) : ∀ c ∈ LLr, ConOk M c := mem_cons_ok (cChkR_ok M) (mem_cons_ok (cEqu_ok M) (mem_cons_ok (cCjR_ok M) (mem_cons_ok (okV2_of (cSubR_ok M) fun _ _ hx hy => twoT_ok hx hy) (mem_cons_ok (cNgR_ok M) nil_ok))))
theorem tLesR (M : Int) (m : Nat) (x y : N) : runK Tryz.prog (orcL LLr) (Sg1 M) (m + 60) 32 [N.v x, N.v y] =
    bif3 x (bif3 y (bif okB2 x (conjW x) then (bif !(eqN x.nf (conjW x).nf) then some (resB (false, 7)) else (bif okB2 y (conjW y) then (bif !(eqN y.nf (conjW y).nf) then some (resB (false, 7)) else (bif okB2 x y then (bif okB (x.sum y.neg).nf then (bif okB (x.sum y.neg).nf then some (resB (negB (x.sum y.neg).nf, 0)) else none) else some (resB (false, 8))) else none)) else none)) else none)
      fun n => some (resB (false, n))) fun n => some (resB (false, n)) := by kernel_rfl
theorem cLesR_ok (M : Int) : ConOk M (con2 32 lesT) := con2_ok (LLr_ok M) fun x y v h => by
  refine EvF.of_eq 60 fun m => get_some h ?_
  rw [tLesR]
  unfold lesT badB
  rw [okT_get]
  refine bif3_ext (fun hx => ?_) fun n => rfl
  rw [okT_get]
  refine bif3_ext (fun hy => ?_) fun n => rfl
  rw [(eqN_conj hx).1, (eqN_conj hx).2, (eqN_conj hy).1, (eqN_conj hy).2, okB2_mk hx hy]
  simp only [OT.get]
  cases realB x <;> cases realB y <;> cases okB (x.sum y.neg).nf <;> rfl
end Go.Proofs.YtihccnfaibiiiaaGreatDoor.R
/- Ring: the specification's Omega, for all numbers (made by mkom.py). -/
namespace Go.Proofs.YtihccnfaibiiiaaGreatDoor.R
open Go Go.Proofs.XX.Vm Go.Proofs.XX.Rm Go.RowKit
set_option maxRecDepth 100000

def om1 : N := ⟨1, 0, 0, 0, 0⟩
def trn (z : N) : N := ⟨w (0 - z.d), z.a, z.b, z.c, 0⟩
def omN (n : Int) : Int := (w (n.tmod 8 + 8)).tmod 8
def trns : Nat → N → N
  | 0, z => z
  | m + 1, z => trns m (trn z)
noncomputable abbrev qM (i : Nat) : Code := nthC (pcs Tryz.prog 30) i
noncomputable abbrev BM : Code := loopOf Tryz.prog 30 0
theorem LM_eq : pcs Tryz.prog 30 = [qM 0, qM 1, qM 2, .block 0 (.loop BM), qM 4, qM 5] := by kernel_rfl
theorem headM {α : Type} (M : Int) (fs : Nat → Nat) (n : Int) (l : List Code) (k : Kont α) :
    evP Tryz.prog (orcL []) (Sg1 M) 3 fs 0 (qM 0 :: qM 1 :: qM 2 :: l) (.int .i64 n :: List.replicate 24 undef) (Sg1 M) k = evP Tryz.prog (orcL []) (Sg1 M) 3 fs 3 l [(.int .i64 (n)), undef, p1, p2, (.int .i64 (0)), (N.v om1), undef, undef, undef, undef, undef, undef, undef, undef, undef, undef, undef, undef, undef, undef, undef, undef, undef, undef, undef] [uni, pow, mxl M, rb O, rb om1] k := by kernel_rfl
theorem roundM {α : Type} (M : Int) (m : Nat) (n i : Int) (z : N) (v1 v5 v6 v7 v8 v9 v10 v11 v12 v13 v14 v15 v16 v17 v18 v19 v20 v21 v22 v23 v24 : Value) (k : Kont α) :
    evCodeK Tryz.prog (orcL []) (Sg1 M) (m + 60) 3 BM [(.int .i64 (n)), v1, p1, p2, (.int .i64 (i)), v5, v6, v7, v8, v9, v10, v11, v12, v13, v14, v15, v16, v17, v18, v19, v20, v21, v22, v23, v24] [uni, pow, mxl M, rb O, rb z] k =
    bif decide (i < omN n) then k .normal [(.int .i64 (n)), v1, p1, p2, (.int .i64 (w (i + 1))), v5, (.int .i64 (i)), (.int .i64 (n)), (.int .i64 (n.tmod 8)), (.int .i64 (w (n.tmod 8 + 8))), (.int .i64 (omN n)), (.bool true), (.int .i64 (i)), (.int .i64 (w (i + 1))), (.pointer (some ⟨4, 3, none⟩)), (.int .i64 (z.d)), (.int .i64 (w (0 - z.d))), (.pointer (some ⟨4, 0, none⟩)), (.int .i64 (z.a)), (.pointer (some ⟨4, 1, none⟩)), (.int .i64 (z.b)), (.pointer (some ⟨4, 2, none⟩)), (.int .i64 (z.c)), (N.v (trn z)), v24] [uni, pow, mxl M, rb O, rb (trn z)] else k (.exit 0) [(.int .i64 (n)), v1, p1, p2, (.int .i64 (i)), v5, (.int .i64 (i)), (.int .i64 (n)), (.int .i64 (n.tmod 8)), (.int .i64 (w (n.tmod 8 + 8))), (.int .i64 (omN n)), (.bool false), v12, v13, v14, v15, v16, v17, v18, v19, v20, v21, v22, v23, v24] [uni, pow, mxl M, rb O, rb z] := by kernel_rfl
theorem tailM {α : Type} (M : Int) (fs : Nat → Nat) (n i : Int) (z : N) (v1 v5 v6 v7 v8 v9 v10 v11 v12 v13 v14 v15 v16 v17 v18 v19 v20 v21 v22 v23 v24 : Value) (k : Kont α) :
    evP Tryz.prog (orcL []) (Sg1 M) 3 fs 4 [qM 4, qM 5] [(.int .i64 (n)), v1, p1, p2, (.int .i64 (i)), v5, v6, v7, v8, v9, v10, v11, v12, v13, v14, v15, v16, v17, v18, v19, v20, v21, v22, v23, v24] [uni, pow, mxl M, rb O, rb z] k = k .ret [(.int .i64 (n)), v1, p1, p2, (.int .i64 (i)), v5, v6, v7, v8, v9, v10, v11, v12, v13, v14, v15, v16, v17, v18, v19, v20, v21, v22, v23, (N.v z)] [uni, pow, mxl M, rb z, rb z] := by kernel_rfl
theorem loopM (M n : Int) (v1 v5 v6 v7 v8 v9 v10 v11 v12 v13 v14 v15 v16 v17 v18 v19 v20 v21 v22 v23 v24 : Value) :
    Ev Tryz.prog (orcL []) (Sg1 M) Value 3 (.loop BM) [(.int .i64 (n)), v1, p1, p2, (.int .i64 (0)), v5, v6, v7, v8, v9, v10, v11, v12, v13, v14, v15, v16, v17, v18, v19, v20, v21, v22, v23, v24] [uni, pow, mxl M, rb O, rb om1] fun e T S => e = .exit 0 ∧ (∃ (i : Int) (c1 c5 c6 c7 c8 c9 c10 c11 c12 c13 c14 c15 c16 c17 c18 c19 c20 c21 c22 c23 c24 : Value), T = [(.int .i64 (n)), c1, p1, p2, (.int .i64 (i)), c5, c6, c7, c8, c9, c10, c11, c12, c13, c14, c15, c16, c17, c18, c19, c20, c21, c22, c23, c24]) ∧ S = [uni, pow, mxl M, rb O, rb (trns (omN n).toNat om1)] := by
  have hb : omN n < 8 := Int.tmod_lt_of_pos _ (by omega)
  refine Ev.loop (fun m T S => ∃ (i : Int) (z : N) (c1 c5 c6 c7 c8 c9 c10 c11 c12 c13 c14 c15 c16 c17 c18 c19 c20 c21 c22 c23 c24 : Value), T = [(.int .i64 (n)), c1, p1, p2, (.int .i64 (i)), c5, c6, c7, c8, c9, c10, c11, c12, c13, c14, c15, c16, c17, c18, c19, c20, c21, c22, c23, c24] ∧ S = [uni, pow, mxl M, rb O, rb z] ∧ m = (omN n - i).toNat ∧ 0 ≤ i ∧ i ≤ 8 ∧ trns m z = trns (omN n).toNat om1) ?_ (omN n).toNat _ _ ⟨0, om1, v1, v5, v6, v7, v8, v9, v10, v11, v12, v13, v14, v15, v16, v17, v18, v19, v20, v21, v22, v23, v24, rfl, rfl, by omega, by omega, by omega, rfl⟩
  rintro m T S ⟨i, z, c1, c5, c6, c7, c8, c9, c10, c11, c12, c13, c14, c15, c16, c17, c18, c19, c20, c21, c22, c23, c24, rfl, rfl, hm, g1, g2, e1⟩
  by_cases hi : i < omN n
  · obtain ⟨j, hj⟩ : ∃ j, (omN n - i).toNat = j + 1 := ⟨(omN n - i).toNat - 1, by omega⟩
    rw [hj] at hm
    subst hm
    have hw : w (i + 1) = i + 1 := w_eq _ (by omega) (by omega)
    refine Ev.of_eq 60 (fun s k => (roundM M s n i z c1 c5 c6 c7 c8 c9 c10 c11 c12 c13 c14 c15 c16 c17 c18 c19 c20 c21 c22 c23 c24 k).trans (condT (decide_eq_true hi))) ?_
    exact ⟨j, Nat.lt_succ_self j, i + 1, trn z, c1, c5, .int .i64 (i), .int .i64 (n), .int .i64 (n.tmod 8), .int .i64 (w (n.tmod 8 + 8)), .int .i64 (omN n), .bool true, .int .i64 (i), .int .i64 (w (i + 1)), .pointer (some ⟨4, 3, none⟩), .int .i64 (z.d), .int .i64 (w (0 - z.d)), .pointer (some ⟨4, 0, none⟩), .int .i64 (z.a), .pointer (some ⟨4, 1, none⟩), .int .i64 (z.b), .pointer (some ⟨4, 2, none⟩), .int .i64 (z.c), N.v (trn z), c24, by rw [hw], rfl, by omega, by omega, by omega, e1⟩
  · have h0 : m = 0 := by omega
    subst h0
    refine Ev.of_eq 60 (fun s k => (roundM M s n i z c1 c5 c6 c7 c8 c9 c10 c11 c12 c13 c14 c15 c16 c17 c18 c19 c20 c21 c22 c23 c24 k).trans (condF (decide_eq_false hi))) ?_
    exact ⟨rfl, ⟨i, c1, c5, .int .i64 (i), .int .i64 (n), .int .i64 (n.tmod 8), .int .i64 (w (n.tmod 8 + 8)), .int .i64 (omN n), .bool false, c12, c13, c14, c15, c16, c17, c18, c19, c20, c21, c22, c23, c24, rfl⟩, by rw [← e1]; rfl⟩
theorem tmpsM (n : Int) : tmps0Of Tryz.prog 30 [.int .i64 n] = .int .i64 n :: List.replicate 24 undef := by kernel_rfl
theorem outM (z : N) (a0 a1 : Value) (L : List Value) (b0 b1 b2 : Blk) (R : List Blk) : outOf Tryz.prog 30 (a0 :: a1 :: p1 :: L) (b0 :: b1 :: b2 :: rb z :: R) = some (N.v z) := by kernel_rfl
theorem eM (M n : Int) : EvF Tryz.prog (orcL []) (Sg1 M) 30 [.int .i64 n] (N.v (trns (omN n).toNat om1)) := by
  refine EvF.of_body rfl ?_
  rw [tmpsM]
  show Ev Tryz.prog (orcL []) (Sg1 M) Value 3 _ _ _ _
  refine Ev.of_pieces ?_
  rw [show flatC (bodyOf Tryz.prog 30) = _ from LM_eq]
  refine EvP.run (fun fs k => headM M fs n _ k) ?_
  refine EvP.step (Ev.block ((loopM M n _ _ _ _ _ _ _ _ _ _ _ _ _ _ _ _ _ _ _ _ _).mono ?_))
  rintro e T S ⟨rfl, ⟨i, c1, c5, c6, c7, c8, c9, c10, c11, c12, c13, c14, c15, c16, c17, c18, c19, c20, c21, c22, c23, c24, rfl⟩, rfl⟩
  exact EvP.stop (fun fs k => tailM M fs n i _ _ _ _ _ _ _ _ _ _ _ _ _ _ _ _ _ _ _ _ _ _ k) ⟨trivial, outM _ _ _ _ _ _ _ _⟩
def cOmR : Con := ⟨30, fun args => match args with
  | [.int .i64 n] => some (.val (N.v (trns (omN n).toNat om1)))
  | _ => none⟩
theorem cOmR_ok (M : Int) : ConOk M cOmR := by
  refine conOk_of_evF nil_ok ?_
  intro args t v ht hv
  simp only [cOmR] at ht
  split at ht
  · cases ht; cases hv; exact ⟨rfl, eM M _⟩
  · cases ht
end Go.Proofs.YtihccnfaibiiiaaGreatDoor.R
/- Ring: the specification's Phase (made by mkph.py, split2.py). -/
namespace Go.Proofs.YtihccnfaibiiiaaGreatDoor.R
open Go Go.Proofs.XX.Vm Go.Proofs.XX.Rm Go.RowKit
set_option maxRecDepth 100000

theorem pushP {c : Bool} {a b : Int × Int} : (bif c then some (resP a) else some (resP b)) = some (resP (bif c then a else b)) := by cases c <;> rfl
noncomputable abbrev LP : List Con := [cChkR, cOmR, con2 46 fun x y => .ite (okB2 x y) (.val (N.v (x.mul y))) .no, cEqu]
theorem LP_ok (M : Int) : ∀ c ∈ LP, ConOk M c := mem_cons_ok (cChkR_ok M) (mem_cons_ok (cOmR_ok M) (mem_cons_ok (cPrd_ok M) (mem_cons_ok (cEqu_ok M) nil_ok)))
theorem tPhaR (M : Int) (m : Nat) (x y : N) : runK Tryz.prog (orcL LP) (Sg1 M) (m + 80) 33 [N.v x, N.v y] =
    bif3 x (bif3 y (bif okB2 y (trns (omN 0).toNat om1) then (bif okB2 x (y.mul (trns (omN 0).toNat om1)) then (bif eqN x.nf (y.mul (trns (omN 0).toNat om1)).nf then some (resP (0, 0)) else (bif okB2 y (trns (omN 1).toNat om1) then (bif okB2 x (y.mul (trns (omN 1).toNat om1)) then (bif eqN x.nf (y.mul (trns (omN 1).toNat om1)).nf then some (resP (1, 0)) else (bif okB2 y (trns (omN 2).toNat om1) then (bif okB2 x (y.mul (trns (omN 2).toNat om1)) then (bif eqN x.nf (y.mul (trns (omN 2).toNat om1)).nf then some (resP (2, 0)) else (bif okB2 y (trns (omN 3).toNat om1) then (bif okB2 x (y.mul (trns (omN 3).toNat om1)) then (bif eqN x.nf (y.mul (trns (omN 3).toNat om1)).nf then some (resP (3, 0)) else (bif okB2 y (trns (omN 4).toNat om1) then (bif okB2 x (y.mul (trns (omN 4).toNat om1)) then (bif eqN x.nf (y.mul (trns (omN 4).toNat om1)).nf then some (resP (4, 0)) else (bif okB2 y (trns (omN 5).toNat om1) then (bif okB2 x (y.mul (trns (omN 5).toNat om1)) then (bif eqN x.nf (y.mul (trns (omN 5).toNat om1)).nf then some (resP (5, 0)) else (bif okB2 y (trns (omN 6).toNat om1) then (bif okB2 x (y.mul (trns (omN 6).toNat om1)) then (bif eqN x.nf (y.mul (trns (omN 6).toNat om1)).nf then some (resP (6, 0)) else (bif okB2 y (trns (omN 7).toNat om1) then (bif okB2 x (y.mul (trns (omN 7).toNat om1)) then (bif eqN x.nf (y.mul (trns (omN 7).toNat om1)).nf then some (resP (7, 0)) else some (resP (0, 6))) else none) else none)) else none) else none)) else none) else none)) else none) else none)) else none) else none)) else none) else none)) else none) else none)) else none) else none) fun n => some (resP (0, n))) fun n => some (resP (0, n)) := by kernel_rfl
theorem om_0 : trns (omN 0).toNat om1 = ⟨1, 0, 0, 0, 0⟩ := by kernel_rfl
theorem mul_om0 (y : N) : y.mul (trns (omN 0).toNat om1) = trEs 0 y := by
  rw [om_0]; ext <;> simp only [N.mul, trEs] <;> omega
theorem ok_om0 {y : N} (h : okB y = true) : okB2 y (trns (omN 0).toNat om1) = true := okB2_mk h (by rw [om_0]; decide)
theorem om_1 : trns (omN 1).toNat om1 = ⟨0, 1, 0, 0, 0⟩ := by kernel_rfl
theorem mul_om1 (y : N) : y.mul (trns (omN 1).toNat om1) = trEs 1 y := by
  rw [om_1]; ext <;> simp only [N.mul, trEs, trE] <;> omega
theorem ok_om1 {y : N} (h : okB y = true) : okB2 y (trns (omN 1).toNat om1) = true := okB2_mk h (by rw [om_1]; decide)
theorem om_2 : trns (omN 2).toNat om1 = ⟨0, 0, 1, 0, 0⟩ := by kernel_rfl
theorem mul_om2 (y : N) : y.mul (trns (omN 2).toNat om1) = trEs 2 y := by
  rw [om_2]; ext <;> simp only [N.mul, trEs, trE] <;> omega
theorem ok_om2 {y : N} (h : okB y = true) : okB2 y (trns (omN 2).toNat om1) = true := okB2_mk h (by rw [om_2]; decide)
theorem om_3 : trns (omN 3).toNat om1 = ⟨0, 0, 0, 1, 0⟩ := by kernel_rfl
theorem mul_om3 (y : N) : y.mul (trns (omN 3).toNat om1) = trEs 3 y := by
  rw [om_3]; ext <;> simp only [N.mul, trEs, trE] <;> omega
theorem ok_om3 {y : N} (h : okB y = true) : okB2 y (trns (omN 3).toNat om1) = true := okB2_mk h (by rw [om_3]; decide)
theorem om_4 : trns (omN 4).toNat om1 = ⟨-1, 0, 0, 0, 0⟩ := by kernel_rfl
theorem mul_om4 (y : N) : y.mul (trns (omN 4).toNat om1) = trEs 4 y := by
  rw [om_4]; ext <;> simp only [N.mul, trEs, trE] <;> omega
theorem ok_om4 {y : N} (h : okB y = true) : okB2 y (trns (omN 4).toNat om1) = true := okB2_mk h (by rw [om_4]; decide)
theorem om_5 : trns (omN 5).toNat om1 = ⟨0, -1, 0, 0, 0⟩ := by kernel_rfl
theorem mul_om5 (y : N) : y.mul (trns (omN 5).toNat om1) = trEs 5 y := by
  rw [om_5]; ext <;> simp only [N.mul, trEs, trE] <;> omega
theorem ok_om5 {y : N} (h : okB y = true) : okB2 y (trns (omN 5).toNat om1) = true := okB2_mk h (by rw [om_5]; decide)
theorem om_6 : trns (omN 6).toNat om1 = ⟨0, 0, -1, 0, 0⟩ := by kernel_rfl
theorem mul_om6 (y : N) : y.mul (trns (omN 6).toNat om1) = trEs 6 y := by
  rw [om_6]; ext <;> simp only [N.mul, trEs, trE] <;> omega
theorem ok_om6 {y : N} (h : okB y = true) : okB2 y (trns (omN 6).toNat om1) = true := okB2_mk h (by rw [om_6]; decide)
theorem om_7 : trns (omN 7).toNat om1 = ⟨0, 0, 0, -1, 0⟩ := by kernel_rfl
theorem mul_om7 (y : N) : y.mul (trns (omN 7).toNat om1) = trEs 7 y := by
  rw [om_7]; ext <;> simp only [N.mul, trEs, trE] <;> omega
theorem ok_om7 {y : N} (h : okB y = true) : okB2 y (trns (omN 7).toNat om1) = true := okB2_mk h (by rw [om_7]; decide)
theorem cPhaR_ok (M : Int) : ConOk M (con2 33 phaT) := con2_ok (LP_ok M) fun x y v h => by
  refine EvF.of_eq 80 fun m => get_some h ?_
  rw [tPhaR]
  unfold phaT badP
  rw [okT_get]
  refine bif3_ext (fun hx => ?_) fun n => rfl
  rw [okT_get]
  refine bif3_ext (fun hy => ?_) fun n => rfl
  rw [ok_om0 hy, ok_om1 hy, ok_om2 hy, ok_om3 hy, ok_om4 hy, ok_om5 hy, ok_om6 hy, ok_om7 hy, mul_om0, mul_om1, mul_om2, mul_om3, mul_om4, mul_om5, mul_om6, mul_om7, okB2_mk hx (okB_trEs hy 0), okB2_mk hx (okB_trEs hy 1), okB2_mk hx (okB_trEs hy 2), okB2_mk hx (okB_trEs hy 3), okB2_mk hx (okB_trEs hy 4), okB2_mk hx (okB_trEs hy 5), okB2_mk hx (okB_trEs hy 6), okB2_mk hx (okB_trEs hy 7)]
  simp only [OT.get, cond_true, pushP]
  rfl
end Go.Proofs.YtihccnfaibiiiaaGreatDoor.R
/- Ring: both Omegas give the same. -/
namespace Go.Proofs.YtihccnfaibiiiaaGreatDoor.R
open Go Go.Proofs.XX.Vm Go.Proofs.XX.Rm Go.RowKit
set_option maxRecDepth 100000

theorem xo_eq (n : Int) : xo n = trns (omN n).toNat om1 := by
  have h8 : 0 ≤ n % 8 ∧ n % 8 < 8 := by omega
  have ho : omN n = n % 8 := by
    unfold omN
    have t1 := Int.tmod_lt_of_pos n (b := 8) (by omega)
    have t2 := Int.lt_tmod_of_pos n (b := 8) (by omega)
    have t3 := Int.tmod_add_mul_tdiv n 8
    rw [w_eq _ (by omega) (by omega), Int.tmod_eq_emod_of_nonneg (by omega)]
    omega
  rw [ho]
  unfold xo
  rw [andE_eq]
  generalize n % 8 = m at h8
  have : m = 0 ∨ m = 1 ∨ m = 2 ∨ m = 3 ∨ m = 4 ∨ m = 5 ∨ m = 6 ∨ m = 7 := by omega
  rcases this with rfl | rfl | rfl | rfl | rfl | rfl | rfl | rfl <;> rfl
end Go.Proofs.YtihccnfaibiiiaaGreatDoor.R
/- Ring: what the functions of order give, as one value each. -/
namespace Go.Proofs.YtihccnfaibiiiaaGreatDoor.R
open Go Go.Proofs.XX.Vm Go.Proofs.XX.Rm Go.RowKit
set_option maxRecDepth 100000
noncomputable abbrev LOrders : List Con := [con1 34 fun x => .val (resB (realS x)), con1 31 fun x => .val (resB (realS x)), con2 35 fun x y => .val (resB (lesS x y)), con2 32 fun x y => .val (resB (lesS x y)), con2 36 fun x y => .val (resP (phS x y)), con2 33 fun x y => .val (resP (phS x y)), cAwk]
theorem LOrders_ok (M : Int) : ∀ c ∈ LOrders, ConOk M c :=
  mem_cons_ok (con1_val (cReal_ok M) realS_get) (mem_cons_ok (con1_val (cRealR_ok M) realS_get) (mem_cons_ok (con2_val (cLes_ok M) lesS_get) (mem_cons_ok (con2_val (cLesR_ok M) lesS_get) (mem_cons_ok (con2_val (cPhaP_ok M) phS_get) (mem_cons_ok (con2_val (cPhaR_ok M) phS_get) (mem_cons_ok (cAwk_ok M) nil_ok))))))
end Go.Proofs.YtihccnfaibiiiaaGreatDoor.R
