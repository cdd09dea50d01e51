/- Ring: the program's Omega, for all numbers (made by mkpo.py). -/
import Derived.Test.YtonjnnjnojmpjaaGreatDoorW3
import Derived.Test.YtonjnnjnojmpjaaGreatDoorG5
namespace Go.Proofs.YtonjnnjnojmpjaaGreatDoor.R
open Go Go.Proofs.XX.Vm Go.Proofs.XX.Rm Go.RowKit
set_option maxRecDepth 100000

def om0 : N := ⟨1, 0, 0, 0, 0⟩
def andE (n : Int) : Int := IntKind.i64.wrap ((BitVec.ofInt 64 n &&& BitVec.ofInt 64 7).toNat)
def ib (n : Int) : Blk := ⟨[.int .i64 n], 3, false, none⟩
def cb (x : N) : Blk := ⟨[.int .i64 x.a, .int .i64 x.b, .int .i64 x.c, .int .i64 x.d], 59, false, none⟩
def yl (b : Nat) : Value := .func (.yield b) #[] #[]
def TO (n : Int) : List Value := [.int .i64 (n), .pointer (some ⟨3, 0, none⟩), .pointer (some ⟨4, 0, none⟩), .pointer (some ⟨5, 0, none⟩), undef, undef, N.v om0, (.func (.func 91) #[] #[.pointer (some ⟨6, 0, none⟩)]), undef, undef, undef, undef, undef, undef, undef, undef]
noncomputable def hO (M n : Int) (x c : N) : List Blk := [uni, pow, mxl M, ib n, rb O, rb x, rb om0, loopBlk ⟨.ready, none, TO n, (rangeOf Tryz.prog 29 0).2.1, (rangeOf Tryz.prog 29 0).2.2.1, (rangeOf Tryz.prog 29 0).2.2.2⟩, cb c]
noncomputable abbrev qP (i : Nat) : Code := nthC (pcs Tryz.prog 29) i
noncomputable abbrev BO : Code := loopOf Tryz.prog 91 0
theorem LO_eq : pcs Tryz.prog 29 = [qP 0, qP 1, qP 2, .block 0 (.rangeFunc (rangeOf Tryz.prog 29 0).1 (rangeOf Tryz.prog 29 0).2.1 (rangeOf Tryz.prog 29 0).2.2.1 (rangeOf Tryz.prog 29 0).2.2.2), qP 4, qP 5] := by kernel_rfl
noncomputable abbrev qG (i : Nat) : Code := nthC (pcs Tryz.prog 91) i
theorem LG_eq : pcs Tryz.prog 91 = [qG 0, qG 1, .block 0 (.loop BO)] := by kernel_rfl
theorem headO {α : Type} (M : Int) (fs : Nat → Nat) (n : Int) (l : List Code) (k : Kont α) :
    evP Tryz.prog (orcL []) (Sg1 M) 3 fs 0 (qP 0 :: qP 1 :: qP 2 :: l) (.int .i64 n :: List.replicate 15 undef) (Sg1 M) k = evP Tryz.prog (orcL []) (Sg1 M) 3 fs 3 l (TO n) [uni, pow, mxl M, ib n, rb O, rb O, rb om0] k := by kernel_rfl
theorem headG {α : Type} (M : Int) (fs : Nat → Nat) (n : Int) (l : List Code) (k : Kont α) :
    evP Tryz.prog (orcL []) (Sg1 M) 3 fs 0 (qG 0 :: qG 1 :: l) (yl 7 :: .pointer (some ⟨6, 0, none⟩) :: List.replicate 19 undef) ((hO M n O om0).take 8) k = evP Tryz.prog (orcL []) (Sg1 M) 3 fs 2 l [yl 7, .pointer (some ⟨6, 0, none⟩), undef, .pointer (some ⟨8, 0, none⟩), undef, N.v om0, N.cv om0, .int .i64 0, undef, undef, undef, undef, undef, undef, undef, undef, undef, undef, undef, undef, undef] (hO M n O (⟨1, 0, 0, 0, 0⟩ : N) ++ []) k := by kernel_rfl
theorem roundO0 {α : Type} (M : Int) (m : Nat) (n : Int) (x : N) (v2 v4 v5 v6 v8 v9 v10 v11 v12 v13 v14 v15 v16 v17 v18 v19 v20 : Value) (k : Kont α) :
    evCodeK Tryz.prog (orcL []) (Sg1 M) (m + 60) 3 BO [yl 7, .pointer (some ⟨6, 0, none⟩), v2, .pointer (some ⟨8, 0, none⟩), v4, v5, v6, .int .i64 (0), v8, v9, v10, v11, v12, v13, v14, v15, v16, v17, v18, v19, v20] (hO M n x (⟨1, 0, 0, 0, 0⟩ : N) ++ []) k =
    bif (0 : Int) == andE n then k .normal [yl 7, .pointer (some ⟨6, 0, none⟩), v2, .pointer (some ⟨8, 0, none⟩), .int .i64 (0), v5, v6, .int .i64 (1), .bool true, .int .i64 (0), yl 7, .int .i64 (0), N.cv (⟨1, 0, 0, 0, 0⟩ : N), .pointer (some ⟨6, 4, none⟩), .int .i64 (0), N.v (⟨1, 0, 0, 0, 0⟩ : N), .bool true, .bool false, N.cv (⟨1, 0, 0, 0, 0⟩ : N), N.cv (⟨0, 1, 0, 0, 0⟩ : N), .int .i64 (1)] (hO M n (⟨1, 0, 0, 0, 0⟩ : N) (⟨0, 1, 0, 0, 0⟩ : N) ++ [rb (⟨1, 0, 0, 0, 0⟩ : N)]) else k .normal [yl 7, .pointer (some ⟨6, 0, none⟩), v2, .pointer (some ⟨8, 0, none⟩), .int .i64 (0), v5, v6, .int .i64 (1), .bool true, .int .i64 (0), yl 7, .int .i64 (0), N.cv (⟨1, 0, 0, 0, 0⟩ : N), .pointer (some ⟨6, 4, none⟩), .int .i64 (0), N.v (⟨1, 0, 0, 0, 0⟩ : N), .bool true, .bool false, N.cv (⟨1, 0, 0, 0, 0⟩ : N), N.cv (⟨0, 1, 0, 0, 0⟩ : N), .int .i64 (1)] (hO M n x (⟨0, 1, 0, 0, 0⟩ : N) ++ [rb (⟨1, 0, 0, 0, 0⟩ : N)]) := by kernel_rfl
theorem roundO1 {α : Type} (M : Int) (m : Nat) (n : Int) (x : N) (v2 v4 v5 v6 v8 v9 v10 v11 v12 v13 v14 v15 v16 v17 v18 v19 v20 : Value) (k : Kont α) :
    evCodeK Tryz.prog (orcL []) (Sg1 M) (m + 60) 3 BO [yl 7, .pointer (some ⟨6, 0, none⟩), v2, .pointer (some ⟨8, 0, none⟩), v4, v5, v6, .int .i64 (1), v8, v9, v10, v11, v12, v13, v14, v15, v16, v17, v18, v19, v20] (hO M n x (⟨0, 1, 0, 0, 0⟩ : N) ++ [rb (⟨1, 0, 0, 0, 0⟩ : N)]) k =
    bif (1 : Int) == andE n then k .normal [yl 7, .pointer (some ⟨6, 0, none⟩), v2, .pointer (some ⟨8, 0, none⟩), .int .i64 (1), v5, v6, .int .i64 (2), .bool true, .int .i64 (1), yl 7, .int .i64 (1), N.cv (⟨0, 1, 0, 0, 0⟩ : N), .pointer (some ⟨6, 4, none⟩), .int .i64 (0), N.v (⟨0, 1, 0, 0, 0⟩ : N), .bool true, .bool false, N.cv (⟨0, 1, 0, 0, 0⟩ : N), N.cv (⟨0, 0, 1, 0, 0⟩ : N), .int .i64 (2)] (hO M n (⟨0, 1, 0, 0, 0⟩ : N) (⟨0, 0, 1, 0, 0⟩ : N) ++ [rb (⟨1, 0, 0, 0, 0⟩ : N), rb (⟨0, 1, 0, 0, 0⟩ : N)]) else k .normal [yl 7, .pointer (some ⟨6, 0, none⟩), v2, .pointer (some ⟨8, 0, none⟩), .int .i64 (1), v5, v6, .int .i64 (2), .bool true, .int .i64 (1), yl 7, .int .i64 (1), N.cv (⟨0, 1, 0, 0, 0⟩ : N), .pointer (some ⟨6, 4, none⟩), .int .i64 (0), N.v (⟨0, 1, 0, 0, 0⟩ : N), .bool true, .bool false, N.cv (⟨0, 1, 0, 0, 0⟩ : N), N.cv (⟨0, 0, 1, 0, 0⟩ : N), .int .i64 (2)] (hO M n x (⟨0, 0, 1, 0, 0⟩ : N) ++ [rb (⟨1, 0, 0, 0, 0⟩ : N), rb (⟨0, 1, 0, 0, 0⟩ : N)]) := by kernel_rfl
theorem roundO2 {α : Type} (M : Int) (m : Nat) (n : Int) (x : N) (v2 v4 v5 v6 v8 v9 v10 v11 v12 v13 v14 v15 v16 v17 v18 v19 v20 : Value) (k : Kont α) :
    evCodeK Tryz.prog (orcL []) (Sg1 M) (m + 60) 3 BO [yl 7, .pointer (some ⟨6, 0, none⟩), v2, .pointer (some ⟨8, 0, none⟩), v4, v5, v6, .int .i64 (2), v8, v9, v10, v11, v12, v13, v14, v15, v16, v17, v18, v19, v20] (hO M n x (⟨0, 0, 1, 0, 0⟩ : N) ++ [rb (⟨1, 0, 0, 0, 0⟩ : N), rb (⟨0, 1, 0, 0, 0⟩ : N)]) k =
    bif (2 : Int) == andE n then k .normal [yl 7, .pointer (some ⟨6, 0, none⟩), v2, .pointer (some ⟨8, 0, none⟩), .int .i64 (2), v5, v6, .int .i64 (3), .bool true, .int .i64 (2), yl 7, .int .i64 (2), N.cv (⟨0, 0, 1, 0, 0⟩ : N), .pointer (some ⟨6, 4, none⟩), .int .i64 (0), N.v (⟨0, 0, 1, 0, 0⟩ : N), .bool true, .bool false, N.cv (⟨0, 0, 1, 0, 0⟩ : N), N.cv (⟨0, 0, 0, 1, 0⟩ : N), .int .i64 (3)] (hO M n (⟨0, 0, 1, 0, 0⟩ : N) (⟨0, 0, 0, 1, 0⟩ : N) ++ [rb (⟨1, 0, 0, 0, 0⟩ : N), rb (⟨0, 1, 0, 0, 0⟩ : N), rb (⟨0, 0, 1, 0, 0⟩ : N)]) else k .normal [yl 7, .pointer (some ⟨6, 0, none⟩), v2, .pointer (some ⟨8, 0, none⟩), .int .i64 (2), v5, v6, .int .i64 (3), .bool true, .int .i64 (2), yl 7, .int .i64 (2), N.cv (⟨0, 0, 1, 0, 0⟩ : N), .pointer (some ⟨6, 4, none⟩), .int .i64 (0), N.v (⟨0, 0, 1, 0, 0⟩ : N), .bool true, .bool false, N.cv (⟨0, 0, 1, 0, 0⟩ : N), N.cv (⟨0, 0, 0, 1, 0⟩ : N), .int .i64 (3)] (hO M n x (⟨0, 0, 0, 1, 0⟩ : N) ++ [rb (⟨1, 0, 0, 0, 0⟩ : N), rb (⟨0, 1, 0, 0, 0⟩ : N), rb (⟨0, 0, 1, 0, 0⟩ : N)]) := by kernel_rfl
theorem roundO3 {α : Type} (M : Int) (m : Nat) (n : Int) (x : N) (v2 v4 v5 v6 v8 v9 v10 v11 v12 v13 v14 v15 v16 v17 v18 v19 v20 : Value) (k : Kont α) :
    evCodeK Tryz.prog (orcL []) (Sg1 M) (m + 60) 3 BO [yl 7, .pointer (some ⟨6, 0, none⟩), v2, .pointer (some ⟨8, 0, none⟩), v4, v5, v6, .int .i64 (3), v8, v9, v10, v11, v12, v13, v14, v15, v16, v17, v18, v19, v20] (hO M n x (⟨0, 0, 0, 1, 0⟩ : N) ++ [rb (⟨1, 0, 0, 0, 0⟩ : N), rb (⟨0, 1, 0, 0, 0⟩ : N), rb (⟨0, 0, 1, 0, 0⟩ : N)]) k =
    bif (3 : Int) == andE n then k .normal [yl 7, .pointer (some ⟨6, 0, none⟩), v2, .pointer (some ⟨8, 0, none⟩), .int .i64 (3), v5, v6, .int .i64 (4), .bool true, .int .i64 (3), yl 7, .int .i64 (3), N.cv (⟨0, 0, 0, 1, 0⟩ : N), .pointer (some ⟨6, 4, none⟩), .int .i64 (0), N.v (⟨0, 0, 0, 1, 0⟩ : N), .bool true, .bool false, N.cv (⟨0, 0, 0, 1, 0⟩ : N), N.cv (⟨-1, 0, 0, 0, 0⟩ : N), .int .i64 (4)] (hO M n (⟨0, 0, 0, 1, 0⟩ : N) (⟨-1, 0, 0, 0, 0⟩ : N) ++ [rb (⟨1, 0, 0, 0, 0⟩ : N), rb (⟨0, 1, 0, 0, 0⟩ : N), rb (⟨0, 0, 1, 0, 0⟩ : N), rb (⟨0, 0, 0, 1, 0⟩ : N)]) else k .normal [yl 7, .pointer (some ⟨6, 0, none⟩), v2, .pointer (some ⟨8, 0, none⟩), .int .i64 (3), v5, v6, .int .i64 (4), .bool true, .int .i64 (3), yl 7, .int .i64 (3), N.cv (⟨0, 0, 0, 1, 0⟩ : N), .pointer (some ⟨6, 4, none⟩), .int .i64 (0), N.v (⟨0, 0, 0, 1, 0⟩ : N), .bool true, .bool false, N.cv (⟨0, 0, 0, 1, 0⟩ : N), N.cv (⟨-1, 0, 0, 0, 0⟩ : N), .int .i64 (4)] (hO M n x (⟨-1, 0, 0, 0, 0⟩ : N) ++ [rb (⟨1, 0, 0, 0, 0⟩ : N), rb (⟨0, 1, 0, 0, 0⟩ : N), rb (⟨0, 0, 1, 0, 0⟩ : N), rb (⟨0, 0, 0, 1, 0⟩ : N)]) := by kernel_rfl
theorem roundO4 {α : Type} (M : Int) (m : Nat) (n : Int) (x : N) (v2 v4 v5 v6 v8 v9 v10 v11 v12 v13 v14 v15 v16 v17 v18 v19 v20 : Value) (k : Kont α) :
    evCodeK Tryz.prog (orcL []) (Sg1 M) (m + 60) 3 BO [yl 7, .pointer (some ⟨6, 0, none⟩), v2, .pointer (some ⟨8, 0, none⟩), v4, v5, v6, .int .i64 (4), v8, v9, v10, v11, v12, v13, v14, v15, v16, v17, v18, v19, v20] (hO M n x (⟨-1, 0, 0, 0, 0⟩ : N) ++ [rb (⟨1, 0, 0, 0, 0⟩ : N), rb (⟨0, 1, 0, 0, 0⟩ : N), rb (⟨0, 0, 1, 0, 0⟩ : N), rb (⟨0, 0, 0, 1, 0⟩ : N)]) k =
    bif (4 : Int) == andE n then k .normal [yl 7, .pointer (some ⟨6, 0, none⟩), v2, .pointer (some ⟨8, 0, none⟩), .int .i64 (4), v5, v6, .int .i64 (5), .bool true, .int .i64 (4), yl 7, .int .i64 (4), N.cv (⟨-1, 0, 0, 0, 0⟩ : N), .pointer (some ⟨6, 4, none⟩), .int .i64 (0), N.v (⟨-1, 0, 0, 0, 0⟩ : N), .bool true, .bool false, N.cv (⟨-1, 0, 0, 0, 0⟩ : N), N.cv (⟨0, -1, 0, 0, 0⟩ : N), .int .i64 (5)] (hO M n (⟨-1, 0, 0, 0, 0⟩ : N) (⟨0, -1, 0, 0, 0⟩ : N) ++ [rb (⟨1, 0, 0, 0, 0⟩ : N), rb (⟨0, 1, 0, 0, 0⟩ : N), rb (⟨0, 0, 1, 0, 0⟩ : N), rb (⟨0, 0, 0, 1, 0⟩ : N), rb (⟨-1, 0, 0, 0, 0⟩ : N)]) else k .normal [yl 7, .pointer (some ⟨6, 0, none⟩), v2, .pointer (some ⟨8, 0, none⟩), .int .i64 (4), v5, v6, .int .i64 (5), .bool true, .int .i64 (4), yl 7, .int .i64 (4), N.cv (⟨-1, 0, 0, 0, 0⟩ : N), .pointer (some ⟨6, 4, none⟩), .int .i64 (0), N.v (⟨-1, 0, 0, 0, 0⟩ : N), .bool true, .bool false, N.cv (⟨-1, 0, 0, 0, 0⟩ : N), N.cv (⟨0, -1, 0, 0, 0⟩ : N), .int .i64 (5)] (hO M n x (⟨0, -1, 0, 0, 0⟩ : N) ++ [rb (⟨1, 0, 0, 0, 0⟩ : N), rb (⟨0, 1, 0, 0, 0⟩ : N), rb (⟨0, 0, 1, 0, 0⟩ : N), rb (⟨0, 0, 0, 1, 0⟩ : N), rb (⟨-1, 0, 0, 0, 0⟩ : N)]) := by kernel_rfl
theorem roundO5 {α : Type} (M : Int) (m : Nat) (n : Int) (x : N) (v2 v4 v5 v6 v8 v9 v10 v11 v12 v13 v14 v15 v16 v17 v18 v19 v20 : Value) (k : Kont α) :
    evCodeK Tryz.prog (orcL []) (Sg1 M) (m + 60) 3 BO [yl 7, .pointer (some ⟨6, 0, none⟩), v2, .pointer (some ⟨8, 0, none⟩), v4, v5, v6, .int .i64 (5), v8, v9, v10, v11, v12, v13, v14, v15, v16, v17, v18, v19, v20] (hO M n x (⟨0, -1, 0, 0, 0⟩ : N) ++ [rb (⟨1, 0, 0, 0, 0⟩ : N), rb (⟨0, 1, 0, 0, 0⟩ : N), rb (⟨0, 0, 1, 0, 0⟩ : N), rb (⟨0, 0, 0, 1, 0⟩ : N), rb (⟨-1, 0, 0, 0, 0⟩ : N)]) k =
    bif (5 : Int) == andE n then k .normal [yl 7, .pointer (some ⟨6, 0, none⟩), v2, .pointer (some ⟨8, 0, none⟩), .int .i64 (5), v5, v6, .int .i64 (6), .bool true, .int .i64 (5), yl 7, .int .i64 (5), N.cv (⟨0, -1, 0, 0, 0⟩ : N), .pointer (some ⟨6, 4, none⟩), .int .i64 (0), N.v (⟨0, -1, 0, 0, 0⟩ : N), .bool true, .bool false, N.cv (⟨0, -1, 0, 0, 0⟩ : N), N.cv (⟨0, 0, -1, 0, 0⟩ : N), .int .i64 (6)] (hO M n (⟨0, -1, 0, 0, 0⟩ : N) (⟨0, 0, -1, 0, 0⟩ : N) ++ [rb (⟨1, 0, 0, 0, 0⟩ : N), rb (⟨0, 1, 0, 0, 0⟩ : N), rb (⟨0, 0, 1, 0, 0⟩ : N), rb (⟨0, 0, 0, 1, 0⟩ : N), rb (⟨-1, 0, 0, 0, 0⟩ : N), rb (⟨0, -1, 0, 0, 0⟩ : N)]) else k .normal [yl 7, .pointer (some ⟨6, 0, none⟩), v2, .pointer (some ⟨8, 0, none⟩), .int .i64 (5), v5, v6, .int .i64 (6), .bool true, .int .i64 (5), yl 7, .int .i64 (5), N.cv (⟨0, -1, 0, 0, 0⟩ : N), .pointer (some ⟨6, 4, none⟩), .int .i64 (0), N.v (⟨0, -1, 0, 0, 0⟩ : N), .bool true, .bool false, N.cv (⟨0, -1, 0, 0, 0⟩ : N), N.cv (⟨0, 0, -1, 0, 0⟩ : N), .int .i64 (6)] (hO M n x (⟨0, 0, -1, 0, 0⟩ : N) ++ [rb (⟨1, 0, 0, 0, 0⟩ : N), rb (⟨0, 1, 0, 0, 0⟩ : N), rb (⟨0, 0, 1, 0, 0⟩ : N), rb (⟨0, 0, 0, 1, 0⟩ : N), rb (⟨-1, 0, 0, 0, 0⟩ : N), rb (⟨0, -1, 0, 0, 0⟩ : N)]) := by kernel_rfl
theorem roundO6 {α : Type} (M : Int) (m : Nat) (n : Int) (x : N) (v2 v4 v5 v6 v8 v9 v10 v11 v12 v13 v14 v15 v16 v17 v18 v19 v20 : Value) (k : Kont α) :
    evCodeK Tryz.prog (orcL []) (Sg1 M) (m + 60) 3 BO [yl 7, .pointer (some ⟨6, 0, none⟩), v2, .pointer (some ⟨8, 0, none⟩), v4, v5, v6, .int .i64 (6), v8, v9, v10, v11, v12, v13, v14, v15, v16, v17, v18, v19, v20] (hO M n x (⟨0, 0, -1, 0, 0⟩ : N) ++ [rb (⟨1, 0, 0, 0, 0⟩ : N), rb (⟨0, 1, 0, 0, 0⟩ : N), rb (⟨0, 0, 1, 0, 0⟩ : N), rb (⟨0, 0, 0, 1, 0⟩ : N), rb (⟨-1, 0, 0, 0, 0⟩ : N), rb (⟨0, -1, 0, 0, 0⟩ : N)]) k =
    bif (6 : Int) == andE n then k .normal [yl 7, .pointer (some ⟨6, 0, none⟩), v2, .pointer (some ⟨8, 0, none⟩), .int .i64 (6), v5, v6, .int .i64 (7), .bool true, .int .i64 (6), yl 7, .int .i64 (6), N.cv (⟨0, 0, -1, 0, 0⟩ : N), .pointer (some ⟨6, 4, none⟩), .int .i64 (0), N.v (⟨0, 0, -1, 0, 0⟩ : N), .bool true, .bool false, N.cv (⟨0, 0, -1, 0, 0⟩ : N), N.cv (⟨0, 0, 0, -1, 0⟩ : N), .int .i64 (7)] (hO M n (⟨0, 0, -1, 0, 0⟩ : N) (⟨0, 0, 0, -1, 0⟩ : N) ++ [rb (⟨1, 0, 0, 0, 0⟩ : N), rb (⟨0, 1, 0, 0, 0⟩ : N), rb (⟨0, 0, 1, 0, 0⟩ : N), rb (⟨0, 0, 0, 1, 0⟩ : N), rb (⟨-1, 0, 0, 0, 0⟩ : N), rb (⟨0, -1, 0, 0, 0⟩ : N), rb (⟨0, 0, -1, 0, 0⟩ : N)]) else k .normal [yl 7, .pointer (some ⟨6, 0, none⟩), v2, .pointer (some ⟨8, 0, none⟩), .int .i64 (6), v5, v6, .int .i64 (7), .bool true, .int .i64 (6), yl 7, .int .i64 (6), N.cv (⟨0, 0, -1, 0, 0⟩ : N), .pointer (some ⟨6, 4, none⟩), .int .i64 (0), N.v (⟨0, 0, -1, 0, 0⟩ : N), .bool true, .bool false, N.cv (⟨0, 0, -1, 0, 0⟩ : N), N.cv (⟨0, 0, 0, -1, 0⟩ : N), .int .i64 (7)] (hO M n x (⟨0, 0, 0, -1, 0⟩ : N) ++ [rb (⟨1, 0, 0, 0, 0⟩ : N), rb (⟨0, 1, 0, 0, 0⟩ : N), rb (⟨0, 0, 1, 0, 0⟩ : N), rb (⟨0, 0, 0, 1, 0⟩ : N), rb (⟨-1, 0, 0, 0, 0⟩ : N), rb (⟨0, -1, 0, 0, 0⟩ : N), rb (⟨0, 0, -1, 0, 0⟩ : N)]) := by kernel_rfl
theorem roundO7 {α : Type} (M : Int) (m : Nat) (n : Int) (x : N) (v2 v4 v5 v6 v8 v9 v10 v11 v12 v13 v14 v15 v16 v17 v18 v19 v20 : Value) (k : Kont α) :
    evCodeK Tryz.prog (orcL []) (Sg1 M) (m + 60) 3 BO [yl 7, .pointer (some ⟨6, 0, none⟩), v2, .pointer (some ⟨8, 0, none⟩), v4, v5, v6, .int .i64 (7), v8, v9, v10, v11, v12, v13, v14, v15, v16, v17, v18, v19, v20] (hO M n x (⟨0, 0, 0, -1, 0⟩ : N) ++ [rb (⟨1, 0, 0, 0, 0⟩ : N), rb (⟨0, 1, 0, 0, 0⟩ : N), rb (⟨0, 0, 1, 0, 0⟩ : N), rb (⟨0, 0, 0, 1, 0⟩ : N), rb (⟨-1, 0, 0, 0, 0⟩ : N), rb (⟨0, -1, 0, 0, 0⟩ : N), rb (⟨0, 0, -1, 0, 0⟩ : N)]) k =
    bif (7 : Int) == andE n then k .normal [yl 7, .pointer (some ⟨6, 0, none⟩), v2, .pointer (some ⟨8, 0, none⟩), .int .i64 (7), v5, v6, .int .i64 (8), .bool true, .int .i64 (7), yl 7, .int .i64 (7), N.cv (⟨0, 0, 0, -1, 0⟩ : N), .pointer (some ⟨6, 4, none⟩), .int .i64 (0), N.v (⟨0, 0, 0, -1, 0⟩ : N), .bool true, .bool false, N.cv (⟨0, 0, 0, -1, 0⟩ : N), N.cv (⟨1, 0, 0, 0, 0⟩ : N), .int .i64 (8)] (hO M n (⟨0, 0, 0, -1, 0⟩ : N) (⟨1, 0, 0, 0, 0⟩ : N) ++ [rb (⟨1, 0, 0, 0, 0⟩ : N), rb (⟨0, 1, 0, 0, 0⟩ : N), rb (⟨0, 0, 1, 0, 0⟩ : N), rb (⟨0, 0, 0, 1, 0⟩ : N), rb (⟨-1, 0, 0, 0, 0⟩ : N), rb (⟨0, -1, 0, 0, 0⟩ : N), rb (⟨0, 0, -1, 0, 0⟩ : N), rb (⟨0, 0, 0, -1, 0⟩ : N)]) else k .normal [yl 7, .pointer (some ⟨6, 0, none⟩), v2, .pointer (some ⟨8, 0, none⟩), .int .i64 (7), v5, v6, .int .i64 (8), .bool true, .int .i64 (7), yl 7, .int .i64 (7), N.cv (⟨0, 0, 0, -1, 0⟩ : N), .pointer (some ⟨6, 4, none⟩), .int .i64 (0), N.v (⟨0, 0, 0, -1, 0⟩ : N), .bool true, .bool false, N.cv (⟨0, 0, 0, -1, 0⟩ : N), N.cv (⟨1, 0, 0, 0, 0⟩ : N), .int .i64 (8)] (hO M n x (⟨1, 0, 0, 0, 0⟩ : N) ++ [rb (⟨1, 0, 0, 0, 0⟩ : N), rb (⟨0, 1, 0, 0, 0⟩ : N), rb (⟨0, 0, 1, 0, 0⟩ : N), rb (⟨0, 0, 0, 1, 0⟩ : N), rb (⟨-1, 0, 0, 0, 0⟩ : N), rb (⟨0, -1, 0, 0, 0⟩ : N), rb (⟨0, 0, -1, 0, 0⟩ : N), rb (⟨0, 0, 0, -1, 0⟩ : N)]) := by kernel_rfl
theorem roundO8 {α : Type} (M : Int) (m : Nat) (n : Int) (x : N) (v2 v4 v5 v6 v8 v9 v10 v11 v12 v13 v14 v15 v16 v17 v18 v19 v20 : Value) (k : Kont α) :
    evCodeK Tryz.prog (orcL []) (Sg1 M) (m + 60) 3 BO [yl 7, .pointer (some ⟨6, 0, none⟩), v2, .pointer (some ⟨8, 0, none⟩), v4, v5, v6, .int .i64 (8), v8, v9, v10, v11, v12, v13, v14, v15, v16, v17, v18, v19, v20] (hO M n x (⟨1, 0, 0, 0, 0⟩ : N) ++ [rb (⟨1, 0, 0, 0, 0⟩ : N), rb (⟨0, 1, 0, 0, 0⟩ : N), rb (⟨0, 0, 1, 0, 0⟩ : N), rb (⟨0, 0, 0, 1, 0⟩ : N), rb (⟨-1, 0, 0, 0, 0⟩ : N), rb (⟨0, -1, 0, 0, 0⟩ : N), rb (⟨0, 0, -1, 0, 0⟩ : N), rb (⟨0, 0, 0, -1, 0⟩ : N)]) k = k (.exit 0) [yl 7, .pointer (some ⟨6, 0, none⟩), v2, .pointer (some ⟨8, 0, none⟩), v4, v5, v6, .int .i64 (8), .bool false, v9, v10, v11, v12, v13, v14, v15, v16, v17, v18, v19, v20] (hO M n x (⟨1, 0, 0, 0, 0⟩ : N) ++ [rb (⟨1, 0, 0, 0, 0⟩ : N), rb (⟨0, 1, 0, 0, 0⟩ : N), rb (⟨0, 0, 1, 0, 0⟩ : N), rb (⟨0, 0, 0, 1, 0⟩ : N), rb (⟨-1, 0, 0, 0, 0⟩ : N), rb (⟨0, -1, 0, 0, 0⟩ : N), rb (⟨0, 0, -1, 0, 0⟩ : N), rb (⟨0, 0, 0, -1, 0⟩ : N)]) := by kernel_rfl
theorem pushO {α : Type} (c : Bool) (M n : Int) (a x b : N) (T : List Value) (J : List Blk) (k : Kont α) : (bif c then k .normal T (hO M n a b ++ J) else k .normal T (hO M n x b ++ J)) = k .normal T (hO M n (bif c then a else x) b ++ J) := by cases c <;> rfl
def xo (n : Int) : N := (bif (7 : Int) == andE n then (⟨0, 0, 0, -1, 0⟩ : N) else (bif (6 : Int) == andE n then (⟨0, 0, -1, 0, 0⟩ : N) else (bif (5 : Int) == andE n then (⟨0, -1, 0, 0, 0⟩ : N) else (bif (4 : Int) == andE n then (⟨-1, 0, 0, 0, 0⟩ : N) else (bif (3 : Int) == andE n then (⟨0, 0, 0, 1, 0⟩ : N) else (bif (2 : Int) == andE n then (⟨0, 0, 1, 0, 0⟩ : N) else (bif (1 : Int) == andE n then (⟨0, 1, 0, 0, 0⟩ : N) else (bif (0 : Int) == andE n then (⟨1, 0, 0, 0, 0⟩ : N) else O))))))))
theorem tmpsG (a b : Value) : tmps0Of Tryz.prog 91 [a, b] = a :: b :: List.replicate 19 undef := by kernel_rfl
theorem outG (T : List Value) (S : List Blk) : outOf Tryz.prog 91 T S = some (.tuple #[]) := by kernel_rfl
theorem evG (M n : Int) : EvM Tryz.prog (orcL []) (Sg1 M) Value 3 91 [yl 7, .pointer (some ⟨6, 0, none⟩)] ((hO M n O om0).take 8) fun _ S2 => S2 = (hO M n (xo n) (⟨1, 0, 0, 0, 0⟩ : N) ++ [rb (⟨1, 0, 0, 0, 0⟩ : N), rb (⟨0, 1, 0, 0, 0⟩ : N), rb (⟨0, 0, 1, 0, 0⟩ : N), rb (⟨0, 0, 0, 1, 0⟩ : N), rb (⟨-1, 0, 0, 0, 0⟩ : N), rb (⟨0, -1, 0, 0, 0⟩ : N), rb (⟨0, 0, -1, 0, 0⟩ : N), rb (⟨0, 0, 0, -1, 0⟩ : N)]) := by
  refine EvM.of_body ?_
  rw [tmpsG]
  refine Ev.of_pieces ?_
  rw [show flatC (bodyOf Tryz.prog 91) = _ from LG_eq]
  refine EvP.run (fun fs k => headG M fs n _ k) ?_
  refine EvP.step (Ev.block ?_)
  show Ev _ _ _ _ _ (.loop BO) _ _ _
  refine Ev.unroll (Ev.of_eq 60 (fun s k => (roundO0 M s n _ _ _ _ _ _ _ _ _ _ _ _ _ _ _ _ _ _ k).trans (pushO _ _ _ _ _ _ _ _ k)) ?_)
  show Ev _ _ _ _ _ (.loop BO) _ _ _
  refine Ev.unroll (Ev.of_eq 60 (fun s k => (roundO1 M s n _ _ _ _ _ _ _ _ _ _ _ _ _ _ _ _ _ _ k).trans (pushO _ _ _ _ _ _ _ _ k)) ?_)
  show Ev _ _ _ _ _ (.loop BO) _ _ _
  refine Ev.unroll (Ev.of_eq 60 (fun s k => (roundO2 M s n _ _ _ _ _ _ _ _ _ _ _ _ _ _ _ _ _ _ k).trans (pushO _ _ _ _ _ _ _ _ k)) ?_)
  show Ev _ _ _ _ _ (.loop BO) _ _ _
  refine Ev.unroll (Ev.of_eq 60 (fun s k => (roundO3 M s n _ _ _ _ _ _ _ _ _ _ _ _ _ _ _ _ _ _ k).trans (pushO _ _ _ _ _ _ _ _ k)) ?_)
  show Ev _ _ _ _ _ (.loop BO) _ _ _
  refine Ev.unroll (Ev.of_eq 60 (fun s k => (roundO4 M s n _ _ _ _ _ _ _ _ _ _ _ _ _ _ _ _ _ _ k).trans (pushO _ _ _ _ _ _ _ _ k)) ?_)
  show Ev _ _ _ _ _ (.loop BO) _ _ _
  refine Ev.unroll (Ev.of_eq 60 (fun s k => (roundO5 M s n _ _ _ _ _ _ _ _ _ _ _ _ _ _ _ _ _ _ k).trans (pushO _ _ _ _ _ _ _ _ k)) ?_)
  show Ev _ _ _ _ _ (.loop BO) _ _ _
  refine Ev.unroll (Ev.of_eq 60 (fun s k => (roundO6 M s n _ _ _ _ _ _ _ _ _ _ _ _ _ _ _ _ _ _ k).trans (pushO _ _ _ _ _ _ _ _ k)) ?_)
  show Ev _ _ _ _ _ (.loop BO) _ _ _
  refine Ev.unroll (Ev.of_eq 60 (fun s k => (roundO7 M s n _ _ _ _ _ _ _ _ _ _ _ _ _ _ _ _ _ _ k).trans (pushO _ _ _ _ _ _ _ _ k)) ?_)
  show Ev _ _ _ _ _ (.loop BO) _ _ _
  refine Ev.unroll (Ev.of_eq 60 (fun s k => roundO8 M s n _ _ _ _ _ _ _ _ _ _ _ _ _ _ _ _ _ _ k) ?_)
  exact EvP.nil ⟨trivial, _, outG _ _, rfl⟩
theorem tailO {α : Type} (M : Int) (fs : Nat → Nat) (n : Int) (x : N) (b6 b7 b8 b9 b10 b11 b12 b13 b14 b15 b16 : Blk) (k : Kont α) :
    evP Tryz.prog (orcL []) (Sg1 M) 3 fs 4 [qP 4, qP 5] (TO n) [uni, pow, mxl M, ib n, rb O, rb x, b6, b7, b8, b9, b10, b11, b12, b13, b14, b15, b16] k = k .ret [.int .i64 (n), .pointer (some ⟨3, 0, none⟩), .pointer (some ⟨4, 0, none⟩), .pointer (some ⟨5, 0, none⟩), undef, undef, N.v om0, (.func (.func 91) #[] #[.pointer (some ⟨6, 0, none⟩)]), undef, undef, undef, undef, undef, undef, undef, N.v x] [uni, pow, mxl M, ib n, rb x, rb x, b6, b7, b8, b9, b10, b11, b12, b13, b14, b15, b16] := by kernel_rfl
theorem tmpsO (n : Int) : tmps0Of Tryz.prog 29 [.int .i64 n] = .int .i64 n :: List.replicate 15 undef := by kernel_rfl
theorem outO (x : N) (a0 a1 : Value) (L : List Value) (b0 b1 b2 b3 : Blk) (R : List Blk) : outOf Tryz.prog 29 (a0 :: a1 :: .pointer (some ⟨4, 0, none⟩) :: L) (b0 :: b1 :: b2 :: b3 :: rb x :: R) = some (N.v x) := by kernel_rfl
theorem opdO (n : Int) : opd 3 (TO n) (rangeOf Tryz.prog 29 0).1 = some (.func (.func 91) #[] #[.pointer (some ⟨6, 0, none⟩)]) := by kernel_rfl
theorem calO : callee Tryz.prog (.func (.func 91) #[] #[.pointer (some ⟨6, 0, none⟩)]) [.func (.yield 7) #[] #[]] = some (.call 91 [yl 7, .pointer (some ⟨6, 0, none⟩)]) := by kernel_rfl
theorem loopAtO (M n : Int) (x c : N) (J : List Blk) : loopAt (hO M n x c ++ J) 7 = some ⟨.ready, none, TO n, (rangeOf Tryz.prog 29 0).2.1, (rangeOf Tryz.prog 29 0).2.2.1, (rangeOf Tryz.prog 29 0).2.2.2⟩ := rfl
theorem eO (M n : Int) : EvF Tryz.prog (orcL []) (Sg1 M) 29 [.int .i64 n] (N.v (xo n)) := by
  refine EvF.of_body rfl ?_
  rw [tmpsO]
  show Ev Tryz.prog (orcL []) (Sg1 M) Value 3 _ _ _ _
  refine Ev.of_pieces ?_
  rw [show flatC (bodyOf Tryz.prog 29) = _ from LO_eq]
  refine EvP.run (fun fs k => headO M fs n _ k) ?_
  refine EvP.step (Ev.block ?_)
  refine Ev.range (show 3 ≤ 7 by decide) (opdO n) calO ((evG M n).mono ?_)
  rintro v S2 rfl
  refine ⟨_, loopAtO M n _ _ _, rfl, rfl, ?_⟩
  exact EvP.stop (fun fs k => tailO M fs n (xo n) _ _ _ _ _ _ _ _ _ _ _ k) ⟨trivial, outO _ _ _ _ _ _ _ _ _⟩
theorem andE_eq (n : Int) : andE n = n % 8 := by
  have h : (BitVec.ofInt 64 n &&& BitVec.ofInt 64 7).toNat = (n % 18446744073709551616).toNat % 8 := by
    rw [BitVec.toNat_and, BitVec.toNat_ofInt]
    exact Nat.and_two_pow_sub_one_eq_mod _ 3
  unfold andE
  rw [h, show IntKind.i64.wrap (((n % 18446744073709551616).toNat % 8 : Nat) : Int) = (((n % 18446744073709551616).toNat % 8 : Nat) : Int) from w_eq _ (by omega) (by omega)]
  omega
theorem xo_eq (n : Int) : xo n = trns (omN n).toNat om1 := by
  have h8 : 0 ≤ n % 8 ∧ n % 8 < 8 := by omega
  have ho : omN n = n % 8 := by
    unfold omN
    have t1 := Int.tmod_lt_of_pos n (b := 8) (by omega)
    have t2 := Int.lt_tmod_of_pos n (b := 8) (by omega)
    have t3 := Int.tmod_add_mul_tdiv n 8
    rw [w_eq _ (by omega) (by omega), Int.tmod_eq_emod_of_nonneg (by omega)]
    omega
  rw [ho]
  unfold xo
  rw [andE_eq]
  generalize n % 8 = m at h8
  have : m = 0 ∨ m = 1 ∨ m = 2 ∨ m = 3 ∨ m = 4 ∨ m = 5 ∨ m = 6 ∨ m = 7 := by omega
  rcases this with rfl | rfl | rfl | rfl | rfl | rfl | rfl | rfl <;> rfl
end Go.Proofs.YtonjnnjnojmpjaaGreatDoor.R
