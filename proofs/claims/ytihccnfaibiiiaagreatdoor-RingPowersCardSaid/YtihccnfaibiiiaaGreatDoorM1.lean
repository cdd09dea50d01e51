/- Ring: functions of a list of numbers, which lies in one block: the program's (made by mklst.py). -/
import Derived.Test.YtihccnfaibiiiaaGreatDoorW6
import Derived.Test.YtihccnfaibiiiaaGreatDoorM0
namespace Go.Proofs.YtihccnfaibiiiaaGreatDoor.R
open Go Go.Proofs.XX.Vm Go.Proofs.XX.Rm Go.RowKit
set_option maxRecDepth 100000

/-- A number of a block of integers. -/
noncomputable def nmI (L : List Int) (o : Nat) : N := ⟨nthI L o, nthI L (o + 1), nthI L (o + 2), nthI L (o + 3), nthI L (o + 4)⟩
noncomputable def nmL (L : List Int) : Nat → Nat → List N
  | _, 0 => []
  | o, m + 1 => nmI L o :: nmL L (o + 5) m
def kB (et : TypeId) (ro : Bool) (lo : Nat) (L : List Int) : Blk := ⟨[], et, ro, some (.ints .i64 lo L)⟩
def slV (off n c : Nat) : Value := .slice (some ⟨3, off, none⟩) n c
def fCk : Value := .func (.func 62) #[] #[]
def ptrN (b : Nat) : Value := .pointer (some ⟨b, 0, none⟩)
/-- The first error. -/
def chkL : List N → Int
  | [] => 0
  | x :: l => bif chkS x != 0 then chkS x else chkL l
/-- The sum behind z. -/
def totL (z : N) : List N → N × Int
  | [] => (z, 0)
  | x :: l => bif (twoS z x (z.sum x)).2 != 0 then (O, (twoS z x (z.sum x)).2) else totL (twoS z x (z.sum x)).1 l
noncomputable abbrev BFE : Code := loopOf Tryz.prog 90 0
noncomputable abbrev qFE (i : Nat) : Code := nthC (pcs Tryz.prog 90) i
theorem LFE_eq : pcs Tryz.prog 90 = [qFE 0, qFE 1, .block 0 (.loop BFE), qFE 3, qFE 4] := by kernel_rfl
theorem headFE {α : Type} (M : Int) (fs : Nat → Nat) (et : TypeId) (ro : Bool) (lo off n c : Nat) (L : List Int) (k : Kont α) :
    evP Tryz.prog (orcL LSum) (Sg1 M) 4 fs 0 [qFE 0, qFE 1] (slV off n c :: fCk :: List.replicate 19 undef) [uni, pow, mxl M, kB et ro lo L] k = k .normal [slV off n c, fCk, undef, undef, .int .i64 (0), undef, undef, undef, slV off n c, .int .i64 ((n : Int)), .int .i64 (0), undef, undef, undef, undef, undef, undef, undef, undef, undef, undef] [uni, pow, mxl M, kB et ro lo L] := by kernel_rfl
theorem roundFE0 {α : Type} (M : Int) (m : Nat) (et : TypeId) (ro : Bool) (lo off n c : Nat) (L : List Int) (i : Int) (v7 v11 v12 v13 v14 v15 v16 v17 v18 v19 v20 : Value) (k : Kont α) :
    evCodeK Tryz.prog (orcL LSum) (Sg1 M) (m + 60) 4 BFE [slV off n c, fCk, undef, undef, .int .i64 (0), undef, undef, v7, slV off n c, .int .i64 ((n : Int)), .int .i64 (i), v11, v12, v13, v14, v15, v16, v17, v18, v19, v20] [uni, pow, mxl M, kB et ro lo L] k =
    bif decide (i < (n : Int)) then (bif decide (0 ≤ i) && decide (i < (n : Int)) then (bif insideI lo L (off + i.toNat * 5) 5 then (bif chkS (nmI L (off + i.toNat * 5 - lo)) != 0 then k .ret [slV off n c, fCk, undef, undef, .int .i64 (chkS (nmI L (off + i.toNat * 5 - lo))), undef, ptrN 4, .int .i64 (chkS (nmI L (off + i.toNat * 5 - lo))), slV off n c, .int .i64 ((n : Int)), .int .i64 (i), .bool true, .pointer (some ⟨3, off + i.toNat * 5, none⟩), N.v (nmI L (off + i.toNat * 5 - lo)), fCk, N.v (nmI L (off + i.toNat * 5 - lo)), .int .i64 (chkS (nmI L (off + i.toNat * 5 - lo))), .int .i64 (chkS (nmI L (off + i.toNat * 5 - lo))), .bool true, .int .i64 (chkS (nmI L (off + i.toNat * 5 - lo))), v20] [uni, pow, mxl M, kB et ro lo L, rb (nmI L (off + i.toNat * 5 - lo))] else k .normal [slV off n c, fCk, undef, undef, .int .i64 (0), undef, ptrN 4, .int .i64 (chkS (nmI L (off + i.toNat * 5 - lo))), slV off n c, .int .i64 ((n : Int)), .int .i64 (w (i + 1)), .bool true, .pointer (some ⟨3, off + i.toNat * 5, none⟩), N.v (nmI L (off + i.toNat * 5 - lo)), fCk, N.v (nmI L (off + i.toNat * 5 - lo)), .int .i64 (chkS (nmI L (off + i.toNat * 5 - lo))), .int .i64 (chkS (nmI L (off + i.toNat * 5 - lo))), .bool false, v19, .int .i64 (w (i + 1))] [uni, pow, mxl M, kB et ro lo L, rb (nmI L (off + i.toNat * 5 - lo))]) else none) else none) else k (.exit 0) [slV off n c, fCk, undef, undef, .int .i64 (0), undef, undef, v7, slV off n c, .int .i64 ((n : Int)), .int .i64 (i), .bool false, v12, v13, v14, v15, v16, v17, v18, v19, v20] [uni, pow, mxl M, kB et ro lo L] := by kernel_rfl
theorem roundFE1 {α : Type} (M : Int) (m : Nat) (et : TypeId) (ro : Bool) (lo off n c : Nat) (L : List Int) (i : Int) (z : N) (v7 v11 v12 v13 v14 v15 v16 v17 v18 v19 v20 : Value) (k : Kont α) :
    evCodeK Tryz.prog (orcL LSum) (Sg1 M) (m + 60) 4 BFE [slV off n c, fCk, undef, undef, .int .i64 (0), undef, ptrN 4, v7, slV off n c, .int .i64 ((n : Int)), .int .i64 (i), v11, v12, v13, v14, v15, v16, v17, v18, v19, v20] [uni, pow, mxl M, kB et ro lo L, rb z] k =
    bif decide (i < (n : Int)) then (bif decide (0 ≤ i) && decide (i < (n : Int)) then (bif insideI lo L (off + i.toNat * 5) 5 then (bif chkS (nmI L (off + i.toNat * 5 - lo)) != 0 then k .ret [slV off n c, fCk, undef, undef, .int .i64 (chkS (nmI L (off + i.toNat * 5 - lo))), undef, ptrN 5, .int .i64 (chkS (nmI L (off + i.toNat * 5 - lo))), slV off n c, .int .i64 ((n : Int)), .int .i64 (i), .bool true, .pointer (some ⟨3, off + i.toNat * 5, none⟩), N.v (nmI L (off + i.toNat * 5 - lo)), fCk, N.v (nmI L (off + i.toNat * 5 - lo)), .int .i64 (chkS (nmI L (off + i.toNat * 5 - lo))), .int .i64 (chkS (nmI L (off + i.toNat * 5 - lo))), .bool true, .int .i64 (chkS (nmI L (off + i.toNat * 5 - lo))), v20] [uni, pow, mxl M, kB et ro lo L, rb z, rb (nmI L (off + i.toNat * 5 - lo))] else k .normal [slV off n c, fCk, undef, undef, .int .i64 (0), undef, ptrN 5, .int .i64 (chkS (nmI L (off + i.toNat * 5 - lo))), slV off n c, .int .i64 ((n : Int)), .int .i64 (w (i + 1)), .bool true, .pointer (some ⟨3, off + i.toNat * 5, none⟩), N.v (nmI L (off + i.toNat * 5 - lo)), fCk, N.v (nmI L (off + i.toNat * 5 - lo)), .int .i64 (chkS (nmI L (off + i.toNat * 5 - lo))), .int .i64 (chkS (nmI L (off + i.toNat * 5 - lo))), .bool false, v19, .int .i64 (w (i + 1))] [uni, pow, mxl M, kB et ro lo L, rb z, rb (nmI L (off + i.toNat * 5 - lo))]) else none) else none) else k (.exit 0) [slV off n c, fCk, undef, undef, .int .i64 (0), undef, ptrN 4, v7, slV off n c, .int .i64 ((n : Int)), .int .i64 (i), .bool false, v12, v13, v14, v15, v16, v17, v18, v19, v20] [uni, pow, mxl M, kB et ro lo L, rb z] := by kernel_rfl
theorem tailFE {α : Type} (M : Int) (fs : Nat → Nat) (S : List Blk) (a0 a1 a2 a3 a4 a5 a6 a7 a8 a9 a10 a11 a12 a13 a14 a15 a16 a17 a18 a19 a20 : Value) (k : Kont α) :
    evP Tryz.prog (orcL LSum) (Sg1 M) 4 fs 3 [qFE 3, qFE 4] [a0, a1, a2, a3, a4, a5, a6, a7, a8, a9, a10, a11, a12, a13, a14, a15, a16, a17, a18, a19, a20] S k = k .ret [a0, a1, a2, a3, .int .i64 (0), a5, a6, a7, a8, a9, a10, a11, a12, a13, a14, a15, a16, a17, a18, a19, a20] S := by kernel_rfl
theorem outFE (S : List Blk) (e : Int) (a0 a1 a2 a3 a5 a6 a7 a8 a9 a10 a11 a12 a13 a14 a15 a16 a17 a18 a19 a20 : Value) : outOf Tryz.prog 90 [a0, a1, a2, a3, .int .i64 e, a5, a6, a7, a8, a9, a10, a11, a12, a13, a14, a15, a16, a17, a18, a19, a20] S = some (.int .i64 e) := by kernel_rfl
theorem tmpsFE (a b : Value) : tmps0Of Tryz.prog 90 [a, b] = a :: b :: List.replicate 19 undef := by kernel_rfl
end Go.Proofs.YtihccnfaibiiiaaGreatDoor.R
