/- Inputs made of bytes: numbers of the ring, wherever the store lies (made by mkst.py). -/
import Derived.Test.YtihccnfaibiiiaaDoorS2
import Derived.Test.YtihccnfaibiiiaaDoorA2
namespace Go.Proofs.YtihccnfaibiiiaaDoor.R
open Go Go.Proofs.XX.Vm Go.Proofs.XX.Rm Go.RowKit
set_option maxRecDepth 100000

noncomputable def nxt (L : List Int) (n : Nat) (p : Int × Int) : Int × Int := (IntKind.i64.wrap (p.1 + 1), drS L n p.1 p.2)
noncomputable def lesF (L : List Int) (n : Nat) (m : Int) (p : Int × Int) : Int := (IntKind.i64.wrap ((drO L n p.1 p.2).fdiv (2 ^ 4))).tmod m
def ng (s : Int) : Int := IntKind.i64.wrap (0 - s)
noncomputable def froF (L : List Int) (n : Nat) (s : Int) (p : Int × Int) : Int := IntKind.i64.wrap (ng s + lesF L n (IntKind.i64.wrap (IntKind.i64.wrap (s - ng s) + 1)) p)
noncomputable def nxts (L : List Int) (n : Nat) : Nat → Int × Int → Int × Int
  | 0, p => p
  | m + 1, p => nxt L n (nxts L n m p)
noncomputable def numF (L : List Int) (n : Nat) (s r : Int) (p : Int × Int) : N := ⟨froF L n s p, froF L n s (nxts L n 1 p), froF L n s (nxts L n 2 p), froF L n s (nxts L n 3 p), lesF L n (IntKind.i64.wrap (r + 1)) (nxts L n 4 p)⟩
noncomputable def okS (L : List Int) (n : Nat) : Nat → Int × Int → Bool
  | 0, _ => true
  | m + 1, p => drOk 3 3 4 n L p.1 && okS L n m (nxt L n p)
noncomputable def bifs {α : Type} (L : List Int) (n : Nat) (t : Option α) : Nat → Int × Int → Option α
  | 0, _ => t
  | m + 1, p => bif drOk 3 3 4 n L p.1 then bifs L n t m (nxt L n p) else none
theorem bifs_eq {α : Type} (L : List Int) (n : Nat) (t : Option α) : ∀ (m : Nat) (p : Int × Int), okS L n m p = true → bifs L n t m p = t
  | 0, _, _ => rfl
  | m + 1, p, h => by
    simp only [okS, Bool.and_eq_true] at h
    simp only [bifs, h.1, cond_true]
    exact bifs_eq L n t m _ h.2
def stBp (c n cp : Nat) (p : Int × Int) : Blk := stB c n cp p.1 p.2
def bxS : Blk := ⟨[ptrB 3], 38, false, none⟩
def bxI (n : Int) : Blk := ⟨[.int .i64 n], 3, false, none⟩
theorem tNum_60_8 {α : Type} (M : Int) (m n cp : Nat) (p : Int × Int) (L : List Int) (k : Value → List Blk → Option α) :
    callInK Tryd.prog (evCodeK Tryd.prog (orcLM [] [cDraw]) (Sg1 M) (m + 80)) 3 27 [ptrB 3, .int .i64 60, .int .i64 8] [uni, pow, mxl M, stBp 4 n cp p, byB L] k =
    bifs L n (k (N.v (numF L n 60 8 p)) [uni, pow, mxl M, stBp 4 n cp (nxts L n 5 p), byB L, bxS, bxI 60, rb (numF L n 60 8 p)]) 5 p := by kernel_rfl
theorem tNum_9_3 {α : Type} (M : Int) (m n cp : Nat) (p : Int × Int) (L : List Int) (k : Value → List Blk → Option α) :
    callInK Tryd.prog (evCodeK Tryd.prog (orcLM [] [cDraw]) (Sg1 M) (m + 80)) 3 27 [ptrB 3, .int .i64 9, .int .i64 3] [uni, pow, mxl M, stBp 4 n cp p, byB L] k =
    bifs L n (k (N.v (numF L n 9 3 p)) [uni, pow, mxl M, stBp 4 n cp (nxts L n 5 p), byB L, bxS, bxI 9, rb (numF L n 9 3 p)]) 5 p := by kernel_rfl
theorem tNum_40_6 {α : Type} (M : Int) (m n cp : Nat) (p : Int × Int) (L : List Int) (k : Value → List Blk → Option α) :
    callInK Tryd.prog (evCodeK Tryd.prog (orcLM [] [cDraw]) (Sg1 M) (m + 80)) 3 27 [ptrB 3, .int .i64 40, .int .i64 6] [uni, pow, mxl M, stBp 4 n cp p, byB L] k =
    bifs L n (k (N.v (numF L n 40 6 p)) [uni, pow, mxl M, stBp 4 n cp (nxts L n 5 p), byB L, bxS, bxI 40, rb (numF L n 40 6 p)]) 5 p := by kernel_rfl
theorem tNum_12_6 {α : Type} (M : Int) (m n cp : Nat) (p : Int × Int) (L : List Int) (k : Value → List Blk → Option α) :
    callInK Tryd.prog (evCodeK Tryd.prog (orcLM [] [cDraw]) (Sg1 M) (m + 80)) 3 27 [ptrB 3, .int .i64 12, .int .i64 6] [uni, pow, mxl M, stBp 4 n cp p, byB L] k =
    bifs L n (k (N.v (numF L n 12 6 p)) [uni, pow, mxl M, stBp 4 n cp (nxts L n 5 p), byB L, bxS, bxI 12, rb (numF L n 12 6 p)]) 5 p := by kernel_rfl
theorem tNum_3_3 {α : Type} (M : Int) (m n cp : Nat) (p : Int × Int) (L : List Int) (k : Value → List Blk → Option α) :
    callInK Tryd.prog (evCodeK Tryd.prog (orcLM [] [cDraw]) (Sg1 M) (m + 80)) 3 27 [ptrB 3, .int .i64 3, .int .i64 3] [uni, pow, mxl M, stBp 4 n cp p, byB L] k =
    bifs L n (k (N.v (numF L n 3 3 p)) [uni, pow, mxl M, stBp 4 n cp (nxts L n 5 p), byB L, bxS, bxI 3, rb (numF L n 3 3 p)]) 5 p := by kernel_rfl
theorem tNum_2_2 {α : Type} (M : Int) (m n cp : Nat) (p : Int × Int) (L : List Int) (k : Value → List Blk → Option α) :
    callInK Tryd.prog (evCodeK Tryd.prog (orcLM [] [cDraw]) (Sg1 M) (m + 80)) 3 27 [ptrB 3, .int .i64 2, .int .i64 2] [uni, pow, mxl M, stBp 4 n cp p, byB L] k =
    bifs L n (k (N.v (numF L n 2 2 p)) [uni, pow, mxl M, stBp 4 n cp (nxts L n 5 p), byB L, bxS, bxI 2, rb (numF L n 2 2 p)]) 5 p := by kernel_rfl
theorem tNum_1073741824_60 {α : Type} (M : Int) (m n cp : Nat) (p : Int × Int) (L : List Int) (k : Value → List Blk → Option α) :
    callInK Tryd.prog (evCodeK Tryd.prog (orcLM [] [cDraw]) (Sg1 M) (m + 80)) 3 27 [ptrB 3, .int .i64 1073741824, .int .i64 60] [uni, pow, mxl M, stBp 4 n cp p, byB L] k =
    bifs L n (k (N.v (numF L n 1073741824 60 p)) [uni, pow, mxl M, stBp 4 n cp (nxts L n 5 p), byB L, bxS, bxI 1073741824, rb (numF L n 1073741824 60 p)]) 5 p := by kernel_rfl
end Go.Proofs.YtihccnfaibiiiaaDoor.R
