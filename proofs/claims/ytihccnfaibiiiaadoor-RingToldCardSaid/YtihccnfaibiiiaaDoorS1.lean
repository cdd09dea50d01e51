/- Inputs made of bytes: the next number. -/
import Derived.Test.YtihccnfaibiiiaaDoorW3
import Derived.Test.YtihccnfaibiiiaaDoorA1
namespace Go.Proofs.YtihccnfaibiiiaaDoor.R
open Go Go.Proofs.XX.Vm Go.Proofs.XX.Rm Go.RowKit
set_option maxRecDepth 100000

def ptrB (b : Nat) : Value := .pointer (some ⟨b, 0, none⟩)
/-- The store: its bytes lie in block c. -/
def stB (c n cp : Nat) (nx st : Int) : Blk := ⟨[.slice (some ⟨c, 0, none⟩) n cp, .int .i64 nx, .int .u32 st], 80, false, none⟩
def byB (L : List Int) : Blk := ⟨[], 5, false, some (.ints .u8 0 L)⟩
def u32 (n : Int) : Int := IntKind.u32.wrap n
def xorE (a b : Int) : Int := IntKind.u32.wrap ((BitVec.ofInt 32 a ^^^ BitVec.ofInt 32 b).toNat)
def xs1 (st : Int) : Int := xorE st (u32 (st * 2 ^ 13))
def xs2 (st : Int) : Int := xorE st (st.fdiv (2 ^ 17))
def xs3 (st : Int) : Int := xorE st (u32 (st * 2 ^ 5))
def xsA (st : Int) : Int := xs3 (xs2 (xs1 st))
def drI (n : Nat) (nx : Int) : Int := nx.tmod (n : Int)
noncomputable def drB (L : List Int) (n : Nat) (nx : Int) : Int := u32 (nthI L (0 + (drI n nx).toNat * 1 - 0))
def drT (n : Nat) (nx : Int) : Bool := decide (0 ≤ drI n nx) && decide (drI n nx < (n : Int))
noncomputable def drO (L : List Int) (n : Nat) (nx st : Int) : Int := u32 ((xsA st).fdiv (2 ^ 3) + u32 (40503 * drB L n nx))
noncomputable def drS (L : List Int) (n : Nat) (nx st : Int) : Int := u32 (xsA st + u32 (drB L n nx + 1))
theorem tDraw {α : Type} (M : Int) (m n cp : Nat) (nx st : Int) (L : List Int) (k : Value → List Blk → Option α) :
    callInK Tryd.prog (evCodeK Tryd.prog (orcL []) (Sg1 M) (m + 60)) 3 82 [ptrB 3] [uni, pow, mxl M, stB 4 n cp nx st, byB L] k =
    bif decide ((n : Int) > 0) then (bif (n : Int) != 0 then (bif drT n nx then (bif insideI 0 L (0 + (drI n nx).toNat * 1) 1 then (bif (n : Int) != 0 then (bif drT n nx then (bif insideI 0 L (0 + (drI n nx).toNat * 1) 1 then k (.int .u32 (drO L n nx st)) [uni, pow, mxl M, stB 4 n cp (IntKind.i64.wrap (nx + 1)) (drS L n nx st), byB L] else none) else none) else none) else none) else none) else none)
    else k (.int .u32 ((xsA st).fdiv (2 ^ 3))) [uni, pow, mxl M, stB 4 n cp nx (xsA st), byB L] := by kernel_rfl
end Go.Proofs.YtihccnfaibiiiaaDoor.R
