/- Ring: RingPhased, piece by piece (made by mkphd.py). -/
import Derived.Test.YtihccnfaibiiiaaDoorL2
import Derived.Test.YtihccnfaibiiiaaDoorP3
import Derived.Test.YtihccnfaibiiiaaDoorTc
namespace Go.Proofs.YtihccnfaibiiiaaDoor.R
open Go Go.Proofs.XX.Vm Go.Proofs.XX.Rm Go.RowKit
set_option maxRecDepth 100000

noncomputable abbrev LPhd : List Con := con2 41 (fun x y => .val (resP (phS x y))) :: cOmD :: LNum
theorem LPhd_ok (M : Int) : ∀ c ∈ LPhd, ConOk M c := mem_cons_ok (con2_val (cPhaP_ok M) phS_get) (mem_cons_ok (cOmD_ok M) (LNum_ok M))
noncomputable abbrev orP : Orc := orcLM LPhd MNum
theorem orP_ok (M : Int) : OrcOk Tryd.prog (Sg1 M) (orcOf orP) := orcLM_ok (LPhd_ok M) (MNum_ok M)
/-- The second half: two numbers. -/
def phdB (y z : N) : Option Value := bif (norS y).2 != 0 then some (.bool false) else bif (norS z).2 != 0 then some (.bool false) else bif (phS y z).2 != 0 then (bif (phS y z).2 == 6 then some (.bool true) else some (.bool false)) else
  bif (twoS z (xo (phS y z).1) (z.mul (xo (phS y z).1))).2 == 0 then (bif (samS (twoS z (xo (phS y z).1) (z.mul (xo (phS y z).1))).1 y).2 == 0 then (bif (samS (twoS z (xo (phS y z).1) (z.mul (xo (phS y z).1))).1 y).1 then (bif eqN (norS y).1 (norS z).1 then (bif decide ((phS y z).1 ≥ 0) then (bif decide ((phS y z).1 < 8) then some (.bool true) else some (.bool false)) else some (.bool false)) else some (.bool false)) else some (.bool false)) else some (.bool false)) else some (.bool false)
/-- The first half: a number times a power of w; k is what follows. -/
def phdA (x : N) (n : Int) (k : Option Value) : Option Value := bif (twoS x (xo n) (x.mul (xo n))).2 != 0 then some (.bool false) else bif (phS (twoS x (xo n) (x.mul (xo n))).1 x).2 != 0 then some (.bool false) else bif (samS x O).2 != 0 then some (.bool false) else
  bif (phS (twoS x (xo n) (x.mul (xo n))).1 x).1 != inN n then (bif (samS x O).1 then (bif !((phS (twoS x (xo n) (x.mul (xo n))).1 x).1 == 0) then some (.bool false) else k) else some (.bool false)) else k
noncomputable abbrev qRH (i : Nat) : Code := nthC (pcs Tryd.prog 12) i
theorem LRH_eq : pcs Tryd.prog 12 = [qRH 0, qRH 1, qRH 2, qRH 3, qRH 4, qRH 5, qRH 6, qRH 7, qRH 8, qRH 9, qRH 10, qRH 11, qRH 12, qRH 13, qRH 14, qRH 15, qRH 16, qRH 17, qRH 18, qRH 19] := by kernel_rfl
theorem headRH {α : Type} (M : Int) (fs : Nat → Nat) (et off n c : Nat) (z : Int) (L : List Int) (l : List Code) (k : Kont α) :
    evP Tryd.prog orP (Sg1 M) 4 fs 0 (qRH 0 :: qRH 1 :: l) (slA off n c :: .int .i64 z :: List.replicate 135 undef) [uni, pow, mxl M, argB et off L] k =
    bif ofT1 n then (bif ofT2 off n L then (bif Nat.beq (ofN n) 0 then evP Tryd.prog orP (Sg1 M) 4 fs 2 l ([slA off n c, .int .i64 z, undef, undef, .bool false, ptrB 5] ++ (List.replicate 13 undef ++ ([slA off n c, ptrB 5] ++ List.replicate 116 undef))) [uni, pow, mxl M, argB et off L, emB, stB 4 0 0 0 2463534242] k
      else evP Tryd.prog orP (Sg1 M) 4 fs 2 l ([slA off n c, .int .i64 z, undef, undef, .bool false, ptrB 6] ++ (List.replicate 13 undef ++ ([slA off n c, ptrB 6] ++ List.replicate 116 undef))) [uni, pow, mxl M, argB et off L, emB, byB (ofL off n L), stBp 5 (ofN n) unk st0] k) else none) else none := by kernel_rfl
theorem restRH (M : Int) (fs : Nat → Nat) (off n c n2 cp : Nat) (z : Int) (b3 b4 : Blk) (L : List Int) :
    evP Tryd.prog orP (Sg1 M) 4 fs 2 [qRH 2, qRH 3, qRH 4, qRH 5, qRH 6, qRH 7, qRH 8, qRH 9, qRH 10, qRH 11, qRH 12, qRH 13, qRH 14, qRH 15, qRH 16, qRH 17, qRH 18, qRH 19] ([slA off n c, .int .i64 z, undef, undef, .bool false, ptrB 6] ++ (List.replicate 13 undef ++ ([slA off n c, ptrB 6] ++ List.replicate 116 undef))) [uni, pow, mxl M, b3, b4, byB L, stBp 5 n2 cp st0] (endK Tryd.prog 12 fun u _ => some u) =
    (bif drOk 4 6 5 n2 L st0.1 then (bif drOk 4 6 5 n2 L (nxts L n2 5 st0).1 then phdA (numF L n2 60 8 st0) z (bif drOk 4 6 5 n2 L (nxts L n2 5 (nxts L n2 5 st0)).1 then phdB (numF L n2 2 2 (nxts L n2 5 st0)) (numF L n2 2 2 (nxts L n2 5 (nxts L n2 5 st0))) else none) else none) else none) := by kernel_rfl
end Go.Proofs.YtihccnfaibiiiaaDoor.R
