/- Ring: RingNormed, piece by piece (made by mknorm.py). -/
import Derived.Test.YtonjnnjnojmpjaaDoorL2
import Derived.Test.YtonjnnjnojmpjaaDoorT5
namespace Go.Proofs.YtonjnnjnojmpjaaDoor.R
open Go Go.Proofs.XX.Vm Go.Proofs.XX.Rm Go.RowKit
set_option maxRecDepth 100000

noncomputable abbrev LNrm : List Con := con1 35 (fun x => .val (resB (realS x))) :: con2 36 (fun x y => .val (resB (lesS x y))) :: cOmD :: LNum
theorem LNrm_ok (M : Int) : ∀ c ∈ LNrm, ConOk M c := mem_cons_ok (con1_val (cReal_ok M) realS_get) (mem_cons_ok (con2_val (cLes_ok M) lesS_get) (mem_cons_ok (cOmD_ok M) (LNum_ok M)))
noncomputable abbrev orR : Orc := orcLM LNrm MNum
theorem orR_ok (M : Int) : OrcOk Tryd.prog (Sg1 M) (orcOf orR) := orcLM_ok (LNrm_ok M) (MNum_ok M)
noncomputable abbrev qRN (i : Nat) : Code := nthC (pcs Tryd.prog 8) i
theorem LRN_eq : pcs Tryd.prog 8 = [qRN 0, qRN 1, qRN 2, qRN 3, qRN 4, qRN 5, qRN 6, qRN 7, qRN 8, qRN 9, qRN 10, qRN 11, qRN 12, qRN 13, qRN 14, qRN 15] := by kernel_rfl
theorem headRN {α : Type} (M : Int) (fs : Nat → Nat) (et off n c : Nat) (z : Int) (L : List Int) (l : List Code) (k : Kont α) :
    evP Tryd.prog orR (Sg1 M) 4 fs 0 (qRN 0 :: qRN 1 :: l) (slA off n c :: .int .i64 z :: List.replicate 139 undef) [uni, pow, mxl M, argB et off L] k =
    bif ofT1 n then (bif ofT2 off n L then (bif Nat.beq (ofN n) 0 then evP Tryd.prog orR (Sg1 M) 4 fs 2 l ([slA off n c, .int .i64 z, undef, undef, .bool false, ptrB 5] ++ (List.replicate 19 undef ++ ([slA off n c, ptrB 5] ++ List.replicate 114 undef))) [uni, pow, mxl M, argB et off L, emB, stB 4 0 0 0 2463534242] k
      else evP Tryd.prog orR (Sg1 M) 4 fs 2 l ([slA off n c, .int .i64 z, undef, undef, .bool false, ptrB 6] ++ (List.replicate 19 undef ++ ([slA off n c, ptrB 6] ++ List.replicate 114 undef))) [uni, pow, mxl M, argB et off L, emB, byB (ofL off n L), stBp 5 (ofN n) unk st0] k) else none) else none := by kernel_rfl
theorem drawRN {α : Type} (M : Int) (fs : Nat → Nat) (off n c n2 cp : Nat) (z : Int) (b3 b4 : Blk) (L : List Int) (l : List Code) (k : Kont α) :
    evP Tryd.prog orR (Sg1 M) 4 fs 2 (qRN 2 :: l) ([slA off n c, .int .i64 z, undef, undef, .bool false, ptrB 6] ++ (List.replicate 19 undef ++ ([slA off n c, ptrB 6] ++ List.replicate 114 undef))) [uni, pow, mxl M, b3, b4, byB L, stBp 5 n2 cp st0] k =
    bif drOk 4 6 5 n2 L 0 then (bif drOk 4 6 5 n2 L (nxts L n2 5 st0).1 then
      evP Tryd.prog orR (Sg1 M) 4 fs 3 l ([slA off n c, .int .i64 z, undef, undef, .bool false, ptrB 6, ptrB 7, ptrB 8] ++ (List.replicate 17 undef ++ ([slA off n c, ptrB 6, ptrB 6, N.v (numF L n2 60 8 st0), ptrB 6, N.v (numF L n2 60 8 (nxts L n2 5 st0))] ++ List.replicate 110 undef)))
        [uni, pow, mxl M, b3, b4, byB L, stBp 5 n2 cp (nxts L n2 5 (nxts L n2 5 st0)), rb (numF L n2 60 8 st0), rb (numF L n2 60 8 (nxts L n2 5 st0))] k
      else none) else none := by kernel_rfl
theorem restRN (M : Int) (fs : Nat → Nat) (x y : N) (z : Int) (b3 b4 b5 b6 : Blk) (v0 v1 v2 v3 v4 v5 v6 : Value) :
    evP Tryd.prog orR (Sg1 M) 4 fs 3 [qRN 3, qRN 4, qRN 5, qRN 6, qRN 7, qRN 8, qRN 9, qRN 10, qRN 11, qRN 12, qRN 13, qRN 14, qRN 15] ([v0, .int .i64 z, undef, undef, .bool false, ptrB 6, ptrB 7, ptrB 8] ++ (List.replicate 17 undef ++ ([v1, v2, v3, v4, v5, v6] ++ List.replicate 110 undef))) [uni, pow, mxl M, b3, b4, b5, b6, rb x, rb y] (endK Tryd.prog 8 fun u _ => some u) =
    (bif (norS x).2 != 0 then some (.bool false) else (bif (norS y).2 != 0 then some (.bool false) else (bif (twoS x y (x.mul y)).2 != 0 then some (.bool false) else (bif (norS (twoS x y (x.mul y)).1).2 != 0 then some (.bool false) else (bif (twoS (norS x).1 (norS y).1 ((norS x).1.mul (norS y).1)).2 != 0 then some (.bool false) else (bif (realS (norS x).1).2 != 0 then some (.bool false) else (bif (lesS (norS x).1 O).2 != 0 then some (.bool false) else (bif (norS (xo z)).2 != 0 then some (.bool false) else (bif !(eqN (norS (twoS x y (x.mul y)).1).1 (twoS (norS x).1 (norS y).1 ((norS x).1.mul (norS y).1)).1) then some (.bool false) else (bif !(realS (norS x).1).1 then some (.bool false) else (bif (lesS (norS x).1 O).1 then some (.bool false) else (bif !(eqN (norS (xo z)).1 ⟨1, 0, 0, 0, 0⟩) then some (.bool false) else (bif (leaS x).2 == 0 then (bif eqN (norS x).1 O == eqN (leaS x).1 O then some (.bool true) else some (.bool false)) else some (.bool false)))))))))))))) := by kernel_rfl
end Go.Proofs.YtonjnnjnojmpjaaDoor.R
