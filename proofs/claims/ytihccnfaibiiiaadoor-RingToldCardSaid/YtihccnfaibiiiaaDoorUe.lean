/- Ring: RingTold, piece by piece (made by mktl.py). -/
import Derived.Test.YtihccnfaibiiiaaDoorL3
import Derived.Test.YtihccnfaibiiiaaDoorUD
namespace Go.Proofs.YtihccnfaibiiiaaDoor.R
open Go Go.Proofs.XX.Vm Go.Proofs.XX.Rm Go.RowKit
set_option maxRecDepth 100000

noncomputable abbrev LTold : List Con := [cPri, con1 15 fun x => .val (resV (leaS x)), con2 16 fun x y => .val (resB (samS x y)), cPar, cAwk]
theorem LTold_ok (M : Int) : ∀ c ∈ LTold, ConOk M c := mem_cons_ok (cPri_ok M) (mem_cons_ok (con1_val (cLea_ok M) leaS_get) (mem_cons_ok (con2_val (cSam_ok M) samS_get) (mem_cons_ok (cPar_ok M) (mem_cons_ok (cAwk_ok M) nil_ok))))
noncomputable abbrev MTold : List MCon := [cDraw, cNum]
theorem MTold_ok (M : Int) : ∀ c ∈ MTold, MConOk M c := mem_cons_mok (cDraw_ok M) (mem_cons_mok (cNum_ok M) nil_mok)
noncomputable abbrev orT : Orc := orcLM LTold MTold
theorem orT_ok (M : Int) : OrcOk Tryd.prog (Sg1 M) (orcOf orT) := orcLM_ok (LTold_ok M) (MTold_ok M)
/-- What two numbers' texts tell. -/
def tolA (x y : N) : Option Value := bif (prS x).2 == 0 then (bif (prS y).2 == 0 then (bif (samS x y).2 == 0 then (bif (leaS x).2 == 0 then (bif (parM (bs (prS x).1).data.toList).2 == 0 then (bif eqN (parM (bs (prS x).1).data.toList).1 (leaS x).1 then
  (bif ((bs (prS x).1).toList == (bs (prS y).1).toList) == (samS x y).1 then some (.bool true) else some (.bool false)) else some (.bool false)) else some (.bool false)) else some (.bool false)) else some (.bool false)) else some (.bool false)) else some (.bool false)
def tolT (x y : N) : Option Value := bif Nat.ble (bs (prS x).1).size 4000000 then tolA x y else none
noncomputable abbrev qRL (i : Nat) : Code := nthC (pcs Tryd.prog 11) i
theorem LRL_eq : pcs Tryd.prog 11 = [qRL 0, qRL 1, qRL 2, qRL 3, qRL 4, qRL 5, qRL 6, qRL 7, qRL 8, qRL 9, qRL 10, qRL 11] := by kernel_rfl
theorem headRL {α : Type} (M : Int) (fs : Nat → Nat) (et off n c : Nat) (far : Bool) (L : List Int) (l : List Code) (k : Kont α) :
    evP Tryd.prog orT (Sg1 M) 4 fs 0 (qRL 0 :: qRL 1 :: l) (slA off n c :: .bool far :: List.replicate 92 undef) [uni, pow, mxl M, argB et off L] k =
    bif ofT1 n then (bif ofT2 off n L then (bif Nat.beq (ofN n) 0 then evP Tryd.prog orT (Sg1 M) 4 fs 2 l ([slA off n c, .bool far, undef, undef, .bool false, ptrB 5] ++ (List.replicate 12 undef ++ ([slA off n c, ptrB 5] ++ List.replicate 74 undef))) [uni, pow, mxl M, argB et off L, emB, stB 4 0 0 0 2463534242] k
      else evP Tryd.prog orT (Sg1 M) 4 fs 2 l ([slA off n c, .bool far, undef, undef, .bool false, ptrB 6] ++ (List.replicate 12 undef ++ ([slA off n c, ptrB 6] ++ List.replicate 74 undef))) [uni, pow, mxl M, argB et off L, emB, byB (ofL off n L), stBp 5 (ofN n) unk st0] k) else none) else none := by kernel_rfl
theorem restRL (M : Int) (fs : Nat → Nat) (off n c n2 cp : Nat) (far : Bool) (b3 b4 : Blk) (L : List Int) :
    evP Tryd.prog orT (Sg1 M) 4 fs 2 [qRL 2, qRL 3, qRL 4, qRL 5, qRL 6, qRL 7, qRL 8, qRL 9, qRL 10, qRL 11] ([slA off n c, .bool far, undef, undef, .bool false, ptrB 6] ++ (List.replicate 12 undef ++ ([slA off n c, ptrB 6] ++ List.replicate 74 undef))) [uni, pow, mxl M, b3, b4, byB L, stBp 5 n2 cp st0] (endK Tryd.prog 11 fun u _ => some u) =
    (bif drOk 4 6 5 n2 L st0.1 then (bif drOk 4 6 5 n2 L (nxts L n2 5 st0).1 then (bif far then (bif drOk 4 6 5 n2 L (nxts L n2 5 (nxts L n2 5 st0)).1 then (bif drOk 4 6 5 n2 L (nxts L n2 5 (nxts L n2 5 (nxts L n2 5 st0))).1 then (bif lesF L n2 2 (nxts L n2 5 (nxts L n2 5 (nxts L n2 5 st0))) == 0 then tolT (numF L n2 1073741824 60 (nxts L n2 5 (nxts L n2 5 st0))) (withK (numF L n2 1073741824 60 (nxts L n2 5 (nxts L n2 5 st0))) (mn (w ((numF L n2 1073741824 60 (nxts L n2 5 (nxts L n2 5 st0))).k + 1)) 60)) else tolT (numF L n2 1073741824 60 (nxts L n2 5 (nxts L n2 5 st0))) (numF L n2 1073741824 60 (nxts L n2 5 (nxts L n2 5 st0)))) else none) else none) else tolT (numF L n2 3 3 st0) (numF L n2 3 3 (nxts L n2 5 st0))) else none) else none) := by kernel_rfl
end Go.Proofs.YtihccnfaibiiiaaDoor.R
