/- Ring: RingDivided, piece by piece (made by mkdvd.py). -/
import Derived.Test.YtihccnfaibiiiaaDoorL2
import Derived.Test.YtihccnfaibiiiaaDoorT4
namespace Go.Proofs.YtihccnfaibiiiaaDoor.R
open Go Go.Proofs.XX.Vm Go.Proofs.XX.Rm Go.RowKit
set_option maxRecDepth 100000

noncomputable abbrev LDvd : List Con := con2 21 (fun x y => .val (resV (divR x y))) :: LNum
theorem LDvd_ok (M : Int) : ∀ c ∈ LDvd, ConOk M c := mem_cons_ok (con2_val (cDiv_ok M) fun x y => divR_get x y) (LNum_ok M)
noncomputable abbrev MDvd : List MCon := [cDraw, cNum, cSum2]
theorem MDvd_ok (M : Int) : ∀ c ∈ MDvd, MConOk M c := mem_cons_mok (cDraw_ok M) (MNum_ok M)
noncomputable abbrev orV : Orc := orcLM LDvd MDvd
theorem orV_ok (M : Int) : OrcOk Tryd.prog (Sg1 M) (orcOf orV) := orcLM_ok (LDvd_ok M) (MDvd_ok M)
/-- The numbers that were read before the draw are as they were behind it. -/
noncomputable def keptB (x : N) : Bool := sameBlks [rb x, rb O] [rb x, rb O] [(0, 0), (8, 1)]
theorem keptB_true (x : N) : keptB x = true := by
  simp [keptB, sameBlks, allR_eq, heq1, leq, seq1, rb, O]
/-- What is divided, and multiplied again. -/
def dvdC (x y : N) : Option Value := bif (divR x y).2 != 0 then (bif (divR x y).2 == 6 then some (.bool true) else some (.bool false)) else
  bif (twoS (divR x y).1 y ((divR x y).1.mul y)).2 == 0 then (bif eqN (twoS (divR x y).1 y ((divR x y).1.mul y)).1 (leaS x).1 then some (.bool true) else some (.bool false)) else some (.bool false)
def dvdB (x y : N) : Option Value := bif (samS y O).2 != 0 then some (.bool false) else bif (divR (twoS x y (x.mul y)).1 y).2 != 0 then some (.bool false) else bif !(eqN (divR (twoS x y (x.mul y)).1 y).1 (leaS x).1) then some (.bool false) else dvdC x y
def dvdA (x y : N) (s : Int) : Option Value := bif (twoS x y (x.mul y)).2 != 0 then some (.bool false) else bif (leaS x).2 != 0 then some (.bool false) else bif (divR x ⟨0, 0, 0, 0, s⟩).2 != 6 then some (.bool false) else bif !(eqN (divR x ⟨0, 0, 0, 0, s⟩).1 O) then some (.bool false) else
  bif (samS y O).2 != 0 then dvdB x y else bif !(samS y O).1 then dvdB x y else dvdC x y
noncomputable abbrev qRV (i : Nat) : Code := nthC (pcs Tryd.prog 10) i
theorem LRV_eq : pcs Tryd.prog 10 = [qRV 0, qRV 1, qRV 2, qRV 3, qRV 4, qRV 5, qRV 6, qRV 7, qRV 8, qRV 9, qRV 10, qRV 11, qRV 12, qRV 13, qRV 14, qRV 15, qRV 16] := by kernel_rfl
theorem headRV {α : Type} (M : Int) (fs : Nat → Nat) (et off n c : Nat) (L : List Int) (l : List Code) (k : Kont α) :
    evP Tryd.prog orV (Sg1 M) 4 fs 0 (qRV 0 :: qRV 1 :: l) (slA off n c :: List.replicate 115 undef) [uni, pow, mxl M, argB et off L] k =
    bif ofT1 n then (bif ofT2 off n L then (bif Nat.beq (ofN n) 0 then evP Tryd.prog orV (Sg1 M) 4 fs 2 l ([slA off n c, undef, .bool false, ptrB 5] ++ (List.replicate 14 undef ++ ([slA off n c, ptrB 5] ++ List.replicate 96 undef))) [uni, pow, mxl M, argB et off L, emB, stB 4 0 0 0 2463534242] k
      else evP Tryd.prog orV (Sg1 M) 4 fs 2 l ([slA off n c, undef, .bool false, ptrB 6] ++ (List.replicate 14 undef ++ ([slA off n c, ptrB 6] ++ List.replicate 96 undef))) [uni, pow, mxl M, argB et off L, emB, byB (ofL off n L), stBp 5 (ofN n) unk st0] k) else none) else none := by kernel_rfl
theorem restRV (M : Int) (fs : Nat → Nat) (off n c n2 cp : Nat) (b3 b4 : Blk) (L : List Int) :
    evP Tryd.prog orV (Sg1 M) 4 fs 2 [qRV 2, qRV 3, qRV 4, qRV 5, qRV 6, qRV 7, qRV 8, qRV 9, qRV 10, qRV 11, qRV 12, qRV 13, qRV 14, qRV 15, qRV 16] ([slA off n c, undef, .bool false, ptrB 6] ++ (List.replicate 14 undef ++ ([slA off n c, ptrB 6] ++ List.replicate 96 undef))) [uni, pow, mxl M, b3, b4, byB L, stBp 5 n2 cp st0] (endK Tryd.prog 10 fun u _ => some u) =
    (bif drOk 4 6 5 n2 L st0.1 then (bif drOk 4 6 5 n2 L (nxts L n2 5 st0).1 then (bif drOk 4 6 5 n2 L (nxts L n2 5 (nxts L n2 5 st0)).1 then (bif keptB (numF L n2 12 6 st0) then dvdA (numF L n2 12 6 st0) (numF L n2 12 6 (nxts L n2 5 st0)) (lesF L n2 9 (nxts L n2 5 (nxts L n2 5 st0))) else none) else none) else none) else none) := by kernel_rfl
end Go.Proofs.YtihccnfaibiiiaaDoor.R
