/- Ring: RingField, piece by piece (made by mklaw.py). -/
import Derived.Test.YtihccnfaibiiiaaDoorL1
namespace Go.Proofs.YtihccnfaibiiiaaDoor.R
open Go Go.Proofs.XX.Vm Go.Proofs.XX.Rm Go.RowKit
set_option maxRecDepth 100000

noncomputable abbrev LNum : List Con := [con2 28 fun x y => .val (resV (twoS x y (x.sum y))), con2 31 fun x y => .val (resV (twoS x y (x.sum y.neg))), con2 29 fun x y => .val (resV (twoS x y (x.mul y))), con1 15 fun x => .val (resV (leaS x)),
  con1 32 fun x => .val (resV (oneS x x.conj)), con1 33 fun x => .val (resV (oneS x (N.dot x))), con1 34 fun x => .val (resV (norS x)), con2 16 fun x y => .val (resB (samS x y)), cAwk]
theorem LNum_ok (M : Int) : ∀ c ∈ LNum, ConOk M c :=
  mem_cons_ok (con2_val (cAdd_ok M) fun x y => twoS_get x y _) (mem_cons_ok (con2_val (cSub_ok M) fun x y => twoS_get x y _) (mem_cons_ok (con2_val (cMul_ok M) fun x y => twoS_get x y _) (mem_cons_ok (con1_val (cLea_ok M) leaS_get)
  (mem_cons_ok (con1_val (cConj_ok M) fun x => oneS_get x _) (mem_cons_ok (con1_val (cDot_ok M) fun x => oneS_get x _) (mem_cons_ok (con1_val (cNorm_ok M) norS_get) (mem_cons_ok (con2_val (cSam_ok M) samS_get) (mem_cons_ok (cAwk_ok M) nil_ok))))))))
noncomputable abbrev MNum : List MCon := [cNum, cSum2]
theorem MNum_ok (M : Int) : ∀ c ∈ MNum, MConOk M c := mem_cons_mok (cNum_ok M) (mem_cons_mok (cSum2_ok M) nil_mok)
noncomputable abbrev orN : Orc := orcLM LNum MNum
theorem orN_ok (M : Int) : OrcOk Tryd.prog (Sg1 M) (orcOf orN) := orcLM_ok (LNum_ok M) (MNum_ok M)
/-- The argument, as it lies there. -/
def argB (et off : Nat) (L : List Int) : Blk := ⟨[], et, true, some (.ints .u8 off L)⟩
def slA (off n c : Nat) : Value := .slice (some ⟨3, off, none⟩) n c
def miE (n : Nat) : Int := if (300 : Int) < (n : Int) then 300 else (n : Int)
def ofT1 (n : Nat) : Bool := true && decide (0 ≤ miE n) && Nat.ble 0 (miE n).toNat && Nat.ble (miE n).toNat n && (Nat.beq 0 0 || Nat.blt 0 n)
def ofN (n : Nat) : Nat := (miE n).toNat - 0
def ofT2 (off n : Nat) (L : List Int) : Bool := insideI off L (off + 0 * 1) (ofN n * 1) && Nat.ble (ofN n) 34359738368
def ofL (off n : Nat) (L : List Int) : List Int := (L.drop (off + 0 * 1 - off)).take (ofN n * 1)
def emB : Blk := ⟨[], 5, false, none⟩
def st0 : Int × Int := (0, 2463534242)
noncomputable abbrev qRF (i : Nat) : Code := nthC (pcs Tryd.prog 6) i
theorem LRF_eq : pcs Tryd.prog 6 = [qRF 0, qRF 1, qRF 2, qRF 3, qRF 4, qRF 5, qRF 6, qRF 7, qRF 8, qRF 9, qRF 10, qRF 11, qRF 12, qRF 13, qRF 14, qRF 15, qRF 16, qRF 17, qRF 18, qRF 19, qRF 20, qRF 21, qRF 22, qRF 23, qRF 24] := by kernel_rfl
theorem headRF {α : Type} (M : Int) (fs : Nat → Nat) (et off n c : Nat) (L : List Int) (l : List Code) (k : Kont α) :
    evP Tryd.prog orN (Sg1 M) 4 fs 0 (qRF 0 :: qRF 1 :: l) (slA off n c :: List.replicate 228 undef) [uni, pow, mxl M, argB et off L] k =
    bif ofT1 n then (bif ofT2 off n L then (bif Nat.beq (ofN n) 0 then evP Tryd.prog orN (Sg1 M) 4 fs 2 l ([slA off n c, undef, .bool false, ptrB 5] ++ (List.replicate 25 undef ++ ([slA off n c, ptrB 5] ++ List.replicate 198 undef))) [uni, pow, mxl M, argB et off L, emB, stB 4 0 0 0 2463534242] k
      else evP Tryd.prog orN (Sg1 M) 4 fs 2 l ([slA off n c, undef, .bool false, ptrB 6] ++ (List.replicate 25 undef ++ ([slA off n c, ptrB 6] ++ List.replicate 198 undef))) [uni, pow, mxl M, argB et off L, emB, byB (ofL off n L), stBp 5 (ofN n) unk st0] k) else none) else none := by kernel_rfl
theorem drawRF {α : Type} (M : Int) (fs : Nat → Nat) (off n c n2 cp : Nat) (b3 b4 : Blk) (L : List Int) (l : List Code) (k : Kont α) :
    evP Tryd.prog orN (Sg1 M) 4 fs 2 (qRF 2 :: l) ([slA off n c, undef, .bool false, ptrB 6] ++ (List.replicate 25 undef ++ ([slA off n c, ptrB 6] ++ List.replicate 198 undef))) [uni, pow, mxl M, b3, b4, byB L, stBp 5 n2 cp st0] k =
    bif drOk 4 6 5 n2 L 0 then (bif drOk 4 6 5 n2 L (nxts L n2 5 st0).1 then (bif drOk 4 6 5 n2 L (nxts L n2 5 (nxts L n2 5 st0)).1 then
      evP Tryd.prog orN (Sg1 M) 4 fs 3 l ([slA off n c, undef, .bool false, ptrB 6, ptrB 7, ptrB 8, ptrB 9] ++ (List.replicate 22 undef ++ ([slA off n c, ptrB 6, ptrB 6, N.v (numF L n2 60 8 st0), ptrB 6, N.v (numF L n2 60 8 (nxts L n2 5 st0)), ptrB 6, N.v (numF L n2 9 3 (nxts L n2 5 (nxts L n2 5 st0)))] ++ List.replicate 192 undef)))
        [uni, pow, mxl M, b3, b4, byB L, stBp 5 n2 cp (nxts L n2 5 (nxts L n2 5 (nxts L n2 5 st0))), rb (numF L n2 60 8 st0), rb (numF L n2 60 8 (nxts L n2 5 st0)), rb (numF L n2 9 3 (nxts L n2 5 (nxts L n2 5 st0)))] k
      else none) else none) else none := by kernel_rfl
theorem restRF (M : Int) (fs : Nat → Nat) (x y z : N) (b3 b4 b5 b6 : Blk) (v0 v29 v30 v31 v32 v33 v34 v35 v36 : Value) :
    evP Tryd.prog orN (Sg1 M) 4 fs 3 [qRF 3, qRF 4, qRF 5, qRF 6, qRF 7, qRF 8, qRF 9, qRF 10, qRF 11, qRF 12, qRF 13, qRF 14, qRF 15, qRF 16, qRF 17, qRF 18, qRF 19, qRF 20, qRF 21, qRF 22, qRF 23, qRF 24] ([v0, undef, .bool false, ptrB 6, ptrB 7, ptrB 8, ptrB 9] ++ (List.replicate 22 undef ++ ([v29, v30, v31, v32, v33, v34, v35, v36] ++ List.replicate 192 undef))) [uni, pow, mxl M, b3, b4, b5, b6, rb x, rb y, rb z] (endK Tryd.prog 6 fun u _ => some u) =
    (bif (twoS x y (x.sum y)).2 != 0 then some (.bool false) else (bif (twoS y x (y.sum x)).2 != 0 then some (.bool false) else (bif (twoS x y (x.mul y)).2 != 0 then some (.bool false) else (bif (twoS y x (y.mul x)).2 != 0 then some (.bool false) else (bif !(eqN (twoS x y (x.sum y)).1 (twoS y x (y.sum x)).1) then some (.bool false) else (bif !(eqN (twoS x y (x.mul y)).1 (twoS y x (y.mul x)).1) then some (.bool false) else (bif (twoS (twoS x y (x.sum y)).1 z ((twoS x y (x.sum y)).1.sum z)).2 != 0 then some (.bool false) else (bif (twoS y z (y.sum z)).2 != 0 then some (.bool false) else (bif (twoS x (twoS y z (y.sum z)).1 (x.sum (twoS y z (y.sum z)).1)).2 != 0 then some (.bool false) else (bif (twoS (twoS x y (x.mul y)).1 z ((twoS x y (x.mul y)).1.mul z)).2 != 0 then some (.bool false) else (bif (twoS y z (y.mul z)).2 != 0 then some (.bool false) else (bif (twoS x (twoS y z (y.mul z)).1 (x.mul (twoS y z (y.mul z)).1)).2 != 0 then some (.bool false) else (bif !(eqN (twoS (twoS x y (x.sum y)).1 z ((twoS x y (x.sum y)).1.sum z)).1 (twoS x (twoS y z (y.sum z)).1 (x.sum (twoS y z (y.sum z)).1)).1) then some (.bool false) else (bif !(eqN (twoS (twoS x y (x.mul y)).1 z ((twoS x y (x.mul y)).1.mul z)).1 (twoS x (twoS y z (y.mul z)).1 (x.mul (twoS y z (y.mul z)).1)).1) then some (.bool false) else (bif (twoS (twoS x y (x.sum y)).1 z ((twoS x y (x.sum y)).1.mul z)).2 == 0 then (bif (twoS x z (x.mul z)).2 == 0 then (bif (twoS (twoS x z (x.mul z)).1 (twoS y z (y.mul z)).1 ((twoS x z (x.mul z)).1.sum (twoS y z (y.mul z)).1)).2 == 0 then (bif (sum2S (twoS x z (x.mul z)).1 (twoS y z (y.mul z)).1).2 == 0 then (bif (twoS (twoS x y (x.sum y)).1 y ((twoS x y (x.sum y)).1.sum y.neg)).2 == 0 then (bif (leaS x).2 == 0 then (bif eqN (twoS (twoS x y (x.sum y)).1 z ((twoS x y (x.sum y)).1.mul z)).1 (twoS (twoS x z (x.mul z)).1 (twoS y z (y.mul z)).1 ((twoS x z (x.mul z)).1.sum (twoS y z (y.mul z)).1)).1 then (bif eqN (twoS (twoS x z (x.mul z)).1 (twoS y z (y.mul z)).1 ((twoS x z (x.mul z)).1.sum (twoS y z (y.mul z)).1)).1 (sum2S (twoS x z (x.mul z)).1 (twoS y z (y.mul z)).1).1 then (bif eqN (twoS (twoS x y (x.sum y)).1 y ((twoS x y (x.sum y)).1.sum y.neg)).1 (leaS x).1 then some (.bool true) else some (.bool false)) else some (.bool false)) else some (.bool false)) else some (.bool false)) else some (.bool false)) else some (.bool false)) else some (.bool false)) else some (.bool false)) else some (.bool false)))))))))))))))) := by kernel_rfl
end Go.Proofs.YtihccnfaibiiiaaDoor.R
