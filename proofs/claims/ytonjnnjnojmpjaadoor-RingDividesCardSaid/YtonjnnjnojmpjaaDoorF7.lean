/- Ring: the specification's Divide, piece by piece (made by mkdiv.py). -/
import Derived.Test.YtonjnnjnojmpjaaDoorF6
namespace Go.Proofs.YtonjnnjnojmpjaaDoor.R
open Go Go.Proofs.XX.Vm Go.Proofs.XX.Rm Go.RowKit
set_option maxRecDepth 100000

def bydB (x : N) (l : Int) : Bool := decide (x.a > l) || (decide (x.a < w (0 - l)) || (decide (x.b > l) || (decide (x.b < w (0 - l)) || (decide (x.c > l) || (decide (x.c < w (0 - l)) || (decide (x.d > l) || decide (x.d < w (0 - l))))))))
theorem tByd (M : Int) (m : Nat) (x : N) (l : Int) : runK Tryd.prog (orcL []) (Sg1 M) (m + 60) 50 [N.v x, .int .i64 l] =
    bif decide (x.a > l) then some (.bool true) else bif decide (x.a < w (0 - l)) then some (.bool true) else bif decide (x.b > l) then some (.bool true) else bif decide (x.b < w (0 - l)) then some (.bool true) else bif decide (x.c > l) then some (.bool true) else bif decide (x.c < w (0 - l)) then some (.bool true) else bif decide (x.d > l) then some (.bool true) else some (.bool (decide (x.d < w (0 - l)))) := by kernel_rfl
def cByd : Con := ⟨50, fun args => match args with
  | [v, .int .i64 l] => match asN v with
    | some x => some (.val (.bool (bydB x l)))
    | none => none
  | _ => none⟩
theorem cByd_ok (M : Int) : ConOk M cByd := by
  refine conOk_of_evF nil_ok ?_
  intro args t v ht hv
  simp only [cByd] at ht
  split at ht
  · rename_i u l
    split at ht
    · rename_i x hx
      rw [asN_eq hx]
      cases ht
      cases hv
      refine ⟨rfl, EvF.of_eq 60 fun m => ?_⟩
      rw [show cByd.f = 50 from rfl, tByd]
      unfold bydB
      cases decide (x.a > l) <;> cases decide (x.a < w (0 - l)) <;> cases decide (x.b > l) <;> cases decide (x.b < w (0 - l)) <;> cases decide (x.c > l) <;> cases decide (x.c < w (0 - l)) <;> cases decide (x.d > l) <;> rfl
    · cases ht
  · cases ht
theorem bydB_eq (x : N) (l : Int) (h0 : 0 ≤ l) (h1 : l ≤ 9223372036854775807) : bydB x l = !(withinB x.a x.b x.c x.d l) := by
  have e : w (0 - l) = -l := by rw [w_eq _ (by omega) (by omega)]; omega
  have h := within_iff x.a x.b x.c x.d l h0 h1
  have g : bydB x l = true ↔ ¬ (withinB x.a x.b x.c x.d l = true) := by
    rw [h]; unfold bydB; rw [e]; simp only [Bool.or_eq_true, decide_eq_true_eq]; omega
  clear h e
  generalize withinB x.a x.b x.c x.d l = p at g ⊢
  generalize bydB x l = q at g ⊢
  cases p <;> cases q <;> simp at g ⊢
/-- The specification's product, and times. -/
def prR (x y : N) : N :=
  ⟨w (w (w (w (x.a * y.a) - w (x.b * y.d)) - w (x.c * y.c)) - w (x.d * y.b)), w (w (w (w (x.a * y.b) + w (x.b * y.a)) - w (x.c * y.d)) - w (x.d * y.c)),
   w (w (w (w (x.a * y.c) + w (x.b * y.b)) + w (x.c * y.a)) - w (x.d * y.d)), w (w (w (w (x.a * y.d) + w (x.b * y.c)) + w (x.c * y.b)) + w (x.d * y.a)), w (x.k + y.k)⟩
theorem tPrd (M : Int) (m : Nat) (x y : N) : runK Tryd.prog (orcL []) (Sg1 M) (m + 60) 52 [N.v x, N.v y] = some (N.v (prR x y)) := by kernel_rfl
def cPrd : Con := con2 52 fun x y => .val (N.v (prR x y))
theorem cPrd_ok (M : Int) : ConOk M cPrd := con2_ok nil_ok fun x y v h => by cases h; exact EvF.of_eq 60 fun m => tPrd M m x y
theorem w_w (a : Int) : w (0 + w a) = w a := by
  show IntKind.i64.wrap (0 + IntKind.i64.wrap a) = IntKind.i64.wrap a
  rw [IntKind.wrap_i64, IntKind.wrap_i64]; omega
theorem prR_eq (x y : N) : prR x y = mulW x y := by
  unfold prR mulW; simp only [w_w]
theorem tCjg (M : Int) (m : Nat) (x : N) : runK Tryd.prog (orcL []) (Sg1 M) (m + 60) 53 [N.v x] = some (N.v (conjW x)) := by kernel_rfl
def cCjg : Con := con1 53 fun x => .val (N.v (conjW x))
theorem cCjg_ok (M : Int) : ConOk M cCjg := con1_ok nil_ok fun x v h => by cases h; exact EvF.of_eq 60 fun m => tCjg M m x
def tmV (x : N) : N := ⟨w (x.b - x.d), w (x.a + x.c), w (x.b + x.d), w (x.c - x.a), x.k⟩
theorem tTmV (M : Int) (m : Nat) (x : N) : runK Tryd.prog (orcL []) (Sg1 M) (m + 60) 55 [N.v x] = some (N.v (tmV x)) := by kernel_rfl
def cTmV : Con := con1 55 fun x => .val (N.v (tmV x))
theorem cTmV_ok (M : Int) : ConOk M cTmV := con1_ok nil_ok fun x v h => by cases h; exact EvF.of_eq 60 fun m => tTmV M m x
noncomputable abbrev LDV : List Con := [cChkR, cFrm, cZer, cByd, cPrd, cCjg, cEvn, cTmV, cHlv]
theorem LDV_ok (M : Int) : ∀ c ∈ LDV, ConOk M c := mem_cons_ok (cChkR_ok M) (mem_cons_ok (cFrm_ok M) (mem_cons_ok (cZer_ok M) (mem_cons_ok (cByd_ok M) (mem_cons_ok (cPrd_ok M) (mem_cons_ok (cCjg_ok M) (mem_cons_ok (cEvn_ok M) (mem_cons_ok (cTmV_ok M) (mem_cons_ok (cHlv_ok M) nil_ok))))))))
/-- Two numbers in a row. -/
def vb2 (x y : N) : Blk := ⟨[.int .i64 x.a, .int .i64 x.b, .int .i64 x.c, .int .i64 x.d, .int .i64 x.k, .int .i64 y.a, .int .i64 y.b, .int .i64 y.c, .int .i64 y.d, .int .i64 y.k], 23, false, none⟩
def vl2 : Value := .slice (some ⟨6, 0, none⟩) 2 2
def hNR (y : N) : N := prR (N.z y.nf) (conjW (N.z y.nf))
def hOT (y : N) : N := ⟨(hNR y).a, w (0 - (hNR y).b), 0, w (0 - (hNR y).d), 0⟩
def hBL (y : N) : Int := (prR (hNR y) (hOT y)).a
def hAB (x y : N) : N := prR (prR (N.z x.nf) (conjW (N.z y.nf))) (hOT y)
noncomputable abbrev qV (i : Nat) : Code := nthC (pcs Tryd.prog 20) i
noncomputable abbrev BV (i : Nat) : Code := loopOf Tryd.prog 20 i
theorem LV_eq : pcs Tryd.prog 20 = [qV 0, qV 1, qV 2, qV 3, qV 4, qV 5, qV 6, qV 7, qV 8, qV 9, qV 10, qV 11, qV 12, qV 13, qV 14, .block 0 (.loop (BV 0)), qV 16, qV 17, qV 18, qV 19, qV 20, .block 2 (.loop (BV 1)), qV 22, qV 23, qV 24, qV 25, qV 26] := by kernel_rfl
def tHead (x y : N) : List Value := [(N.v x), (N.v y), p1, p2, p3, (.int .i64 (0)), (.int .i64 (0)), (.int .i64 (w (x.nf.k - y.nf.k))), (.pointer (some ⟨7, 0, none⟩)), (.pointer (some ⟨8, 0, none⟩)), (.int .i64 (hBL y)), (.pointer (some ⟨9, 0, none⟩)), (N.v x), (N.v y), vl2, (.int .i64 (0)), (.int .i64 (0)), (.bool false), undef, undef, (N.v x), (N.v x.nf), (N.v y), (N.v y.nf), (N.v x.nf), (.bool (bydB x.nf 4096)), (.bool false), (N.v y.nf), (.bool (bydB y.nf 4096)), (.bool false), undef, (N.v y.nf), (.bool false), undef, (.pointer (some ⟨3, 4, none⟩)), (.int .i64 (x.nf.k)), (.pointer (some ⟨4, 4, none⟩)), (.int .i64 (y.nf.k)), (.int .i64 (w (x.nf.k - y.nf.k))), (.pointer (some ⟨3, 4, none⟩)), (.pointer (some ⟨4, 4, none⟩)), (N.v (N.z y.nf)), (N.v (N.z y.nf)), (N.v (conjW (N.z y.nf))), (N.v (hNR y)), (.pointer (some ⟨7, 0, none⟩)), (.int .i64 ((hNR y).a)), (.pointer (some ⟨7, 1, none⟩)), (.int .i64 ((hNR y).b)), (.int .i64 (w (0 - (hNR y).b))), (.pointer (some ⟨7, 3, none⟩)), (.int .i64 ((hNR y).d)), (.int .i64 (w (0 - (hNR y).d))), (N.v (hOT y)), (N.v (hNR y)), (N.v (hOT y)), (N.v (prR (hNR y) (hOT y))), (.int .i64 (hBL y)), (N.v (N.z x.nf)), (N.v (N.z y.nf)), (N.v (conjW (N.z y.nf))), (N.v (prR (N.z x.nf) (conjW (N.z y.nf)))), (N.v (hOT y)), (N.v (hAB x y)), undef, undef, undef, undef, undef, undef, undef, undef, undef, undef, undef, undef, undef, undef, undef, undef, undef, undef, undef, undef, undef, undef, undef, undef, undef, undef, undef, undef, undef, undef, undef, undef, undef, undef, undef, undef, undef, undef, undef, undef, undef, undef, undef, undef, undef, undef, undef, undef, undef, undef, undef, undef, undef, undef, undef, undef, undef, undef, undef, undef, undef, undef, undef, undef, undef, undef, undef, undef, undef, undef, undef, undef, undef, undef, undef, undef, undef, undef, undef, undef, undef, undef, undef, undef, undef, undef, undef, undef, undef, undef, undef, undef, undef]
def tErr (x y : N) (e : Int) : List Value := [(N.v x), (N.v y), p1, p2, p3, (.int .i64 (e)), (.int .i64 (e)), undef, undef, undef, undef, undef, (N.v x), (N.v y), vl2, (.int .i64 (e)), (.int .i64 (e)), (.bool true), (N.v O), (.int .i64 (e)), undef, undef, undef, undef, undef, undef, undef, undef, undef, undef, undef, undef, undef, undef, undef, undef, undef, undef, undef, undef, undef, undef, undef, undef, undef, undef, undef, undef, undef, undef, undef, undef, undef, undef, undef, undef, undef, undef, undef, undef, undef, undef, undef, undef, undef, undef, undef, undef, undef, undef, undef, undef, undef, undef, undef, undef, undef, undef, undef, undef, undef, undef, undef, undef, undef, undef, undef, undef, undef, undef, undef, undef, undef, undef, undef, undef, undef, undef, undef, undef, undef, undef, undef, undef, undef, undef, undef, undef, undef, undef, undef, undef, undef, undef, undef, undef, undef, undef, undef, undef, undef, undef, undef, undef, undef, undef, undef, undef, undef, undef, undef, undef, undef, undef, undef, undef, undef, undef, undef, undef, undef, undef, undef, undef, undef, undef, undef, undef, undef, undef, undef, undef, undef, undef, undef, undef, undef]
def tL1 (x y : N) : List Value := [(N.v x), (N.v y), p1, p2, p3, (.int .i64 (8)), (.int .i64 (0)), undef, undef, undef, undef, undef, (N.v x), (N.v y), vl2, (.int .i64 (0)), (.int .i64 (0)), (.bool false), undef, undef, (N.v x), (N.v x.nf), (N.v y), (N.v y.nf), (N.v x.nf), (.bool (bydB x.nf 4096)), (.bool true), undef, undef, (.bool true), (N.v O), undef, undef, undef, undef, undef, undef, undef, undef, undef, undef, undef, undef, undef, undef, undef, undef, undef, undef, undef, undef, undef, undef, undef, undef, undef, undef, undef, undef, undef, undef, undef, undef, undef, undef, undef, undef, undef, undef, undef, undef, undef, undef, undef, undef, undef, undef, undef, undef, undef, undef, undef, undef, undef, undef, undef, undef, undef, undef, undef, undef, undef, undef, undef, undef, undef, undef, undef, undef, undef, undef, undef, undef, undef, undef, undef, undef, undef, undef, undef, undef, undef, undef, undef, undef, undef, undef, undef, undef, undef, undef, undef, undef, undef, undef, undef, undef, undef, undef, undef, undef, undef, undef, undef, undef, undef, undef, undef, undef, undef, undef, undef, undef, undef, undef, undef, undef, undef, undef, undef, undef, undef, undef, undef, undef, undef, undef]
def tL2 (x y : N) : List Value := [(N.v x), (N.v y), p1, p2, p3, (.int .i64 (8)), (.int .i64 (0)), undef, undef, undef, undef, undef, (N.v x), (N.v y), vl2, (.int .i64 (0)), (.int .i64 (0)), (.bool false), undef, undef, (N.v x), (N.v x.nf), (N.v y), (N.v y.nf), (N.v x.nf), (.bool (bydB x.nf 4096)), (.bool false), (N.v y.nf), (.bool (bydB y.nf 4096)), (.bool true), (N.v O), undef, undef, undef, undef, undef, undef, undef, undef, undef, undef, undef, undef, undef, undef, undef, undef, undef, undef, undef, undef, undef, undef, undef, undef, undef, undef, undef, undef, undef, undef, undef, undef, undef, undef, undef, undef, undef, undef, undef, undef, undef, undef, undef, undef, undef, undef, undef, undef, undef, undef, undef, undef, undef, undef, undef, undef, undef, undef, undef, undef, undef, undef, undef, undef, undef, undef, undef, undef, undef, undef, undef, undef, undef, undef, undef, undef, undef, undef, undef, undef, undef, undef, undef, undef, undef, undef, undef, undef, undef, undef, undef, undef, undef, undef, undef, undef, undef, undef, undef, undef, undef, undef, undef, undef, undef, undef, undef, undef, undef, undef, undef, undef, undef, undef, undef, undef, undef, undef, undef, undef, undef, undef, undef, undef, undef, undef]
def tL3 (x y : N) : List Value := [(N.v x), (N.v y), p1, p2, p3, (.int .i64 (6)), (.int .i64 (0)), undef, undef, undef, undef, undef, (N.v x), (N.v y), vl2, (.int .i64 (0)), (.int .i64 (0)), (.bool false), undef, undef, (N.v x), (N.v x.nf), (N.v y), (N.v y.nf), (N.v x.nf), (.bool (bydB x.nf 4096)), (.bool false), (N.v y.nf), (.bool (bydB y.nf 4096)), (.bool false), undef, (N.v y.nf), (.bool true), (N.v O), undef, undef, undef, undef, undef, undef, undef, undef, undef, undef, undef, undef, undef, undef, undef, undef, undef, undef, undef, undef, undef, undef, undef, undef, undef, undef, undef, undef, undef, undef, undef, undef, undef, undef, undef, undef, undef, undef, undef, undef, undef, undef, undef, undef, undef, undef, undef, undef, undef, undef, undef, undef, undef, undef, undef, undef, undef, undef, undef, undef, undef, undef, undef, undef, undef, undef, undef, undef, undef, undef, undef, undef, undef, undef, undef, undef, undef, undef, undef, undef, undef, undef, undef, undef, undef, undef, undef, undef, undef, undef, undef, undef, undef, undef, undef, undef, undef, undef, undef, undef, undef, undef, undef, undef, undef, undef, undef, undef, undef, undef, undef, undef, undef, undef, undef, undef, undef, undef, undef, undef, undef, undef, undef]
def sHead (M : Int) (x y : N) : List Blk := [uni, pow, mxl M, rb (N.z x.nf), rb (N.z y.nf), rb O, vb2 x y, rb (hNR y), rb (hOT y), rb (hAB x y)]
theorem headV {α : Type} (M : Int) (fs : Nat → Nat) (x y : N) (l : List Code) (k : Kont α) :
    evP Tryd.prog (orcL LDV) (Sg1 M) 3 fs 0 (qV 0 :: qV 1 :: qV 2 :: qV 3 :: qV 4 :: qV 5 :: qV 6 :: qV 7 :: qV 8 :: qV 9 :: qV 10 :: qV 11 :: qV 12 :: qV 13 :: qV 14 :: l) (N.v x :: N.v y :: List.replicate 155 undef) (Sg1 M) k =
    bif3 x (bif3 y (bif symN x then (bif symN y then (bif bydB x.nf 4096 then k .ret (tL1 x y) [uni, pow, mxl M, rb x.nf, rb y.nf, rb O, vb2 x y] else (bif bydB y.nf 4096 then k .ret (tL2 x y) [uni, pow, mxl M, rb x.nf, rb y.nf, rb O, vb2 x y] else (bif y.nf.zero then k .ret (tL3 x y) [uni, pow, mxl M, rb x.nf, rb y.nf, rb O, vb2 x y] else evP Tryd.prog (orcL LDV) (Sg1 M) 3 fs 15 l (tHead x y) (sHead M x y) k))) else none) else none)
      fun e => k .ret (tErr x y e) [uni, pow, mxl M, rb x, rb y, rb O, vb2 x y]) fun e => k .ret (tErr x y e) [uni, pow, mxl M, rb x, rb y, rb O, vb2 x y] := by kernel_rfl
end Go.Proofs.YtonjnnjnojmpjaaDoor.R
