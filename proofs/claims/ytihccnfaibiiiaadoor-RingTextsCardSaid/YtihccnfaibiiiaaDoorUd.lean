/- Ring: the specification's Print; what RingTexts asks. -/
import Derived.Test.YtihccnfaibiiiaaDoorUc
namespace Go.Proofs.YtihccnfaibiiiaaDoor.R
open Go Go.Proofs.XX.Vm Go.Proofs.XX.Rm Go.RowKit
set_option maxRecDepth 100000

abbrev LPt : List Con := [con1 18 fun x => .val (.int .i64 (chkS x)), cFrm, cTxt]
theorem LPt_ok (M : Int) : ∀ c ∈ LPt, ConOk M c := mem_cons_ok (con1_val (g := chkT) (cChkR_ok M) chkS_get) (mem_cons_ok (cFrm_ok M) (mem_cons_ok (cTxt_ok M) nil_ok))
theorem treePrR (M : Int) (m : Nat) (x : N) : runK Tryd.prog (orcL LPt) (Sg1 M) (m + 60) 22 [N.v x] =
    bif chkS x != 0 then some (txtV [] (chkS x)) else bif symN x then (bif okB x.nf && !(x.nf.zero && x.nf.k != 0) then some (txtV (numC x.nf) 0) else none) else none := by kernel_rfl
theorem ePrR (M : Int) (x : N) : EvF Tryd.prog (orcL LPt) (Sg1 M) 22 [N.v x] (txtV (prS x).1 (prS x).2) := by
  refine EvF.of_eq 60 fun m => ?_
  rw [treePrR]
  unfold prS chkS bif3
  cases h1 : rgB x with
  | false => rfl
  | true =>
    cases h2 : inB x with
    | false => rfl
    | true =>
      have ho : okB x = true := by unfold okB; rw [h1, h2]; rfl
      have hz : (x.nf.zero && x.nf.k != 0) = false := by
        cases hz : x.nf.zero with
        | false => rfl
        | true => rw [N.nf_zero_k x hz]; rfl
      rw [symN_of ho, okB_nf ho, hz]; rfl
def cPrR : Con := con1 22 fun x => .val (txtV (prS x).1 (prS x).2)
theorem cPrR_ok (M : Int) : ConOk M cPrR := con1_ok (LPt_ok M) fun x v h => by cases h; exact ePrR M x
abbrev LTexts : List Con := [cPrR, cPri, cPaR, cPar, cAwk]
theorem LTexts_ok (M : Int) : ∀ c ∈ LTexts, ConOk M c := mem_cons_ok (cPrR_ok M) (mem_cons_ok (cPri_ok M) (mem_cons_ok (cPaR_ok M) (mem_cons_ok (cPar_ok M) (mem_cons_ok (cAwk_ok M) nil_ok))))
end Go.Proofs.YtihccnfaibiiiaaDoor.R
