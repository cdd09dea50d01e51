/- Ring: the program's Less, and what Real and Less give, as one value each. -/
import Derived.Test.YtihccnfaibiiiaaGreatDoorH1
namespace Go.Proofs.YtihccnfaibiiiaaGreatDoor.R
open Go Go.Proofs.XX.Vm Go.Proofs.XX.Rm Go.RowKit
set_option maxRecDepth 100000

/-- Less. -/
def lesT (x y : N) : OT := okT x (okT y (.ite (realB x) (.ite (realB y) (.ite (okB (x.sum y.neg).nf) (.val (resB (negB (x.sum y.neg).nf, 0))) (badB 8)) (badB 7)) (badB 7)) badB) badB
abbrev LLs : List Con := [cChk, con2 12 fun x y => okV2 x y (fitT (x.sum y.neg).nf), cNgP]
theorem LLs_ok (M : Int) : ∀ c ∈ LLs, ConOk M c := mem_cons_ok (cChk_ok M) (mem_cons_ok (okV2_of (cSub_ok M) fun _ _ hx hy => twoT_ok hx hy) (mem_cons_ok (cNgP_ok M) nil_ok))
theorem tLes (M : Int) (m : Nat) (x y : N) : runK Tryz.prog (orcL LLs) (Sg1 M) (m + 60) 35 [N.v x, N.v y] =
    bif3 x (bif3 y (bif !(realW x) then some (resB (false, 7)) else (bif !(realW y) then some (resB (false, 7)) else (bif okB2 x y then (bif okB (x.sum y.neg).nf then (bif okB (x.sum y.neg).nf then some (resB (negB (x.sum y.neg).nf, 0)) else none) else some (resB (false, 8))) else none)))
      fun n => some (resB (false, n))) fun n => some (resB (false, n)) := by kernel_rfl
theorem cLes_ok (M : Int) : ConOk M (con2 35 lesT) := con2_ok (LLs_ok M) fun x y v h => by
  refine EvF.of_eq 60 fun m => get_some h ?_
  rw [tLes]
  unfold lesT badB
  rw [okT_get]
  refine bif3_ext (fun hx => ?_) fun n => rfl
  rw [okT_get]
  refine bif3_ext (fun hy => ?_) fun n => rfl
  rw [realW_eq hx, realW_eq hy, okB2_mk hx hy]
  simp only [OT.get]
  cases realB x <;> cases realB y <;> cases okB (x.sum y.neg).nf <;> rfl
def realS (x : N) : Bool × Int := bif3 x (realB x, 0) fun n => (false, n)
def lesS (x y : N) : Bool × Int := bif3 x (bif3 y (bif realB x then (bif realB y then (bif okB (x.sum y.neg).nf then (negB (x.sum y.neg).nf, 0) else (false, 8)) else (false, 7)) else (false, 7)) fun n => (false, n)) fun n => (false, n)
theorem realS_get (x : N) : (realT x).get = some (resB (realS x)) := by
  unfold realT realS badB; rw [okT_get]; unfold bif3; cases rgB x <;> cases inB x <;> rfl
theorem lesS_get (x y : N) : (lesT x y).get = some (resB (lesS x y)) := by
  unfold lesT lesS badB; simp only [okT_get, OT.get]; unfold bif3
  cases rgB x <;> cases inB x <;> cases rgB y <;> cases inB y <;> cases realB x <;> cases realB y <;> cases okB (x.sum y.neg).nf <;> rfl
end Go.Proofs.YtihccnfaibiiiaaGreatDoor.R
