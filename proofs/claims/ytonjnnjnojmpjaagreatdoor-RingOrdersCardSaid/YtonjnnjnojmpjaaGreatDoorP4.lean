/- Ring: what the functions of order give, as one value each. -/
import Derived.Test.YtonjnnjnojmpjaaGreatDoorP3
namespace Go.Proofs.YtonjnnjnojmpjaaGreatDoor.R
open Go Go.Proofs.XX.Vm Go.Proofs.XX.Rm Go.RowKit
set_option maxRecDepth 100000
def realS (x : N) : Bool × Int := bif3 x (realB x, 0) fun n => (false, n)
def lesS (x y : N) : Bool × Int := bif3 x (bif3 y (bif realB x then (bif realB y then (bif okB (x.sum y.neg).nf then (negB (x.sum y.neg).nf, 0) else (false, 8)) else (false, 7)) else (false, 7)) fun n => (false, n)) fun n => (false, n)
def phS (x y : N) : Int × Int := bif3 x (bif3 y (phaS x y) fun n => (0, n)) fun n => (0, n)
theorem realS_get (x : N) : (realT x).get = some (resB (realS x)) := by
  unfold realT realS badB; rw [okT_get]; unfold bif3; cases rgB x <;> cases inB x <;> rfl
theorem lesS_get (x y : N) : (lesT x y).get = some (resB (lesS x y)) := by
  unfold lesT lesS badB; simp only [okT_get, OT.get]; unfold bif3
  cases rgB x <;> cases inB x <;> cases rgB y <;> cases inB y <;> cases realB x <;> cases realB y <;> cases okB (x.sum y.neg).nf <;> rfl
theorem phS_get (x y : N) : (phaT x y).get = some (resP (phS x y)) := by
  unfold phaT phS badP; simp only [okT_get, OT.get]; unfold bif3
  cases rgB x <;> cases inB x <;> cases rgB y <;> cases inB y <;> rfl
noncomputable abbrev LOrders : List Con := [con1 34 fun x => .val (resB (realS x)), con1 31 fun x => .val (resB (realS x)), con2 35 fun x y => .val (resB (lesS x y)), con2 32 fun x y => .val (resB (lesS x y)), con2 36 fun x y => .val (resP (phS x y)), con2 33 fun x y => .val (resP (phS x y)), cAwk]
theorem LOrders_ok (M : Int) : ∀ c ∈ LOrders, ConOk M c :=
  mem_cons_ok (con1_val (cReal_ok M) realS_get) (mem_cons_ok (con1_val (cRealR_ok M) realS_get) (mem_cons_ok (con2_val (cLes_ok M) lesS_get) (mem_cons_ok (con2_val (cLesR_ok M) lesS_get) (mem_cons_ok (con2_val (cPhaP_ok M) phS_get) (mem_cons_ok (con2_val (cPhaR_ok M) phS_get) (mem_cons_ok (cAwk_ok M) nil_ok))))))
end Go.Proofs.YtonjnnjnojmpjaaGreatDoor.R
