/- Ring: the law RingLeast. -/
import Derived.Test.YtihccnfaibiiiaaDoorC3
namespace Go.Proofs.YtihccnfaibiiiaaDoor.R
open Go Go.Proofs.XX.Vm Go.Proofs.XX.Rm Go.RowKit
set_option maxRecDepth 100000

theorem con1_val {M : Int} {f : FuncId} {g : N → OT} {h : N → Value} (hc : ConOk M (con1 f g)) (e : ∀ x, (g x).get = some (h x)) : ConOk M (con1 f fun x => .val (h x)) := by
  intro args t v ht hv w inv
  simp only [con1] at ht
  split at ht
  · rename_i u
    split at ht
    · rename_i x hx
      cases ht; cases hv
      exact hc [u] (g x) (h x) (by simp only [con1, hx]) (e x) w inv
    · cases ht
  · cases ht
theorem con2_val {M : Int} {f : FuncId} {g : N → N → OT} {h : N → N → Value} (hc : ConOk M (con2 f g)) (e : ∀ x y, (g x y).get = some (h x y)) : ConOk M (con2 f fun x y => .val (h x y)) := by
  intro args t v ht hv w inv
  simp only [con2] at ht
  split at ht
  · rename_i u t2
    split at ht
    · rename_i x y hx hy
      cases ht; cases hv
      exact hc [u, t2] (g x y) (h x y) (by simp only [con2, hx, hy]) (e x y) w inv
    · cases ht
  · cases ht
def chkS (x : N) : Int := bif3 x 0 id
def leaS (x : N) : N × Int := bif3 x (x.nf, 0) fun n => (O, n)
def samS (x y : N) : Bool × Int := bif3 x (bif3 y (eqN x.nf y.nf, 0) fun n => (false, n)) fun n => (false, n)
def chkT (x : N) : OT := okT x (.val (.int .i64 0)) fun n => .val (.int .i64 n)
theorem chkS_get (x : N) : (chkT x).get = some (.int .i64 (chkS x)) := by unfold chkT chkS; rw [okT_get]; unfold bif3; cases rgB x <;> cases inB x <;> rfl
theorem leaS_get (x : N) : (leaT x).get = some (resV (leaS x)) := by unfold leaT leaS badN; rw [okT_get]; unfold bif3; cases rgB x <;> cases inB x <;> rfl
theorem samS_get (x y : N) : (samT x y).get = some (resB (samS x y)) := by
  unfold samT samS; simp only [okT_get]; unfold bif3
  cases rgB x <;> cases inB x <;> cases rgB y <;> cases inB y <;> rfl
abbrev LLeast : List Con := [con1 17 fun x => .val (.int .i64 (chkS x)), con1 18 fun x => .val (.int .i64 (chkS x)), con1 15 fun x => .val (resV (leaS x)), con1 13 fun x => .val (resV (leaS x)),
  con2 16 fun x y => .val (resB (samS x y)), con2 14 fun x y => .val (resB (samS x y)), cAwk]
theorem LLeast_ok (M : Int) : ∀ c ∈ LLeast, ConOk M c :=
  mem_cons_ok (con1_val (g := chkT) (cChk_ok M) chkS_get) (mem_cons_ok (con1_val (g := chkT) (cChkR_ok M) chkS_get) (mem_cons_ok (con1_val (cLea_ok M) leaS_get) (mem_cons_ok (con1_val (cLeaR_ok M) leaS_get)
    (mem_cons_ok (con2_val (cSam_ok M) samS_get) (mem_cons_ok (con2_val (cSamR_ok M) samS_get) (mem_cons_ok (cAwk_ok M) nil_ok))))))
end Go.Proofs.YtihccnfaibiiiaaDoor.R
