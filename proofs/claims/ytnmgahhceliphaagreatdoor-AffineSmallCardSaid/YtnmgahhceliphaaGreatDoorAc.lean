/- Affine: where a small map takes a basis state, for all integers, as one value. -/
import Derived.Test.YtnmgahhceliphaaGreatDoorAa
import Derived.Test.YtnmgahhceliphaaGreatDoorY4
namespace Go.Proofs.YtnmgahhceliphaaGreatDoor.A
open Go Go.Proofs.XX.Vm
set_option maxRecDepth 100000

def hasB (x k : Int) : Bool := (IntKind.i64.wrap (((BitVec.ofInt IntKind.i64.bits (shrN .i64 x k) &&& BitVec.ofInt IntKind.i64.bits 1).toNat : Nat) : Int)) == 1
def xw (a b : Int) : Int := IntKind.i64.wrap (((BitVec.ofInt IntKind.i64.bits a ^^^ BitVec.ofInt IntKind.i64.bits b).toNat : Nat) : Int)
def sum2 (a b : Int) : Int := xw (xw 0 a) b
def one1 : Int := IntKind.i64.wrap (0 + 1)
def two2 : Int := IntKind.i64.wrap (IntKind.i64.wrap (0 + 1) + 1)
def addIf (q : Bool) (s a : Int) : Int := bif q then sum2 s a else s
def takeV (a b c s x : Int) : Int := addIf (hasB x two2) (addIf (hasB x one1) (addIf (hasB x 0) s a) b) c
def tk2 (c s x : Int) : OT := .ite (hasB x two2) (.val (.int .i64 (sum2 s c))) (.val (.int .i64 s))
def tk1 (b c s x : Int) : OT := .ite (hasB x one1) (tk2 c (sum2 s b) x) (tk2 c s x)
def takeOT (a b c s x : Int) : OT := .ite (hasB x 0) (tk1 b c (sum2 s a) x) (tk1 b c s x)
theorem tTake (m : Nat) (w a b c s x : Int) : runK Tryz.prog O0 SgA (m + 60) 131 [.agg #[I w, I a, I b, I c, I s], I x] = (takeOT a b c s x).get := by kernel_rfl
theorem takeOT_get (a b c s x : Int) : (takeOT a b c s x).get = some (.int .i64 (takeV a b c s x)) := by
  unfold takeOT tk1 tk2 takeV addIf
  simp only [OT.get]
  cases hasB x 0 <;> cases hasB x one1 <;> cases hasB x two2 <;> rfl
noncomputable def domTake : List Value → Option OT
  | [.agg cs, .int .i64 x] => match intsOf .i64 cs.toList with
    | some [_, a, b, c, s] => some (.val (.int .i64 (takeV a b c s x)))
    | _ => none
  | _ => none
noncomputable def cTake : Con := ⟨131, domTake⟩
theorem cTake_ok : ConOk Tryz.prog SgA cTake := by
  intro args t v ht hv w inv
  simp only [cTake, domTake] at ht
  split at ht
  · rename_i cs x
    split at ht
    · rename_i w0 a b c s hm
      cases ht
      cases hv
      have hcs : cs = #[I w0, I a, I b, I c, I s] := Array.toList_inj.1 (intsOf_map hm)
      subst hcs
      exact EvF.calls sgA (orcLM_ok nil_cok nil_mok) (EvF.of_eq 60 fun m => (tTake m w0 a b c s x).trans (takeOT_get a b c s x)) rfl inv
    · cases ht
  · cases ht
end Go.Proofs.YtnmgahhceliphaaGreatDoor.A
