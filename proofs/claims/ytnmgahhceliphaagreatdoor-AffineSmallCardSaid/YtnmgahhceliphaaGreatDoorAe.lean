/- Affine: a small map, and another one behind it, for all integers. -/
import Derived.Test.YtnmgahhceliphaaGreatDoorAd
namespace Go.Proofs.YtnmgahhceliphaaGreatDoor.A
open Go Go.Proofs.XX.Vm
set_option maxRecDepth 100000

def thenV (w a b c s a' b' c' s' : Int) : Value := .agg #[.int .i64 w, .int .i64 (sum2 (takeV a' b' c' s' a) (takeV a' b' c' s' 0)), .int .i64 (sum2 (takeV a' b' c' s' b) (takeV a' b' c' s' 0)), .int .i64 (sum2 (takeV a' b' c' s' c) (takeV a' b' c' s' 0)), .int .i64 (takeV a' b' c' s' s)]
theorem L1_ok : ∀ c ∈ [cTake], ConOk Tryz.prog SgA c := cons_cok cTake_ok nil_cok
theorem M1_ok : ∀ c ∈ [cSum], MConOk Tryz.prog SgA c := cons_mok cSum_ok nil_mok
theorem tThen (w a b c s w' a' b' c' s' : Int) : callInK Tryz.prog (evCodeK Tryz.prog (orcLM [cTake] [cSum]) SgA 300) SgA.length 130 [.agg #[I w, I a, I b, I c, I s], .func (.func 131) #[.agg #[I w', I a', I b', I c', I s']] #[]] SgA (fun u U => some (u, takeR U SgA.length)) = some (thenV w a b c s a' b' c' s', SgA) := by kernel_rfl
noncomputable def domThen (args : List Value) (S : List Blk) : Option OTM := match args with
  | [.agg cs, .func (.func g) x y] => match intsOf .i64 cs.toList, x.toList, y.toList with
    | some [w, a, b, c, s], [.agg ds], [] => match intsOf .i64 ds.toList, Nat.beq g 131 with
      | some [_, a', b', c', s'], true => some (.val (thenV w a b c s a' b' c' s') S)
      | _, _ => none
    | _, _, _ => none
  | _ => none
noncomputable def cThen : MCon := ⟨130, fun _ args S => domThen args S⟩
theorem cThen_ok : MConOk Tryz.prog SgA cThen := by
  intro fl args S t v S' ht hg h1 h2
  simp only [cThen, domThen] at ht
  split at ht
  · rename_i cs g x y
    split at ht
    · rename_i w a b c s ds hm hx hy
      split at ht
      · rename_i w' a' b' c' s' hn hgq
        cases ht
        cases hg
        have hgg : g = 131 := Nat.eq_of_beq_eq_true hgq
        have hcs : cs = #[I w, I a, I b, I c, I s] := Array.toList_inj.1 (intsOf_map hm)
        have hds : ds = #[I w', I a', I b', I c', I s'] := Array.toList_inj.1 (intsOf_map hn)
        have hx2 : x = #[.agg ds] := Array.toList_inj.1 hx
        have hy2 : y = #[] := Array.toList_inj.1 hy
        subst hgg hcs hx2 hy2 hds
        exact callAt_pl sgA (orcLM_ok L1_ok M1_ok) (tThen w a b c s w' a' b' c' s') rfl rfl h2
      · cases ht
    · cases ht
  · cases ht
end Go.Proofs.YtnmgahhceliphaaGreatDoor.A
