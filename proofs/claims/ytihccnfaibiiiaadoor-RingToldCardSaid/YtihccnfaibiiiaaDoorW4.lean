/- A small evaluator over a shadow heap: calls of which the value and the old blocks are known. -/
import Derived.Test.YtihccnfaibiiiaaDoorW3
namespace Go.Proofs.XX.Vm
open Go Go.RowKit

section
variable {P : Program} {orc : Orc} {Sg : List Blk}
/-- The same, where the old blocks behind the call are known, too. -/
theorem callInK_take (hsg : SgOk Sg) (horc : OrcOk P Sg (orcOf orc)) {fl m : Nat} {f : FuncId} {args : List Value} {S S1 : List Blk} {v : Value}
    (h : callInK P (evCodeK P orc Sg m) fl f args S (fun u U => some (u, U.take S.length)) = some (v, S1)) (hfl : Sg.length ≤ fl) (hS : Sg.length ≤ S.length) : ∃ N, CallAt P Sg fl f args S v (S1 ++ N) := by
  obtain ⟨v1, U, h1, h2⟩ := callInK_ok (P := P) (evCodeK_ok (orc := orc) (Sg := Sg) m) _ _ _ _ _ _ h
  simp only [Option.some.injEq, Prod.mk.injEq] at h2
  obtain ⟨rfl, rfl⟩ := h2
  refine ⟨U.drop S.length, ?_⟩
  rw [List.take_append_drop]
  exact callIn_ok (evCode_ok hsg horc m).1 h1 hfl hS
end
noncomputable section
/-- What is behind the last piece of a body. -/
def endK {α : Type} (P : Program) (f : FuncId) (k : Value → List Blk → Option α) : Kont α := fun x T' S' => match x with
  | .exit _ => none
  | _ => match outOf P f T' S' with
    | some v => k v S'
    | none => none
theorem callInK_endK {P : Program} {α : Type} {orc : Orc} {Sg : List Blk} {fl : Nat} {f : FuncId} {args : List Value} {S : List Blk} {k : Value → List Blk → Option α} (hb : (P.funcs[f]?).bind (·.body) ≠ none) :
    ∃ (m : Nat) (fs : Nat → Nat), callInK P (evCodeK P orc Sg m) fl f args S k = evP P orc Sg fl fs 0 (pcs P f) (tmps0Of P f args) S (endK P f k) := by
  obtain ⟨fs, h⟩ := callInK_pieces (P := P) (α := α) (orc := orc) (Sg := Sg) (fl := fl) (f := f) (args := args) (S := S) (k := k) hb _ (Nat.le_refl _)
  exact ⟨_, fs, h⟩
end
end Go.Proofs.XX.Vm
