/- Affine: the variables, and what the calls of numbers alone come to: contracts of calls with known plain arguments. -/
import Derived.Test.YtnmgahhceliphaaGreatDoorY2
import Derived.Test.YtnmgahhceliphaaGreatDoorProg
import Derived.KernelRfl
namespace Go.Proofs.YtnmgahhceliphaaGreatDoor.A
open Go Go.Proofs.XX.Vm
set_option maxRecDepth 100000

/-- The axes of the kinds of gates. -/
def axL : List (List UInt8) := [[], [120], [121], [122], [104], [122], [122], [122], [122], [122, 120], [122, 122], [46, 46], [122, 122, 120], [122], [46]]
def kAx : Blk := ⟨[.string ⟨#[]⟩, .string ⟨#[120]⟩, .string ⟨#[121]⟩, .string ⟨#[122]⟩, .string ⟨#[104]⟩, .string ⟨#[122]⟩, .string ⟨#[122]⟩, .string ⟨#[122]⟩, .string ⟨#[122]⟩, .string ⟨#[122, 120]⟩, .string ⟨#[122, 122]⟩, .string ⟨#[46, 46]⟩, .string ⟨#[122, 122, 120]⟩, .string ⟨#[122]⟩, .string ⟨#[46]⟩], 229, true, none⟩
/-- Of the list of kinds nothing is looked at. -/
def kLin : Blk := ⟨[], 22, false, none⟩
abbrev SgA : List Blk := [kLin, kAx]
theorem sgA : SgOk SgA := by
  unfold SgOk
  have h1 : (kLin.cells.all scalar && kLin.obj.isNone) = true := by decide
  have h2 : (kAx.cells.all scalar && kAx.obj.isNone) = true := by decide
  simp only [List.all_cons, h1, h2, List.all_nil, Bool.and_self]
noncomputable abbrev O0 : Orc := orcLM [] []
abbrev I (n : Int) : Value := .int .i64 n

/-- The contract of a call with these integers. -/
noncomputable def conI (f : FuncId) (l : List Int) (v : Value) : Con := ⟨f, fun args => match intsOf .i64 args with
  | some m => bif leqI m l then some (.val v) else none
  | none => none⟩
where leqI : List Int → List Int → Bool
  | [], [] => true
  | a :: l, b :: m => (a == b) && leqI l m
  | _, _ => false
theorem leqI_eq : ∀ {l m : List Int}, conI.leqI l m = true → l = m
  | [], [], _ => rfl
  | a :: l, b :: m, h => by
    simp only [conI.leqI, Bool.and_eq_true, beq_iff_eq] at h
    rw [h.1, leqI_eq h.2]
  | [], _ :: _, h => by cases h
  | _ :: _, [], h => by cases h
theorem conI_ok {P : Program} {Sg : List Blk} (hsg : SgOk Sg) {f : FuncId} {l : List Int} {v : Value} {n : Nat} (h : runC P (orcLM [] []) Sg n f (l.map (Value.int .i64)) = some v) : ConOk P Sg (conI f l v) := by
  intro args t u ht hu w inv
  simp only [conI] at ht
  split at ht
  · rename_i m hm
    cases hq : conI.leqI m l with
    | false => rw [hq] at ht; cases ht
    | true =>
      rw [hq] at ht
      cases ht
      cases hu
      have e1 := intsOf_map hm
      rw [leqI_eq hq] at e1
      subst e1
      refine runC_calls hsg (orcLM_ok nil_cok nil_mok) h ?_ inv
      rw [List.all_map]
      exact List.all_eq_true.2 fun _ _ => rfl
  · cases ht
def rv (x e : Int) : Value := .tuple #[.int .i64 x, .int .i64 e]
theorem tCount1 : runC Tryz.prog O0 SgA 300 53 [I 1] = some (rv 2 0) := by kernel_rfl
theorem tCount2 : runC Tryz.prog O0 SgA 300 53 [I 2] = some (rv 24 0) := by kernel_rfl
theorem tCount4 : runC Tryz.prog O0 SgA 300 53 [I 4] = some (rv 0 3) := by kernel_rfl
noncomputable def cCount1 : Con := conI 53 [1] (rv 2 0)
noncomputable def cCount2 : Con := conI 53 [2] (rv 24 0)
noncomputable def cCount4 : Con := conI 53 [4] (rv 0 3)
theorem cCount1_ok : ConOk Tryz.prog SgA cCount1 := conI_ok sgA tCount1
theorem cCount2_ok : ConOk Tryz.prog SgA cCount2 := conI_ok sgA tCount2
theorem cCount4_ok : ConOk Tryz.prog SgA cCount4 := conI_ok sgA tCount4
end Go.Proofs.YtnmgahhceliphaaGreatDoor.A
