/- A small evaluator over a shadow heap, part 23: what a piece of code comes to, without its fuel; loops by a measure. -/
import Derived.Test.YtonjnnjnojmpjaaDoorV19
namespace Go.Proofs.XX.Vm
open Go Go.RowKit

section
variable {P : Program} {α : Type} {orc : FuncId → List Value → Option OT} {Sg : List Blk}

abbrev Kont (α : Type) := Ex → List Value → List Blk → Option α

/-- With fuel enough the code comes to an end that meets Q, whatever is done then. -/
def Ev (P : Program) (orc : FuncId → List Value → Option OT) (Sg : List Blk) (α : Type) (fl : Nat) (c : Code) (T : List Value) (S : List Blk) (Q : Ex → List Value → List Blk → Prop) : Prop :=
  ∃ n x T' S', Q x T' S' ∧ ∀ m, n ≤ m → ∀ k : Kont α, evCodeK P orc Sg m fl c T S k = k x T' S'

theorem Ev.mono {fl : Nat} {c : Code} {T : List Value} {S : List Blk} {Q R : Ex → List Value → List Blk → Prop} (h : Ev P orc Sg α fl c T S Q) (hq : ∀ x T' S', Q x T' S' → R x T' S') : Ev P orc Sg α fl c T S R := by
  obtain ⟨n, x, T', S', q, e⟩ := h
  exact ⟨n, x, T', S', hq _ _ _ q, e⟩

/-- Straight on. -/
theorem Ev.of_eq {fl : Nat} {c : Code} {T T' : List Value} {S S' : List Blk} {x : Ex} {Q : Ex → List Value → List Blk → Prop} (d : Nat)
    (h : ∀ m (k : Kont α), evCodeK P orc Sg (m + d) fl c T S k = k x T' S') (q : Q x T' S') : Ev P orc Sg α fl c T S Q := by
  refine ⟨d, x, T', S', q, fun m hm k => ?_⟩
  have := h (m - d) k
  rwa [Nat.sub_add_cancel hm] at this

theorem Ev.seq {fl : Nat} {a b : Code} {T : List Value} {S : List Blk} {Q : Ex → List Value → List Blk → Prop}
    (h : Ev P orc Sg α fl a T S fun x T' S' => match x with
      | .normal => Ev P orc Sg α fl b T' S' Q
      | .exit id => Q (.exit id) T' S'
      | .ret => Q .ret T' S') : Ev P orc Sg α fl (.seq a b) T S Q := by
  obtain ⟨n, x, T', S', q, e⟩ := h
  cases x with
  | normal =>
    obtain ⟨n2, x2, T2, S2, q2, e2⟩ := q
    refine ⟨max n n2 + 1, x2, T2, S2, q2, fun m hm k => ?_⟩
    obtain ⟨m', rfl⟩ : ∃ m', m = m' + 1 := ⟨m - 1, by omega⟩
    show evCodeK P orc Sg m' fl a T S _ = _
    rw [e m' (by omega)]
    exact e2 m' (by omega) k
  | exit id =>
    refine ⟨n + 1, _, T', S', q, fun m hm k => ?_⟩
    obtain ⟨m', rfl⟩ : ∃ m', m = m' + 1 := ⟨m - 1, by omega⟩
    show evCodeK P orc Sg m' fl a T S _ = _
    rw [e m' (by omega)]
  | ret =>
    refine ⟨n + 1, _, T', S', q, fun m hm k => ?_⟩
    obtain ⟨m', rfl⟩ : ∃ m', m = m' + 1 := ⟨m - 1, by omega⟩
    show evCodeK P orc Sg m' fl a T S _ = _
    rw [e m' (by omega)]

theorem Ev.block {fl : Nat} {b : Code} {id : Nat} {T : List Value} {S : List Blk} {Q : Ex → List Value → List Blk → Prop}
    (h : Ev P orc Sg α fl b T S fun x T' S' => match x with
      | .normal => Q .normal T' S'
      | .exit id' => Q (bif Nat.beq id' id then .normal else .exit id') T' S'
      | .ret => Q .ret T' S') : Ev P orc Sg α fl (.block id b) T S Q := by
  obtain ⟨n, x, T', S', q, e⟩ := h
  cases x with
  | normal =>
    refine ⟨n + 1, _, T', S', q, fun m hm k => ?_⟩
    obtain ⟨m', rfl⟩ : ∃ m', m = m' + 1 := ⟨m - 1, by omega⟩
    show evCodeK P orc Sg m' fl b T S _ = _
    rw [e m' (by omega)]
  | exit id' =>
    refine ⟨n + 1, _, T', S', q, fun m hm k => ?_⟩
    obtain ⟨m', rfl⟩ : ∃ m', m = m' + 1 := ⟨m - 1, by omega⟩
    show evCodeK P orc Sg m' fl b T S _ = _
    rw [e m' (by omega)]
    simp only
    cases Nat.beq id' id <;> rfl
  | ret =>
    refine ⟨n + 1, _, T', S', q, fun m hm k => ?_⟩
    obtain ⟨m', rfl⟩ : ∃ m', m = m' + 1 := ⟨m - 1, by omega⟩
    show evCodeK P orc Sg m' fl b T S _ = _
    rw [e m' (by omega)]

theorem Ev.scope {fl : Nat} {b : Code} {T : List Value} {S : List Blk} {Q : Ex → List Value → List Blk → Prop} (h : Ev P orc Sg α fl b T S Q) : Ev P orc Sg α fl (.scope b) T S Q := by
  obtain ⟨n, x, T', S', q, e⟩ := h
  refine ⟨n + 1, _, T', S', q, fun m hm k => ?_⟩
  obtain ⟨m', rfl⟩ : ∃ m', m = m' + 1 := ⟨m - 1, by omega⟩
  exact e m' (by omega) k

/-- A loop: I is kept, and the measure falls. -/
theorem Ev.loop {fl : Nat} {b : Code} (I : Nat → List Value → List Blk → Prop) {Q : Ex → List Value → List Blk → Prop}
    (h : ∀ m T S, I m T S → Ev P orc Sg α fl b T S fun x T' S' => match x with
      | .normal => ∃ m', m' < m ∧ I m' T' S'
      | .exit id => Q (.exit id) T' S'
      | .ret => Q .ret T' S') : ∀ m T S, I m T S → Ev P orc Sg α fl (.loop b) T S Q := by
  intro m
  induction m using Nat.strongRecOn with
  | ind m ih =>
    intro T S hI
    obtain ⟨n, x, T', S', q, e⟩ := h m T S hI
    cases x with
    | normal =>
      obtain ⟨m', hm', hI'⟩ := q
      obtain ⟨n2, x2, T2, S2, q2, e2⟩ := ih m' hm' T' S' hI'
      refine ⟨max n n2 + 1, x2, T2, S2, q2, fun m hm k => ?_⟩
      obtain ⟨m', rfl⟩ : ∃ m', m = m' + 1 := ⟨m - 1, by omega⟩
      show evCodeK P orc Sg m' fl b T S _ = _
      rw [e m' (by omega)]
      exact e2 m' (by omega) k
    | exit id =>
      refine ⟨n + 1, _, T', S', q, fun m hm k => ?_⟩
      obtain ⟨m', rfl⟩ : ∃ m', m = m' + 1 := ⟨m - 1, by omega⟩
      show evCodeK P orc Sg m' fl b T S _ = _
      rw [e m' (by omega)]
    | ret =>
      refine ⟨n + 1, _, T', S', q, fun m hm k => ?_⟩
      obtain ⟨m', rfl⟩ : ∃ m', m = m' + 1 := ⟨m - 1, by omega⟩
      show evCodeK P orc Sg m' fl b T S _ = _
      rw [e m' (by omega)]

/-- A whole call of plain numbers. -/
def EvF (P : Program) (orc : FuncId → List Value → Option OT) (Sg : List Blk) (f : FuncId) (args : List Value) (v : Value) : Prop :=
  ∃ n, ∀ m, n ≤ m → runK P orc Sg m f args = some v

theorem EvF.of_eq {f : FuncId} {args : List Value} {v : Value} (d : Nat) (h : ∀ m, runK P orc Sg (m + d) f args = some v) : EvF P orc Sg f args v := by
  refine ⟨d, fun m hm => ?_⟩
  have := h (m - d)
  rwa [Nat.sub_add_cancel hm] at this

/-- A function's body. -/
noncomputable def bodyOf (P : Program) (f : FuncId) : Code := match P.funcs[f]? with
  | some fn => match fn.body with
    | some c => c
    | none => .skip
  | none => .skip
noncomputable def tmps0Of (P : Program) (f : FuncId) (args : List Value) : List Value := match P.funcs[f]? with
  | some fn => args ++ List.replicate (fn.ntmps - args.length) undef
  | none => []
noncomputable def outOf (P : Program) (f : FuncId) (T : List Value) (S : List Blk) : Option Value := match P.funcs[f]? with
  | some fn => match fn.body with
    | some _ => match resVals P T S fn.results.toList with
      | some vs => some (oneVal vs)
      | none => none
    | none => none
  | none => none

theorem EvF.of_body {f : FuncId} {args : List Value} {v : Value} (hv : plain v = true)
    (h : Ev P orc Sg Value Sg.length (bodyOf P f) (tmps0Of P f args) Sg fun x T' S' => (match x with | .exit _ => False | _ => True) ∧ outOf P f T' S' = some v) : EvF P orc Sg f args v := by
  obtain ⟨n, x, T', S', ⟨hx, ho⟩, e⟩ := h
  refine ⟨n, fun m hm => ?_⟩
  unfold runK callInK
  unfold outOf at ho
  cases hf : P.funcs[f]? with
  | none => rw [hf] at ho; cases ho
  | some fn =>
    rw [hf] at ho
    simp only at ho ⊢
    cases hb : fn.body with
    | none => rw [hb] at ho; cases ho
    | some c =>
      rw [hb] at ho
      simp only at ho
      have e' := e m hm
      unfold bodyOf tmps0Of at e'
      rw [hf] at e'
      simp only [hb] at e'
      simp only [forceK_eq]
      rw [e']
      cases hr : resVals P T' S' fn.results.toList with
      | none => rw [hr] at ho; cases ho
      | some vs =>
        rw [hr] at ho
        cases ho
        cases x with
        | exit id => exact hx.elim
        | normal => simp only [hv, if_true]
        | ret => simp only [hv, if_true]
/-- What a call that was evaluated does in the world. -/
theorem EvF.calls (hsg : SgOk Sg) (horc : OrcOk P Sg (orcOf orc)) {f : FuncId} {args : List Value} {v : Value} (h : EvF P orc Sg f args v) (hargs : args.all plain = true) {w : World} (inv : Inv Sg (baseRen Sg.length) Sg w) :
    Calls P f args.toArray w fun e w' => e = .returned v ∧ Below w.heap.size w w' := by
  obtain ⟨n, e⟩ := h
  exact runK_calls hsg horc (e n (Nat.le_refl _)) hargs inv
end
end Go.Proofs.XX.Vm
