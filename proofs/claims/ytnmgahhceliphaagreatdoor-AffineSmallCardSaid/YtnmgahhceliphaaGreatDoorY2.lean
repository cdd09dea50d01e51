/- Contracts put in lists; several known cases of one function. -/
import Derived.Test.YtnmgahhceliphaaGreatDoorY1
namespace Go.Proofs.XX.Vm
open Go Go.RowKit

/-- Contracts, one for each function, put in a list. -/
structure Con where
  f : FuncId
  dom : List Value → Option OT
def orcV : List Con → FuncId → List Value → Option OT
  | [], _, _ => none
  | c :: l, f, args => match Nat.beq c.f f with
    | true => c.dom args
    | false => orcV l f args
/-- Contracts of calls with memory. -/
structure MCon where
  f : FuncId
  dom : Nat → List Value → List Blk → Option OTM
def orcM : List MCon → Nat → FuncId → List Value → List Blk → Option OTM
  | [], _, _, _, _ => none
  | c :: l, fl, f, args, S => match Nat.beq c.f f with
    | true => c.dom fl args S
    | false => orcM l fl f args S
def orcLM (l : List Con) (m : List MCon) : Orc := ⟨orcV l, orcM m⟩
def ConOk (P : Program) (Sg : List Blk) (c : Con) : Prop := ∀ (args : List Value) (t : OT) (v : Value), c.dom args = some t → t.get = some v → ∀ w : World, Inv Sg (baseRen Sg.length) Sg w →
  Calls P c.f args.toArray w fun e w' => e = .returned v ∧ RowKit.Below w.heap.size w w'
def MConOk (P : Program) (Sg : List Blk) (c : MCon) : Prop := ∀ (fl : Nat) (args : List Value) (S : List Blk) (t : OTM) (v : Value) (S' : List Blk), c.dom fl args S = some t → t.get = some (v, S') → Sg.length ≤ fl → Sg.length ≤ S.length →
  CallAt P Sg fl c.f args S v S'
theorem orcV_of {P : Program} {Sg : List Blk} {l : List Con} (h : ∀ c ∈ l, ConOk P Sg c) : ∀ (f : FuncId) (args : List Value) (t : OT) (v : Value), orcV l f args = some t → t.get = some v → ∀ w : World, Inv Sg (baseRen Sg.length) Sg w →
    Calls P f args.toArray w fun e w' => e = .returned v ∧ RowKit.Below w.heap.size w w' := by
  induction l with
  | nil => intro f args t v hv; simp [orcV] at hv
  | cons c l ih =>
    intro f args t v hv ht w inv
    simp only [orcV] at hv
    cases hb : Nat.beq c.f f with
    | true =>
      rw [hb] at hv
      have hf : c.f = f := Nat.eq_of_beq_eq_true hb
      subst hf
      exact h c (by simp) args t v hv ht w inv
    | false =>
      rw [hb] at hv
      exact ih (fun d hd => h d (by simp [hd])) f args t v hv ht w inv
theorem orcLM_ok {P : Program} {Sg : List Blk} {l : List Con} {m : List MCon} (h : ∀ c ∈ l, ConOk P Sg c) (hm : ∀ c ∈ m, MConOk P Sg c) : OrcOk P Sg (orcOf (orcLM l m)) := by
  refine ⟨fun f args v hv w inv => ?_, fun fl f args S v S' hv h1 h2 => ?_⟩
  · simp only [orcOf, orcLM] at hv
    split at hv
    · rename_i t ht
      exact orcV_of h f args t v ht hv w inv
    · cases hv
  · have key : ∀ m : List MCon, (∀ c ∈ m, MConOk P Sg c) → ∀ t, orcM m fl f args S = some t → t.get = some (v, S') → CallAt P Sg fl f args S v S' := by
      intro m
      induction m with
      | nil => intro _ t ht; simp [orcM] at ht
      | cons c m ih =>
        intro hm t ht hg
        simp only [orcM] at ht
        cases hb : Nat.beq c.f f with
        | true =>
          rw [hb] at ht
          have hf : c.f = f := Nat.eq_of_beq_eq_true hb
          subst hf
          exact hm c (by simp) fl args S t v S' ht hg h1 h2
        | false =>
          rw [hb] at ht
          exact ih (fun d hd => hm d (by simp [hd])) t ht hg
    simp only [orcOf, orcLM] at hv
    split at hv
    · rename_i t ht
      exact key m hm t ht hv
    · cases hv
theorem cons_mok {P : Program} {Sg : List Blk} {c : MCon} {l : List MCon} (h : MConOk P Sg c) (hl : ∀ d ∈ l, MConOk P Sg d) : ∀ d ∈ c :: l, MConOk P Sg d := by
  intro d hd
  rcases List.mem_cons.1 hd with rfl | hd
  · exact h
  · exact hl d hd
theorem nil_mok {P : Program} {Sg : List Blk} : ∀ d ∈ ([] : List MCon), MConOk P Sg d := by simp
theorem cons_cok {P : Program} {Sg : List Blk} {c : Con} {l : List Con} (h : ConOk P Sg c) (hl : ∀ d ∈ l, ConOk P Sg d) : ∀ d ∈ c :: l, ConOk P Sg d := by
  intro d hd
  rcases List.mem_cons.1 hd with rfl | hd
  · exact h
  · exact hl d hd
theorem nil_cok {P : Program} {Sg : List Blk} : ∀ d ∈ ([] : List Con), ConOk P Sg d := by simp
/-- A call without arguments, evaluated. -/
def con0 (f : FuncId) (v : Value) : Con := ⟨f, fun args => match args with
  | [] => some (.val v)
  | _ => none⟩
theorem con0_ok {P : Program} {Sg : List Blk} (hsg : SgOk Sg) {l : List Con} {ml : List MCon} (hl : ∀ c ∈ l, ConOk P Sg c) (hm : ∀ c ∈ ml, MConOk P Sg c) {f : FuncId} {v : Value} {n : Nat} (h : runK P (orcLM l ml) Sg n f [] = some v) : ConOk P Sg (con0 f v) := by
  intro args t u ht hu w inv
  simp only [con0] at ht
  split at ht
  · cases ht
    cases hu
    exact runK_calls hsg (orcLM_ok hl hm) h rfl inv
  · cases ht
/-- The first case that is met. -/
noncomputable def casesD (t : TypeId) (g : Nat) (fl : Nat) (args : List Value) (S : List Blk) : List (List Arg × Res) → Option OTM
  | [] => none
  | c :: l => match caseD t g c.1 c.2 fl args S with
    | some q => some q
    | none => casesD t g fl args S l
noncomputable def mcases (t : TypeId) (g : Nat) (f : FuncId) (l : List (List Arg × Res)) : MCon := ⟨f, fun fl args S => casesD t g fl args S l⟩
theorem mcases_ok {P : Program} {Sg : List Blk} (hsg : SgOk Sg) {t : TypeId} {f : FuncId} {l : List (List Arg × Res)} {cl : List Con} {ml : List MCon} (hl : ∀ c ∈ cl, ConOk P Sg c) (hm : ∀ c ∈ ml, MConOk P Sg c)
    (h : ∀ c ∈ l, resOk P (orcLM cl ml) Sg t f c.1 c.2) : MConOk P Sg (mcases t Sg.length f l) := by
  intro fl args S q v S' hq hv h1 h2
  simp only [mcases] at hq
  induction l with
  | nil => cases hq
  | cons c l ih =>
    simp only [casesD] at hq
    split at hq
    · rename_i q2 hc
      cases hq
      exact case_ok hsg (orcLM_ok hl hm) (h c (by simp)) hc hv h2
    · exact ih (fun d hd => h d (by simp [hd])) hq
end Go.Proofs.XX.Vm
