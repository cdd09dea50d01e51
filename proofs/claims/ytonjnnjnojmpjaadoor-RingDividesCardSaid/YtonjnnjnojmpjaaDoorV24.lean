/- A small evaluator over a shadow heap, part 24: a body as a list of pieces, each with a fuel of its own. -/
import Derived.Test.YtonjnnjnojmpjaaDoorV23
namespace Go.Proofs.XX.Vm
open Go Go.RowKit

noncomputable section
variable {P : Program} {α : Type} {orc : FuncId → List Value → Option OT} {Sg : List Blk}

def flatC : Code → List Code
  | .seq a b => flatC a ++ flatC b
  | c => [c]
def depthC : Code → Nat
  | .seq a b => max (depthC a) (depthC b) + 1
  | _ => 0
/-- Piece by piece; the i-th with 60 and fs i rounds of fuel. -/
def evP (P : Program) (orc : FuncId → List Value → Option OT) (Sg : List Blk) (fl : Nat) (fs : Nat → Nat) : Nat → List Code → List Value → List Blk → Kont α → Option α
  | _, [], T, S, k => k .normal T S
  | i, c :: l, T, S, k => evCodeK P orc Sg (fs i + 60) fl c T S fun x T' S' => match x with
      | .normal => evP P orc Sg fl fs (i + 1) l T' S' k
      | .exit id => k (.exit id) T' S'
      | .ret => k .ret T' S'
theorem evP_congr {fl : Nat} {fs gs : Nat → Nat} {i j : Nat} {l : List Code} (h : ∀ n, n < l.length → fs (i + n) = gs (j + n)) : ∀ (T : List Value) (S : List Blk) (k : Kont α), evP P orc Sg fl fs i l T S k = evP P orc Sg fl gs j l T S k := by
  induction l generalizing i j with
  | nil => intro T S k; rfl
  | cons c l ih =>
    intro T S k
    have h0 := h 0 (by simp)
    simp only [Nat.add_zero] at h0
    simp only [evP, h0]
    congr 1
    funext x T' S'
    cases x with
    | normal =>
      refine ih (fun n hn => ?_) _ _ _
      have := h (n + 1) (by simp; omega)
      rw [show i + (n + 1) = i + 1 + n by omega, show j + (n + 1) = j + 1 + n by omega] at this
      exact this
    | exit id => rfl
    | ret => rfl
theorem evP_append {fl : Nat} {fs : Nat → Nat} {l m : List Code} : ∀ (i : Nat) (T : List Value) (S : List Blk) (k : Kont α), evP P orc Sg fl fs i (l ++ m) T S k = evP P orc Sg fl fs i l T S fun x T' S' => match x with
      | .normal => evP P orc Sg fl fs (i + l.length) m T' S' k
      | .exit id => k (.exit id) T' S'
      | .ret => k .ret T' S' := by
  induction l with
  | nil => intro i T S k; simp [evP]
  | cons c l ih =>
    intro i T S k
    simp only [List.cons_append, evP]
    congr 1
    funext x T' S'
    cases x with
    | normal =>
      simp only [ih]
      congr 1
      funext x T2 S2
      cases x with
      | normal => simp only [List.length_cons, show i + 1 + l.length = i + (l.length + 1) by omega]
      | exit id => rfl
      | ret => rfl
    | exit id => rfl
    | ret => rfl
theorem evCodeK_flat {fl : Nat} : ∀ (c : Code) (m : Nat), depthC c + 60 ≤ m → ∃ fs : Nat → Nat, (∀ i, m ≤ fs i + depthC c + 60) ∧ ∀ (T : List Value) (S : List Blk) (k : Kont α), evCodeK P orc Sg m fl c T S k = evP P orc Sg fl fs 0 (flatC c) T S k := by
  have one : ∀ (c : Code) (m : Nat), flatC c = [c] → 60 ≤ m → ∃ fs : Nat → Nat, (∀ i, m ≤ fs i + depthC c + 60) ∧ ∀ (T : List Value) (S : List Blk) (k : Kont α), evCodeK P orc Sg m fl c T S k = evP P orc Sg fl fs 0 (flatC c) T S k := by
    intro c m hc hm
    refine ⟨fun _ => m - 60, fun i => by show m ≤ m - 60 + depthC c + 60; omega, fun T S k => ?_⟩
    rw [hc]
    simp only [evP, Nat.sub_add_cancel hm]
    congr 1
    funext x T' S'
    cases x <;> rfl
  intro c
  induction c with
  | seq a b iha ihb =>
    intro m hm
    simp only [depthC] at hm ⊢
    obtain ⟨m', rfl⟩ : ∃ m', m = m' + 1 := ⟨m - 1, by omega⟩
    obtain ⟨fa, ha, ea⟩ := iha m' (by omega)
    obtain ⟨fb, hb, eb⟩ := ihb m' (by omega)
    refine ⟨fun i => if i < (flatC a).length then fa i else fb (i - (flatC a).length), fun i => ?_, fun T S k => ?_⟩
    · simp only
      split
      · have := ha i; omega
      · have := hb (i - (flatC a).length); omega
    · show evCodeK P orc Sg m' fl a T S _ = _
      rw [ea]
      simp only [flatC, evP_append]
      rw [evP_congr (gs := fun i => if i < (flatC a).length then fa i else fb (i - (flatC a).length)) (j := 0) (fun n hn => by simp [hn])]
      congr 1
      funext x T' S'
      cases x with
      | normal =>
        simp only [eb]
        refine evP_congr (fun n hn => ?_) _ _ _
        simp; omega
      | exit id => rfl
      | ret => rfl
  | _ => intro m hm; exact one _ m rfl (by simpa [depthC] using hm)

/-- The pieces come to an end that meets Q. -/
def EvP (P : Program) (orc : FuncId → List Value → Option OT) (Sg : List Blk) (α : Type) (fl : Nat) (i : Nat) (l : List Code) (T : List Value) (S : List Blk) (Q : Ex → List Value → List Blk → Prop) : Prop :=
  ∃ n x T' S', Q x T' S' ∧ ∀ fs : Nat → Nat, (∀ i, n ≤ fs i) → ∀ k : Kont α, evP P orc Sg fl fs i l T S k = k x T' S'
theorem Ev.of_pieces {fl : Nat} {c : Code} {T : List Value} {S : List Blk} {Q : Ex → List Value → List Blk → Prop} (h : EvP P orc Sg α fl 0 (flatC c) T S Q) : Ev P orc Sg α fl c T S Q := by
  obtain ⟨n, x, T', S', q, e⟩ := h
  refine ⟨n + depthC c + 60, x, T', S', q, fun m hm k => ?_⟩
  obtain ⟨fs, h1, h2⟩ := evCodeK_flat (P := P) (α := α) (orc := orc) (Sg := Sg) (fl := fl) c m (by omega)
  rw [h2]
  exact e fs (fun i => by have := h1 i; omega) k
theorem EvP.nil {fl i : Nat} {T : List Value} {S : List Blk} {Q : Ex → List Value → List Blk → Prop} (h : Q .normal T S) : EvP P orc Sg α fl i [] T S Q :=
  ⟨0, _, _, _, h, fun _ _ _ => rfl⟩
/-- The first piece by a theorem of its own. -/
theorem EvP.step {fl i : Nat} {c : Code} {l : List Code} {T : List Value} {S : List Blk} {Q : Ex → List Value → List Blk → Prop}
    (h : Ev P orc Sg α fl c T S fun x T' S' => match x with
      | .normal => EvP P orc Sg α fl (i + 1) l T' S' Q
      | .exit id => Q (.exit id) T' S'
      | .ret => Q .ret T' S') : EvP P orc Sg α fl i (c :: l) T S Q := by
  obtain ⟨n, x, T', S', q, e⟩ := h
  cases x with
  | normal =>
    obtain ⟨n2, x2, T2, S2, q2, e2⟩ := q
    refine ⟨max n n2, x2, T2, S2, q2, fun fs hfs k => ?_⟩
    simp only [evP]
    rw [e _ (by have := hfs i; omega)]
    exact e2 fs (fun i => by have := hfs i; omega) k
  | exit id =>
    refine ⟨n, _, T', S', q, fun fs hfs k => ?_⟩
    simp only [evP]
    rw [e _ (by have := hfs i; omega)]
  | ret =>
    refine ⟨n, _, T', S', q, fun fs hfs k => ?_⟩
    simp only [evP]
    rw [e _ (by have := hfs i; omega)]
/-- Some pieces by an equation for whatever follows. -/
theorem EvP.run {fl i j : Nat} {l l' : List Code} {T T' : List Value} {S S' : List Blk} {Q : Ex → List Value → List Blk → Prop}
    (e : ∀ (fs : Nat → Nat) (k : Kont α), evP P orc Sg fl fs i l T S k = evP P orc Sg fl fs j l' T' S' k) (h : EvP P orc Sg α fl j l' T' S' Q) : EvP P orc Sg α fl i l T S Q := by
  obtain ⟨n, x, T2, S2, q, e2⟩ := h
  exact ⟨n, x, T2, S2, q, fun fs hfs k => (e fs k).trans (e2 fs hfs k)⟩
theorem EvP.stop {fl i : Nat} {l : List Code} {T T' : List Value} {S S' : List Blk} {x : Ex} {Q : Ex → List Value → List Blk → Prop}
    (e : ∀ (fs : Nat → Nat) (k : Kont α), evP P orc Sg fl fs i l T S k = k x T' S') (h : Q x T' S') : EvP P orc Sg α fl i l T S Q :=
  ⟨0, x, T', S', h, fun fs _ k => e fs k⟩
/-- The pieces of a function's body. -/
def pcs (P : Program) (f : FuncId) : List Code := flatC (bodyOf P f)
def nthC (l : List Code) (i : Nat) : Code := match getR l i with
  | some c => c
  | none => .skip
/-- The loops of a piece, in the order of the text. -/
def loopsOf : Code → List Code
  | .loop b => b :: loopsOf b
  | .seq a b => loopsOf a ++ loopsOf b
  | .cond _ a b => loopsOf a ++ loopsOf b
  | .block _ b => loopsOf b
  | .scope b => loopsOf b
  | _ => []
def loopOf (P : Program) (f i : Nat) : Code := nthC (loopsOf (bodyOf P f)) i
end
end Go.Proofs.XX.Vm
