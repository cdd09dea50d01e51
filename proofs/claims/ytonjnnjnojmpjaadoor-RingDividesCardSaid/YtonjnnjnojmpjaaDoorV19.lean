/- A small evaluator over a shadow heap, part 19: the same, handing on what it comes to: so that numbers may be variables, and a test that hangs on them parts the way. -/
import Derived.Test.YtonjnnjnojmpjaaDoorV18
namespace Go.Proofs.XX.Vm
open Go Go.RowKit

noncomputable section
/-- What a call comes to, by tests. -/
inductive OT where
  | val (v : Value)
  | ite (b : Bool) (t e : OT)
  | no
def OT.get : OT → Option Value
  | .val v => some v
  | .ite b t e => bif b then t.get else e.get
  | .no => none
def OT.ev {α : Type} : OT → (Value → Option α) → Option α
  | .val v, k => k v
  | .ite b t e, k => bif b then t.ev k else e.ev k
  | .no, _ => none
theorem OT.ev_ok {α : Type} {k : Value → Option α} {r : α} : ∀ {t : OT}, t.ev k = some r → ∃ v, t.get = some v ∧ k v = some r
  | .val v, h => ⟨v, rfl, h⟩
  | .ite b t e, h => by
    cases b
    · exact OT.ev_ok (t := e) h
    · exact OT.ev_ok (t := t) h
  | .no, h => by cases h
abbrev CallerK (α : Type) := Nat → FuncId → List Value → List Blk → (Value → List Blk → Option α) → Option α

/-- The guard's test, known in what follows. -/
def guardK {α : Type} (ops : Array Oper) (T : List Value) (o : Oper) (k : List Value → Bool → Option α) : Option α :=
  match o.guard with
  | none => k T true
  | some (j, want) => match getR ops.toList j with
    | some p => match p.dst with
      | some d => match nthD T d with
        | .bool b => bif b then setK T d (.bool true) fun T' => k T' (match want with | true => true | false => false) else setK T d (.bool false) fun T' => k T' (match want with | true => false | false => true)
        | .tuple xs => match xs.toList with
          | [] => bif Nat.blt d T.length then k T false else none
          | _ => none
        | _ => none
      | none => none
    | none => none

/-- Operations that have a value under a condition on numbers. -/
def condOp (gl : Nat) (o : Oper) (T : List Value) : Option (Bool × Value) :=
  match o.op with
  | .binOp op _ a b _ => match opd gl T a, opd gl T b with
    | some (.string x), some (.string y) => match op with
      | .add => some (Nat.ble (x.size + y.size) 9223372036854775807, .string (x ++ y))
      | _ => none
    | some (.int k x), some (.int j y) => if k = j then match op with
      | .quo => some (y != 0, .int k (k.wrap (x.tdiv y)))
      | .rem => some (y != 0, .int k (x.tmod y))
      | _ => none
      else none
    | _, _ => none
  | _ => none
theorem condOp_ok {P : Program} {gl fl : Nat} {o : Oper} {T : List Value} {S : List Blk} {v : Value} (h : condOp gl o T = some (true, v)) : evOp P gl fl o T S = some (.val v S) := by
  unfold condOp at h
  split at h
  · rename_i op t a b t2 ho
    split at h
    · rename_i x y hx hy
      split at h
      · simp only [Option.some.injEq, Prod.mk.injEq] at h
        obtain ⟨h1, rfl⟩ := h
        have h2 := Nat.le_of_ble_eq_true h1
        have hne : ¬ (9223372036854775807 < (x.size : Int) + (y.size : Int)) := by omega
        simp only [evOp, ho, hx, hy, pureTry, Op.operands, opds, pureOp]
        simp [plain, flat, scalar, execOp, ho, hx, hy, eqGuard, binOp, Op.stringOp, Bind.bind, Sem.bind, Pure.pure]
        simp [hne, pureSem, Sem.bind]
      · cases h
    · rename_i k x j y hx hy
      split at h
      · rename_i hkj
        subst hkj
        split at h
        · simp only [Option.some.injEq, Prod.mk.injEq, bne_iff_ne, ne_eq] at h
          obtain ⟨h1, rfl⟩ := h
          simp only [evOp, ho, hx, hy, pureTry, Op.operands, opds, pureOp, fastBin]
          simp [plain, flat, scalar, execOp, ho, hx, hy, eqGuard, binOp, Op.intDiv, h1, pureSem, Bind.bind, Sem.bind, Pure.pure]
        · simp only [Option.some.injEq, Prod.mk.injEq, bne_iff_ne, ne_eq] at h
          obtain ⟨h1, rfl⟩ := h
          simp only [evOp, ho, hx, hy, pureTry, Op.operands, opds, pureOp, fastBin]
          simp [plain, flat, scalar, execOp, ho, hx, hy, eqGuard, binOp, Op.intDiv, h1, pureSem, Bind.bind, Sem.bind, Pure.pure]
        · cases h
      · cases h
    · cases h
  · cases h

def opK {α : Type} (P : Program) (gl : Nat) (cl : CallerK α) (fl : Nat) (o : Oper) (T : List Value) (S : List Blk) (k : Value → List Blk → Option α) : Option α :=
  match o.op with
  | .pick c a b => match opd gl T c, opd gl T a, opd gl T b with
    | some (.bool β), some v, some u => bif β then k v S else k u S
    | _, _, _ => none
  | _ => match condOp gl o T with
    | some (b, v) => bif b then k v S else none
    | none => match evOp P gl fl o T S with
      | some (.val v S') => k v S'
      | some (.call f args) => cl fl f args S k
      | _ => none

def resK {α : Type} (P : Program) (gl : Nat) (cl : CallerK α) (fl : Nat) (ops : Array Oper) (o : Oper) (T : List Value) (S : List Blk) (k : List Value → List Blk → Option α) : Option α :=
  guardK ops T o fun T' b => match b with
    | true => opK P gl cl fl o T' S fun v S' => putK T' o.dst v fun T'' => k T'' S'
    | false => putK T' o.dst undef fun T'' => k T'' S

def evOpsK {α : Type} (P : Program) (gl : Nat) (cl : CallerK α) (fl : Nat) (ops : Array Oper) : List Oper → List Value → List Blk → (List Value → List Blk → Option α) → Option α
  | [], T, S, k => k T S
  | o :: l, T, S, k => resK P gl cl fl ops o T S fun T' S' => evOpsK P gl cl fl ops l T' S' k

def evPreK {α : Type} (P : Program) (gl : Nat) (cl : CallerK α) (ops : Array Oper) : List Nat → List Value → List Blk → (List Value → List Blk → Option α) → Option α
  | [], T, S, k => k T S
  | i :: l, T, S, k => match getR ops.toList i with
    | some o => resK P gl cl S.length ops o T S fun T' S' => evPreK P gl cl ops l T' S' k
    | none => none
def evTailK {α : Type} (P : Program) (gl : Nat) (cl : CallerK α) (fl : Nat) (ops : Array Oper) : List Nat → List Value → List Blk → (List Value → List Blk → Option α) → Option α
  | [], T, S, k => k T S
  | i :: l, T, S, k => match getR ops.toList i with
    | some o => resK P gl cl fl ops o T S fun T' S' => evTailK P gl cl fl ops l T' S' k
    | none => none

def evTailFK {α : Type} (P : Program) (gl : Nat) (cl : CallerK α) (fl : Nat) (md : Region.Mode) (ops : Array Oper) : List Nat → List (Nat × Nat) → List Value → List Blk → (List Value → List Blk → Option α) → Option α
  | [], _, T, S, k => k T S
  | i :: l, B, T, S, k => match getR ops.toList i with
    | some o => forceK (openAt md o B) fun B' => if quietOp gl B' o T then resK P gl cl fl ops o T S fun T' S' => evTailFK P gl cl fl md ops l B' T' S' k else none
    | none => none

def evDrawK {α : Type} (P : Program) (gl : Nat) (cl : CallerK α) (fl : Nat) (ops : Array Oper) (T : List Value) (S : List Blk) (k : List Value → List Blk → Option α) : Option α :=
  if Region.departs ops && !P.follows .mixedOrders then none else
  match regionStatic .any ops (List.range ops.size) with
  | some (pre, tl) => evPreK P gl cl ops pre T S fun T' S' => evTailK P gl cl fl ops tl T' S' k
  | none => match floatStatic .any ops (List.range ops.size) with
    | some (pre, F, tl) => evPreK P gl cl ops pre T S fun T' S' => match floatBlks ops T' F with
      | some B => evTailFK P gl cl fl .any ops tl B T' S' k
      | none => none
    | none => none

def callInK {α : Type} (P : Program) (rec : Nat → Code → List Value → List Blk → (Ex → List Value → List Blk → Option α) → Option α) : CallerK α := fun fl f args S k =>
  match P.funcs[f]? with
  | some fn => match fn.body with
    | some c => forceK (args ++ List.replicate (fn.ntmps - args.length) undef) fun T => rec fl c T S fun x T' S' => match x with
      | .exit _ => none
      | _ => match resVals P T' S' fn.results.toList with
        | some vs => k (oneVal vs) S'
        | none => none
    | none => none
  | none => none

def callSK {α : Type} (P : Program) (orc : FuncId → List Value → Option OT) (Sg : List Blk) (rec : Nat → Code → List Value → List Blk → (Ex → List Value → List Blk → Option α) → Option α) : CallerK α := fun fl f args S k =>
  if args.all plain && isoOk P f then
    match orc f args with
    | some t => t.ev fun v => if plain v then k v S else none
    | none => callInK P rec Sg.length f args Sg fun v _ => if plain v then k v S else none
  else callInK P rec fl f args S k

def tmpOf : Operand → Option Tmp
  | .tmp t => some t
  | _ => none
def evCodeK {α : Type} (P : Program) (orc : FuncId → List Value → Option OT) (Sg : List Blk) : Nat → Nat → Code → List Value → List Blk → (Ex → List Value → List Blk → Option α) → Option α
  | 0, _, _, _, _, _ => none
  | n + 1, fl, c, T, S, k =>
    match c with
    | .skip => k .normal T S
    | .seq a b => evCodeK P orc Sg n fl a T S fun x T' S' => match x with
      | .normal => evCodeK P orc Sg n fl b T' S' k
      | .exit id => k (.exit id) T' S'
      | .ret => k .ret T' S'
    | .cond x a b => match opd Sg.length T x with
      | some (.bool β) => bif β then putK T (tmpOf x) (.bool true) fun T' => evCodeK P orc Sg n fl a T' S k
          else putK T (tmpOf x) (.bool false) fun T' => evCodeK P orc Sg n fl b T' S k
      | _ => none
    | .block id b => evCodeK P orc Sg n fl b T S fun x T' S' => match x with
      | .exit id' => (match Nat.beq id' id with
        | true => k .normal T' S'
        | false => k (.exit id') T' S')
      | .normal => k .normal T' S'
      | .ret => k .ret T' S'
    | .loop b => evCodeK P orc Sg n fl b T S fun x T' S' => match x with
      | .normal => evCodeK P orc Sg n fl (.loop b) T' S' k
      | .exit id => k (.exit id) T' S'
      | .ret => k .ret T' S'
    | .label _ => k .normal T S
    | .scope b => evCodeK P orc Sg n fl b T S k
    | .exit id => k (.exit id) T S
    | .ret => k .ret T S
    | .region _ ops false => evOpsK P Sg.length (callSK P orc Sg (evCodeK P orc Sg n)) fl ops ops.toList T S (k .normal)
    | .region _ ops true => evDrawK P Sg.length (callSK P orc Sg (evCodeK P orc Sg n)) fl ops T S (k .normal)
    | _ => none

/-- A whole call, apart from all else. -/
def runK (P : Program) (orc : FuncId → List Value → Option OT) (Sg : List Blk) (n : Nat) (f : FuncId) (args : List Value) : Option Value :=
  callInK P (evCodeK P orc Sg n) Sg.length f args Sg fun v _ => if plain v then some v else none

/-- An oracle whose premise is met. -/
def orcOf (orc : FuncId → List Value → Option OT) : FuncId → List Value → Option Value := fun f args =>
  match orc f args with
  | some t => t.get
  | none => none

theorem set_same {T : List Value} {d : Nat} {b : Bool} (h : nthD T d = .bool b) : T.set d (.bool b) = T := by
  rw [nthD_eq] at h
  refine List.ext_getElem? fun i => ?_
  by_cases hi : d = i
  · subst hi
    cases ht : T[d]? with
    | none => rw [ht] at h; cases h
    | some v =>
      rw [ht] at h
      simp only [Option.getD_some] at h
      subst h
      rw [List.getElem?_set_self (List.getElem?_eq_some_iff.1 ht).1]
  · rw [List.getElem?_set_ne hi]

theorem bif_some {α : Type} {b : Bool} {x y : Option α} {r : α} (h : (bif b then x else y) = some r) : (b = true ∧ x = some r) ∨ (b = false ∧ y = some r) := by
  cases b
  · exact .inr ⟨rfl, h⟩
  · exact .inl ⟨rfl, h⟩

section
variable {P : Program} {α : Type}

/-- What a caller that hands on comes to is what the plain one comes to. -/
def CkOk (cl : Nat → FuncId → List Value → List Blk → Option (Value × List Blk)) (ck : CallerK α) : Prop := ∀ (fl : Nat) (f : FuncId) (args : List Value) (S : List Blk) (k : Value → List Blk → Option α) (r : α), ck fl f args S k = some r → ∃ v S', cl fl f args S = some (v, S') ∧ k v S' = some r

theorem resK_ok {gl fl : Nat} {cl : Caller} {ck : CallerK α} (hc : CkOk cl.call ck) {ops : Array Oper} {o : Oper} {T : List Value} {S : List Blk} {k : List Value → List Blk → Option α} {r : α}
    (h : resK P gl ck fl ops o T S k = some r) : ∃ v S', opRes P gl cl fl ops o T S = some (v, S') ∧ k (putL T o.dst v) S' = some r := by
  have body : ∀ (T : List Value) (b : Bool), wantedS ops T o = some b → (match b with
      | true => opK P gl ck fl o T S fun v S' => putK T o.dst v fun T'' => k T'' S'
      | false => putK T o.dst undef fun T'' => k T'' S) = some r → ∃ v S', opRes P gl cl fl ops o T S = some (v, S') ∧ k (putL T o.dst v) S' = some r := by
    intro T b hw hb
    simp only [putK_eq] at hb
    cases b with
    | false => exact ⟨undef, S, by simp only [opRes, hw], hb⟩
    | true =>
      simp only [opK] at hb
      split at hb
      · rename_i c a b ho
        split at hb
        · rename_i β v u h1 h2 h3
          rcases bif_some hb with ⟨rfl, hb⟩ | ⟨rfl, hb⟩
          · exact ⟨v, S, by simp only [opRes, hw, evOp, ho, h1, h2, h3, cond_true], hb⟩
          · exact ⟨u, S, by simp only [opRes, hw, evOp, ho, h1, h2, h3, cond_false], hb⟩
        · cases hb
      · split at hb
        · rename_i c v hco
          cases c
          · cases hb
          · exact ⟨v, S, by simp only [opRes, hw, condOp_ok hco], hb⟩
        · split at hb
          · rename_i v S' he
            exact ⟨v, S', by simp only [opRes, hw, he], hb⟩
          · rename_i f args he
            obtain ⟨v, S', h1, h2⟩ := hc _ _ _ _ _ _ hb
            exact ⟨v, S', by simp only [opRes, hw, he, h1], h2⟩
          · cases hb
  unfold resK guardK at h
  split at h
  · rename_i hg
    exact body T true (by simp only [wantedS, hg]) h
  · rename_i j want hg
    split at h
    · rename_i p hp
      rw [getR_arr] at hp
      split at h
      · rename_i d hd
        split at h
        · rename_i b hb
          simp only [setK_eq] at h
          rcases bif_some h with ⟨rfl, h⟩ | ⟨rfl, h⟩
          · rw [set_same hb] at h
            refine body T _ ?_ h
            simp only [wantedS, hg, hp, hd, hb]
            cases want <;> rfl
          · rw [set_same hb] at h
            refine body T _ ?_ h
            simp only [wantedS, hg, hp, hd, hb]
            cases want <;> rfl
        · rename_i xs hb
          split at h
          · rename_i hx
            cases hl : Nat.blt d T.length with
            | false => rw [hl] at h; cases h
            | true =>
              rw [hl] at h
              refine body T false ?_ h
              simp only [wantedS, hg, hp, hd, hb, hx, hl, cond_true]
          · cases h
        · cases h
      · cases h
    · cases h

theorem evOpsK_ok {gl fl : Nat} {cl : Caller} {ck : CallerK α} (hc : CkOk cl.call ck) {ops : Array Oper} : ∀ (l : List Oper) (T : List Value) (S : List Blk) (k : List Value → List Blk → Option α) (r : α),
    evOpsK P gl ck fl ops l T S k = some r → ∃ T' S', evOps P gl cl fl ops l T S = some (T', S') ∧ k T' S' = some r := by
  intro l
  induction l with
  | nil => intro T S k r h; exact ⟨T, S, rfl, h⟩
  | cons o l ih =>
    intro T S k r h
    simp only [evOpsK] at h
    obtain ⟨v, S1, h1, h2⟩ := resK_ok hc h
    obtain ⟨T', S', h3, h4⟩ := ih _ _ _ _ h2
    exact ⟨T', S', by simp only [evOps, h1, putK_eq, h3], h4⟩

theorem evPreK_ok {gl : Nat} {cl : Caller} {ck : CallerK α} (hc : CkOk cl.call ck) {ops : Array Oper} : ∀ (l : List Nat) (T : List Value) (S : List Blk) (k : List Value → List Blk → Option α) (r : α),
    evPreK P gl ck ops l T S k = some r → ∃ T' S', evPre P gl cl ops l T S = some (T', S') ∧ k T' S' = some r := by
  intro l
  induction l with
  | nil => intro T S k r h; exact ⟨T, S, rfl, h⟩
  | cons i l ih =>
    intro T S k r h
    simp only [evPreK] at h
    split at h
    · rename_i o ho
      obtain ⟨v, S1, h1, h2⟩ := resK_ok hc h
      obtain ⟨T', S', h3, h4⟩ := ih _ _ _ _ h2
      exact ⟨T', S', by simp only [evPre, ho, h1, putK_eq, h3], h4⟩
    · cases h
theorem evTailK_ok {gl fl : Nat} {cl : Caller} {ck : CallerK α} (hc : CkOk cl.call ck) {ops : Array Oper} : ∀ (l : List Nat) (T : List Value) (S : List Blk) (k : List Value → List Blk → Option α) (r : α),
    evTailK P gl ck fl ops l T S k = some r → ∃ T' S', evTail P gl cl fl ops l T S = some (T', S') ∧ k T' S' = some r := by
  intro l
  induction l with
  | nil => intro T S k r h; exact ⟨T, S, rfl, h⟩
  | cons i l ih =>
    intro T S k r h
    simp only [evTailK] at h
    split at h
    · rename_i o ho
      obtain ⟨v, S1, h1, h2⟩ := resK_ok hc h
      obtain ⟨T', S', h3, h4⟩ := ih _ _ _ _ h2
      exact ⟨T', S', by simp only [evTail, ho, h1, putK_eq, h3], h4⟩
    · cases h
theorem evTailFK_ok {gl fl : Nat} {cl : Caller} {ck : CallerK α} (hc : CkOk cl.call ck) {md : Region.Mode} {ops : Array Oper} : ∀ (l : List Nat) (B : List (Nat × Nat)) (T : List Value) (S : List Blk) (k : List Value → List Blk → Option α) (r : α),
    evTailFK P gl ck fl md ops l B T S k = some r → ∃ T' S', evTailF P gl cl fl md ops l B T S = some (T', S') ∧ k T' S' = some r := by
  intro l
  induction l with
  | nil => intro B T S k r h; exact ⟨T, S, rfl, h⟩
  | cons i l ih =>
    intro B T S k r h
    simp only [evTailFK, forceK_eq] at h
    split at h
    · rename_i o ho
      split at h
      · rename_i hq
        obtain ⟨v, S1, h1, h2⟩ := resK_ok hc h
        obtain ⟨T', S', h3, h4⟩ := ih _ _ _ _ _ h2
        exact ⟨T', S', by simp only [evTailF, forceK_eq, ho, hq, if_true, h1, putK_eq, h3], h4⟩
      · cases h
    · cases h
theorem evDrawK_ok {gl fl : Nat} {cl : Caller} {ck : CallerK α} (hc : CkOk cl.call ck) {ops : Array Oper} {T : List Value} {S : List Blk} {k : List Value → List Blk → Option α} {r : α}
    (h : evDrawK P gl ck fl ops T S k = some r) : ∃ T' S', evDraw P gl cl fl ops T S = some (T', S') ∧ k T' S' = some r := by
  unfold evDrawK at h
  split at h
  · cases h
  · rename_i hd
    split at h
    · rename_i pre tl hst
      obtain ⟨T1, S1, h1, h2⟩ := evPreK_ok hc _ _ _ _ _ h
      obtain ⟨T', S', h3, h4⟩ := evTailK_ok hc _ _ _ _ _ h2
      exact ⟨T', S', by simp only [evDraw, hd, evRegion, hst, h1, h3]; simp, h4⟩
    · rename_i hst
      split at h
      · rename_i pre F tl hfs
        obtain ⟨T1, S1, h1, h2⟩ := evPreK_ok hc _ _ _ _ _ h
        split at h2
        · rename_i B hB
          obtain ⟨T', S', h3, h4⟩ := evTailFK_ok hc _ _ _ _ _ _ h2
          exact ⟨T', S', by simp only [evDraw, hd, hst, evFloat, hfs, h1, hB, h3]; simp, h4⟩
        · cases h2
      · cases h

def RecK (rec : RecT) (reck : Nat → Code → List Value → List Blk → (Ex → List Value → List Blk → Option α) → Option α) : Prop :=
  ∀ (fl : Nat) (c : Code) (T : List Value) (S : List Blk) (k : Ex → List Value → List Blk → Option α) (r : α), reck fl c T S k = some r → ∀ b : Bool, ∃ x T' S', rec b fl c T S = some (x, T', S') ∧ k x T' S' = some r

theorem callInK_ok {rec : RecT} {reck : Nat → Code → List Value → List Blk → (Ex → List Value → List Blk → Option α) → Option α}
    (hr : RecK rec reck) : CkOk (callIn P rec) (callInK P reck) := by
  intro fl f args S k r h
  unfold callInK at h
  simp only [forceK_eq] at h
  split at h
  · rename_i fn hfn
    split at h
    · rename_i c hb
      obtain ⟨x, T', S', h1, h2⟩ := hr _ _ _ _ _ _ h false
      cases x with
      | exit id => cases h2
      | normal =>
        simp only at h2
        split at h2
        · rename_i vs hvs
          exact ⟨oneVal vs, S', by simp only [callIn, hfn, hb, forceK_eq, h1, hvs], h2⟩
        · cases h2
      | ret =>
        simp only at h2
        split at h2
        · rename_i vs hvs
          exact ⟨oneVal vs, S', by simp only [callIn, hfn, hb, forceK_eq, h1, hvs], h2⟩
        · cases h2
    · cases h
  · cases h

theorem callSK_ok {orc : FuncId → List Value → Option OT} {Sg : List Blk} {rec : RecT} {reck : Nat → Code → List Value → List Blk → (Ex → List Value → List Blk → Option α) → Option α}
    (hr : RecK rec reck) : CkOk (callS P (orcOf orc) Sg rec) (callSK P orc Sg reck) := by
  intro fl f args S k r h
  unfold callSK at h
  split at h
  · rename_i hall
    split at h
    · rename_i t ho
      obtain ⟨v, hv, h⟩ := OT.ev_ok h
      split at h
      · rename_i hp
        exact ⟨v, S, by simp only [callS, hall, orcOf, ho, hv, hp, if_true], h⟩
      · cases h
    · rename_i ho
      obtain ⟨v, S', h1, h2⟩ := callInK_ok hr _ _ _ _ _ _ h
      split at h2
      · rename_i hp
        exact ⟨v, S, by simp only [callS, hall, orcOf, ho, h1, hp, if_true], h2⟩
      · cases h2
  · rename_i hall
    obtain ⟨v, S', h1, h2⟩ := callInK_ok hr _ _ _ _ _ _ h
    exact ⟨v, S', by simp only [callS, hall, h1]; simp, h2⟩

theorem evCodeK_ok {orc : FuncId → List Value → Option OT} {Sg : List Blk} : ∀ n, RecK (evCode P (orcOf orc) Sg n) (evCodeK (α := α) P orc Sg n) := by
  intro n
  induction n with
  | zero => intro fl c T S k r h; (cases h)
  | succ n ih =>
    have hc : CkOk (callerS P (orcOf orc) Sg (evCode P (orcOf orc) Sg n)).call (callSK P orc Sg (evCodeK (α := α) P orc Sg n)) := callSK_ok ih
    intro fl c T S k r h ro
    cases c with
    | skip => exact ⟨_, T, S, rfl, h⟩
    | label l => exact ⟨_, T, S, rfl, h⟩
    | scope b =>
      simp only [evCodeK] at h
      obtain ⟨x, T', S', h1, h2⟩ := ih _ _ _ _ _ _ h ro
      exact ⟨x, T', S', by simp only [evCode, h1], h2⟩
    | exit id => exact ⟨_, T, S, rfl, h⟩
    | ret => exact ⟨_, T, S, rfl, h⟩
    | seq a b =>
      simp only [evCodeK] at h
      obtain ⟨x, T1, S1, h1, h2⟩ := ih _ _ _ _ _ _ h ro
      cases x with
      | normal =>
        obtain ⟨y, T', S', h3, h4⟩ := ih _ _ _ _ _ _ h2 ro
        exact ⟨y, T', S', by simp only [evCode, h1, h3], h4⟩
      | exit id => exact ⟨_, T1, S1, by simp only [evCode, h1], h2⟩
      | ret => exact ⟨_, T1, S1, by simp only [evCode, h1], h2⟩
    | cond y a b =>
      simp only [evCodeK, putK_eq] at h
      split at h
      · rename_i β hβ
        have same : putL T (tmpOf y) (.bool β) = T := by
          cases y with
          | tmp t => simp only [opd, Option.some.injEq] at hβ; exact set_same hβ
          | _ => rfl
        rcases bif_some h with ⟨rfl, h⟩ | ⟨rfl, h⟩
        · rw [same] at h
          obtain ⟨x, T', S', h1, h2⟩ := ih _ _ _ _ _ _ h ro
          exact ⟨x, T', S', by simp only [evCode, hβ, cond_true, h1], h2⟩
        · rw [same] at h
          obtain ⟨x, T', S', h1, h2⟩ := ih _ _ _ _ _ _ h ro
          exact ⟨x, T', S', by simp only [evCode, hβ, cond_false, h1], h2⟩
      · cases h
    | block id b =>
      simp only [evCodeK] at h
      obtain ⟨x, T1, S1, h1, h2⟩ := ih _ _ _ _ _ _ h ro
      cases x with
      | normal => exact ⟨_, T1, S1, by simp only [evCode, h1], h2⟩
      | ret => exact ⟨_, T1, S1, by simp only [evCode, h1], h2⟩
      | exit id' =>
        simp only at h2
        split at h2
        · rename_i he
          have he' : id' = id := by simpa using he
          exact ⟨_, T1, S1, by simp only [evCode, h1, he', if_true], h2⟩
        · rename_i he
          have he' : ¬ id' = id := fun e => by subst e; simp at he
          exact ⟨_, T1, S1, by simp only [evCode, h1, he', if_false], h2⟩
    | loop b =>
      simp only [evCodeK] at h
      obtain ⟨x, T1, S1, h1, h2⟩ := ih _ _ _ _ _ _ h ro
      cases x with
      | normal =>
        obtain ⟨y, T', S', h3, h4⟩ := ih _ _ _ _ _ _ h2 ro
        exact ⟨y, T', S', by simp only [evCode, h1, h3], h4⟩
      | exit id => exact ⟨_, T1, S1, by simp only [evCode, h1], h2⟩
      | ret => exact ⟨_, T1, S1, by simp only [evCode, h1], h2⟩
    | region id ops draw =>
      cases draw with
      | false =>
        simp only [evCodeK] at h
        obtain ⟨T', S', h1, h2⟩ := evOpsK_ok hc _ _ _ _ _ h
        exact ⟨_, T', S', by simp only [evCode, h1], h2⟩
      | true =>
        simp only [evCodeK] at h
        obtain ⟨T', S', h1, h2⟩ := evDrawK_ok hc h
        exact ⟨_, T', S', by simp only [evCode, h1], h2⟩
    | _ => cases h

/-- What has been evaluated apart from all else is what the call does in every world in which the package-level variables hold what was assumed. -/
theorem runK_calls {orc : FuncId → List Value → Option OT} {Sg : List Blk} (hsg : SgOk Sg) (horc : OrcOk P Sg (orcOf orc)) {n : Nat} {f : FuncId} {args : List Value} {v : Value}
    (h : runK P orc Sg n f args = some v) (hargs : args.all plain = true) {w : World} (inv : Inv Sg (baseRen Sg.length) Sg w) :
    Calls P f args.toArray w fun e w' => e = .returned v ∧ Below w.heap.size w w' := by
  obtain ⟨u, S', h1, h2⟩ := callInK_ok (P := P) (evCodeK_ok n) _ _ _ _ _ _ h
  split at h2
  · rename_i hp
    cases h2
    exact run_calls hsg horc (n := n) (by simp only [run, h1, hp, if_true]) hargs inv
  · cases h2
end
end
end Go.Proofs.XX.Vm
