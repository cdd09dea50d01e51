/- A small evaluator over a shadow heap, the evaluator with variables, and that for closed calls. -/
import Derived.Test.YtnmgahhceliphaaGreatDoorW2
/- A small evaluator over a shadow heap, part 19: the same, handing on what it comes to: so that numbers may be variables, and a test that hangs on them parts the way. -/
namespace Go.Proofs.XX.Vm
open Go Go.RowKit

noncomputable section
/-- What a call comes to, by tests. -/
inductive OT where
  | val (v : Value)
  | ite (b : Bool) (t e : OT)
  | no
def OT.get : OT → Option Value
  | .val v => some v
  | .ite b t e => bif b then t.get else e.get
  | .no => none
def OT.ev {α : Type} : OT → (Value → Option α) → Option α
  | .val v, k => k v
  | .ite b t e, k => bif b then t.ev k else e.ev k
  | .no, _ => none
theorem OT.ev_ok {α : Type} {k : Value → Option α} {r : α} : ∀ {t : OT}, t.ev k = some r → ∃ v, t.get = some v ∧ k v = some r
  | .val v, h => ⟨v, rfl, h⟩
  | .ite b t e, h => by
    cases b
    · exact OT.ev_ok (t := e) h
    · exact OT.ev_ok (t := t) h
  | .no, h => by cases h
/-- What a call with memory comes to, by tests. -/
inductive OTM where
  | val (v : Value) (S : List Blk)
  | ite (b : Bool) (t e : OTM)
  | no
def OTM.get : OTM → Option (Value × List Blk)
  | .val v S => some (v, S)
  | .ite b t e => bif b then t.get else e.get
  | .no => none
def OTM.ev {α : Type} : OTM → (Value → List Blk → Option α) → Option α
  | .val v S, k => k v S
  | .ite b t e, k => bif b then t.ev k else e.ev k
  | .no, _ => none
theorem OTM.ev_ok {α : Type} {k : Value → List Blk → Option α} {r : α} : ∀ {t : OTM}, t.ev k = some r → ∃ v S, t.get = some (v, S) ∧ k v S = some r
  | .val v S, h => ⟨v, S, rfl, h⟩
  | .ite b t e, h => by
    cases b
    · exact OTM.ev_ok (t := e) h
    · exact OTM.ev_ok (t := t) h
  | .no, h => by cases h
structure Orc where
  val : FuncId → List Value → Option OT
  mem : Nat → FuncId → List Value → List Blk → Option OTM
abbrev CallerK (α : Type) := Nat → FuncId → List Value → List Blk → (Value → List Blk → Option α) → Option α
abbrev RoundK (α : Type) := Nat → Nat → List Value → List Blk → (Value → List Blk → Option α) → Option α

/-- The guard's test, known in what follows. -/
def guardK {α : Type} (ops : Array Oper) (T : List Value) (o : Oper) (k : List Value → Bool → Option α) : Option α :=
  match o.guard with
  | none => k T true
  | some (j, want) => match getR ops.toList j with
    | some p => match p.dst with
      | some d => match nthD T d with
        | .bool b => bif b then setK T d (.bool true) fun T' => k T' (match want with | true => true | false => false) else setK T d (.bool false) fun T' => k T' (match want with | true => false | false => true)
        | .tuple xs => match xs.toList with
          | [] => bif Nat.blt d T.length then k T false else none
          | _ => none
        | _ => none
      | none => none
    | none => none

/-- Operations that have a value under a condition on numbers. -/
def condOp (gl : Nat) (o : Oper) (T : List Value) : Option (Bool × Value) :=
  match o.op with
  | .binOp op _ a b _ => match opd gl T a, opd gl T b with
    | some (.string x), some (.string y) => match op with
      | .add => some (Nat.ble (x.size + y.size) 9223372036854775807, .string (x ++ y))
      | _ => none
    | some (.int k x), some (.int j y) => match op with
      | .quo => if k = j then some (y != 0, .int k (k.wrap (x.tdiv y))) else none
      | .rem => if k = j then some (y != 0, .int k (x.tmod y)) else none
      | .shl => some (decide (0 ≤ y), .int k (shlN k x y))
      | .shr => some (decide (0 ≤ y), .int k (shrN k x y))
      | _ => none
    | _, _ => none
  | _ => none
theorem condOp_ok {P : Program} {gl fl : Nat} {o : Oper} {T : List Value} {S : List Blk} {v : Value} (h : condOp gl o T = some (true, v)) : evOp P gl fl o T S = some (.val v S) := by
  unfold condOp at h
  split at h
  · rename_i op t a b t2 ho
    split at h
    · rename_i x y hx hy
      split at h
      · simp only [Option.some.injEq, Prod.mk.injEq] at h
        obtain ⟨h1, rfl⟩ := h
        have h2 := Nat.le_of_ble_eq_true h1
        have hne : ¬ (9223372036854775807 < (x.size : Int) + (y.size : Int)) := by omega
        simp only [evOp_eqO, evOpO, ho, hx, hy, pureTry, Op.operands, opds, pureOp]
        simp [plain, flat, scalar, execOp, ho, hx, hy, eqGuard, binOp, Op.stringOp, Bind.bind, Sem.bind, Pure.pure]
        simp [hne, pureSem, Sem.bind]
      · cases h
    · rename_i k x j y hx hy
      split at h
      · split at h
        · rename_i hkj
          subst hkj
          simp only [Option.some.injEq, Prod.mk.injEq, bne_iff_ne, ne_eq] at h
          obtain ⟨h1, rfl⟩ := h
          simp only [evOp_eqO, evOpO, ho, hx, hy, pureTry, Op.operands, opds, pureOp, fastBin]
          simp [plain, flat, scalar, execOp, ho, hx, hy, eqGuard, binOp, Op.intDiv, h1, pureSem, Bind.bind, Sem.bind, Pure.pure]
        · cases h
      · split at h
        · rename_i hkj
          subst hkj
          simp only [Option.some.injEq, Prod.mk.injEq, bne_iff_ne, ne_eq] at h
          obtain ⟨h1, rfl⟩ := h
          simp only [evOp_eqO, evOpO, ho, hx, hy, pureTry, Op.operands, opds, pureOp, fastBin]
          simp [plain, flat, scalar, execOp, ho, hx, hy, eqGuard, binOp, Op.intDiv, h1, pureSem, Bind.bind, Sem.bind, Pure.pure]
        · cases h
      · simp only [Option.some.injEq, Prod.mk.injEq, decide_eq_true_eq] at h
        obtain ⟨h1, rfl⟩ := h
        have h2 : ¬ y < 0 := by omega
        simp only [evOp_eqO, evOpO, ho, hx, hy, pureTry, Op.operands, opds, pureOp, fastBin, shlN, minN_eq]
        simp [plain, flat, scalar, execOp, ho, hx, hy, eqGuard, binOp, Op.shift, h2, pureSem, Bind.bind, Sem.bind, Pure.pure]
      · simp only [Option.some.injEq, Prod.mk.injEq, decide_eq_true_eq] at h
        obtain ⟨h1, rfl⟩ := h
        have h2 : ¬ y < 0 := by omega
        simp only [evOp_eqO, evOpO, ho, hx, hy, pureTry, Op.operands, opds, pureOp, fastBin, shrN, minN_eq]
        simp [plain, flat, scalar, execOp, ho, hx, hy, eqGuard, binOp, Op.shift, h2, pureSem, Bind.bind, Sem.bind, Pure.pure]
      · cases h
    · cases h
  · cases h

/-- Maps whose keys are compared by a test. -/
def keyOk (P : Program) (kt : TypeId) (k : Value) : Bool :=
  plain k && structT P kt && (match pureSem P (Instr.checkKey false 10000 kt k) with | some _ => true | none => false) && (match pureSem P (Instr.checkKey true 10000 kt k) with | some _ => true | none => false)
def okVals : List MapEntry → Bool
  | [] => true
  | e :: es => (match e.val with | .int .i64 _ => true | _ => false) && okVals es
def hasK (P : Program) (kt : TypeId) (k : Value) : List MapEntry → Bool
  | [] => false
  | e :: es => hitK P kt k e || hasK P kt k es
def valK (P : Program) (kt : TypeId) (k : Value) : List MapEntry → Int
  | [] => 0
  | e :: es => bif hitK P kt k e then (match e.val with | .int _ n => n | _ => 0) else valK P kt k es
def okValB : List MapEntry → Bool
  | [] => true
  | e :: es => (match e.val with | .bool _ => true | _ => false) && okValB es
def valB (P : Program) (kt : TypeId) (k : Value) : List MapEntry → Bool
  | [] => false
  | e :: es => bif hitK P kt k e then (match e.val with | .bool b => b | _ => false) else valB P kt k es
def boolD : Bool → Bool
  | true => true
  | false => false
def lookupK {α : Type} (P : Program) (t : TypeId) (S : List Blk) (m key : Value) (ok : Bool) (k : Value → List Blk → Option α) : Option (Option α) :=
  match P.underlying t with
  | some (.map kt et) => match mapAt S m with
    | some (_, es, _) => match zeroT P et with
      | some (.int .i64 z) => match keyOk P kt key with
        | true => some (bif okKeys P kt key es && okVals es then (bif hasK P kt key es then k (okVal ok (.int .i64 (valK P kt key es)) true) S else k (okVal ok (.int .i64 z) false) S) else none)
        | false => none
      | some (.bool z) => match keyOk P kt key with
        | true => some (bif okKeys P kt key es && okValB es then (bif hasK P kt key es then k (okVal ok (.bool (valB P kt key es)) true) S else k (okVal ok (.bool z) false) S) else none)
        | false => none
      | _ => none
    | none => none
  | _ => none
def updateK {α : Type} (P : Program) (fl : Nat) (t : TypeId) (S : List Blk) (m key v : Value) (k : Value → List Blk → Option α) : Option (Option α) :=
  match P.underlying t with
  | some (.map kt _) => match mapAt S m with
    | some (b, es, clock) => match keyOk P kt key && plain v with
      | true => some (bif Nat.ble fl b && plain v && okKeys P kt key es then (bif hasK P kt key es then none else forceK (S.set b (mapBlk (es ++ [{ key := key, val := v, born := clock }]) (clock + 1))) fun S' => k undef S') else none)
      | false => none
    | none => none
  | _ => none
/-- Operations on memory that have a value under a condition on numbers. -/
def condMem (P : Program) (gl : Nat) (o : Oper) (T : List Value) (S : List Blk) : Option (Bool × Value) :=
  match o.op with
  | .load t x => match opd gl T x with
    | some (.pointer (some ⟨b, off, none⟩)) => match S[b]? with
      | some ⟨_, _, _, some (.ints kd lo L)⟩ => intsC P t kd lo L off
      | some ⟨_, _, _, some (.buf kd _ L)⟩ => intsC P t kd 0 L off
      | _ => none
    | _ => none
  | .indexAddr t x i => match opd gl T x with
    | some (.slice (some ⟨b, off, none⟩) n _) => match opd gl T i with
      | some (.int _ j) => match P.underlying t with
        | some (.slice e) => match sizeT P e with
          | some sz => some (decide (0 ≤ j) && decide (j < (n : Int)), .pointer (some ⟨b, off + j.toNat * sz, none⟩))
          | none => none
        | _ => none
      | _ => none
    | some (.pointer (some ⟨b, off, none⟩)) => match opd gl T i with
      | some (.int _ j) => match P.underlying t with
        | some (.array n e) => match sizeT P e with
          | some sz => some (decide (0 ≤ j) && decide (j < (n : Int)), .pointer (some ⟨b, off + j.toNat * sz, none⟩))
          | none => none
        | _ => none
      | _ => none
    | _ => none
  | .slice t x lo hi mx => match sliceQO P gl T t x lo hi mx with
    | some _ => none
    | none => match opd gl T x with
    | some (.slice (some a) n c) => match optV gl T lo with
      | some l => match optV gl T hi with
        | some h => match optV gl T mx with
          | some m => match l, h, m with
            | none, none, none => none
            | _, _, _ => sliceC P t (.slice (some a) n c) l h m
          | none => none
        | none => none
      | none => none
    | _ => none
  | _ => none
/-- A byte of a string, and a piece of one. -/
def byteN (s : ByteArray) (j : Int) : Int := (((s.data.toList[j.toNat]?).getD 0).toNat : Nat)
def strB (d : Nat) : Option Value → Option (Bool × Nat)
  | none => some (true, d)
  | some (.int _ i) => some (decide (0 ≤ i), i.toNat)
  | _ => none
def condStr (P : Program) (gl : Nat) (o : Oper) (T : List Value) : Option (Bool × Value) :=
  match o.op with
  | .index t x i => match opd gl T x with
    | some (.string s) => match opd gl T i with
      | some (.int _ j) => match P.underlying t with
        | some .string => some (decide (0 ≤ j) && decide (j < (s.size : Int)), .int .u8 (byteN s j))
        | _ => none
      | _ => none
    | _ => none
  | .slice t x lo hi none => match opd gl T x with
    | some (.string s) => match P.underlying t with
      | some .string => match optV gl T lo with
        | some l => match optV gl T hi with
          | some h => match l, h with
            | none, none => none
            | _, _ => match strB 0 l with
              | some (t1, l') => match strB s.size h with
                | some (t2, h') => some (t1 && t2 && Nat.ble l' h' && Nat.ble h' s.size, .string (s.extract l' h'))
                | none => none
              | none => none
          | none => none
        | none => none
      | _ => none
    | _ => none
  | _ => none
theorem pureSem_bind {P : Program} {α β : Type} {e : Sem α} {a : α} {f : α → Sem β} {b : β} (h : pureSem P e = some a) (hf : pureSem P (f a) = some b) : pureSem P (e.bind f) = some b := by
  induction e with
  | pure c => simp only [pureSem, Option.some.injEq] at h; subst h; exact hf
  | program k ih => simp only [pureSem] at h; simp only [Sem.bind, pureSem]; exact ih _ h
  | mark m k ih => simp only [pureSem] at h; simp only [Sem.bind, pureSem]; exact ih h
  | choose q k ih =>
    simp only [pureSem] at h
    split at h
    · rename_i hq; simp only [Sem.bind, pureSem, hq, if_true]; exact ih _ h
    · cases h
  | _ => simp [pureSem] at h
theorem pureSem_under {P : Program} {t : TypeId} {d : TypeDesc} (h : P.underlying t = some d) : pureSem P (underlying t) = some d := by
  simp [underlying, program, Bind.bind, Sem.bind, pureSem, h, Pure.pure]
theorem pureSem_strBound {P : Program} {v : Option Value} {d n : Nat} {b : Bool} {m : Nat} {code : BoundsCode} (h : strB d v = some (b, m)) (hb : b = true) (hm : m ≤ n) :
    pureSem P (match v with | some v => Instr.sliceBound v n code | none => pure d) = some m := by
  cases v with
  | none => simp only [strB, Option.some.injEq, Prod.mk.injEq] at h; obtain ⟨_, rfl⟩ := h; rfl
  | some v =>
    unfold strB at h
    split at h
    · cases ‹some v = none›
    · rename_i k i e
      cases e
      simp only [Option.some.injEq, Prod.mk.injEq] at h
      obtain ⟨rfl, rfl⟩ := h
      have h0 : 0 ≤ i := by simpa using hb
      have h1 : i ≤ (n : Int) := by omega
      simp [Instr.sliceBound, asIntOf, Bind.bind, Sem.bind, Pure.pure, pureSem, h0, h1]
    · cases h
theorem optV_map {gl : Nat} {T : List Value} {x : Option Operand} {l : Option Value} (h : optV gl T x = some l) : x.map (fun x => (opd gl T x).getD undef) = l := by
  cases x with
  | none => cases h; rfl
  | some y =>
    simp only [optV] at h
    split at h
    · rename_i v hv; cases h; simp [hv]
    · cases h
theorem strB_plain {d : Nat} {v : Value} {r : Bool × Nat} (h : strB d (some v) = some r) : plain v = true := by
  unfold strB at h
  split at h
  · cases ‹some v = none›
  · rename_i k i e; cases e; rfl
  · cases h
theorem optV_opds {gl : Nat} {T : List Value} {t : TypeId} {x : Operand} {lo hi : Option Operand} {l h : Option Value} {d : Nat} {r q : Bool × Nat} {s : ByteArray} (hl : optV gl T lo = some l) (hh : optV gl T hi = some h) (h1 : strB 0 l = some r) (h2 : strB d h = some q) (hx : opd gl T x = some (.string s)) :
    ∃ vs, opds gl T (Op.slice t x lo hi none).operands.toList = some vs ∧ vs.all plain = true := by
  have key : ∀ (y : Option Operand) (l : Option Value) (d : Nat) (r : Bool × Nat), optV gl T y = some l → strB d l = some r → (y = none ∨ ∃ z v, y = some z ∧ opd gl T z = some v ∧ plain v = true) := by
    intro y l d r hy hr
    cases y with
    | none => exact .inl rfl
    | some z =>
      simp only [optV] at hy
      split at hy
      · rename_i v hv; cases hy; exact .inr ⟨z, v, rfl, hv, strB_plain hr⟩
      · cases hy
  rcases key lo l 0 r hl h1 with rfl | ⟨z, v, rfl, hz, pz⟩ <;> rcases key hi h d q hh h2 with rfl | ⟨z', v', rfl, hz', pz'⟩ <;>
    simp_all [Op.operands, opds, plain, flat, scalar]
theorem pureSem_bounds {P : Program} {s : ByteArray} {l h : Option Value} {l' h' : Nat} (h1 : strB 0 l = some (true, l')) (h2 : strB s.size h = some (true, h')) (h3 : l' ≤ h') (h4 : h' ≤ s.size) :
    pureSem P ((Instr.sliceBounds false s.size s.size l h none).bind fun p => match p with | (l, h, _) => pure (Value.string (s.extract l h))) = some (Value.string (s.extract l' h')) := by
  have a := pureSem_strBound (P := P) (code := .sliceAlen) h2 rfl h4
  have b := pureSem_strBound (P := P) (code := .sliceB) h1 rfl h3
  refine pureSem_bind (a := (l', h', s.size)) ?_ rfl
  simp only [Instr.sliceBounds, Bind.bind]
  refine pureSem_bind (a := s.size) rfl ?_
  cases h with
  | none =>
    refine pureSem_bind (a := h') a ?_
    cases l with
    | none => exact pureSem_bind (a := l') b rfl
    | some v => exact pureSem_bind (a := l') b rfl
  | some u =>
    refine pureSem_bind (a := h') a ?_
    cases l with
    | none => exact pureSem_bind (a := l') b rfl
    | some v => exact pureSem_bind (a := l') b rfl
theorem condStr_ok {P : Program} {gl fl : Nat} {o : Oper} {T : List Value} {S : List Blk} {v : Value} (h : condStr P gl o T = some (true, v)) : evOp P gl fl o T S = some (.val v S) := by
  unfold condStr at h
  split at h
  · rename_i t x i ho
    split at h
    · rename_i s hx
      split at h
      · rename_i k j hi
        split at h
        · rename_i hu
          simp only [Option.some.injEq, Prod.mk.injEq, Bool.and_eq_true, decide_eq_true_eq] at h
          obtain ⟨⟨h1, h2⟩, rfl⟩ := h
          have hlt : j.toNat < s.size := by omega
          have hb : s[j.toNat]? = some s[j.toNat] := getElem?_pos s j.toNat hlt
          have hd : byteN s j = ((s[j.toNat]).toNat : Int) := by
            have hl : j.toNat < s.data.toList.length := by rw [Array.length_toList]; exact hlt
            unfold byteN
            rw [List.getElem?_eq_getElem hl]
            rfl
          have hp : pureSem P (execOp (fun x => (opd gl T x).getD undef) o) = some (.value (.int .u8 (byteN s j))) := by
            simp only [execOp, ho, hx, hi, Option.getD_some]
            refine pureSem_bind (a := .int .u8 (byteN s j)) ?_ rfl
            simp only [Instr.index, asIntOf, Bind.bind, Pure.pure, Sem.bind]
            refine pureSem_bind (pureSem_under hu) ?_
            simp [h1, hb, hd, pureSem]
          simp only [evOp_eqO, evOpO, ho, pureTry, Op.operands, opds, pureOp, hx, hi]
          simp [hp, plain, flat, scalar]
        · cases h
      · cases h
    · cases h
  · rename_i t x lo hi ho
    split at h
    · rename_i s hx
      split at h
      · rename_i hu
        split at h
        · rename_i l hl
          split at h
          · rename_i hh hhh
            split at h
            · cases h
            · rename_i hne
              split at h
              · rename_i t1 l' hb1
                split at h
                · rename_i t2 h' hb2
                  simp only [Option.some.injEq, Prod.mk.injEq, Bool.and_eq_true] at h
                  obtain ⟨⟨⟨⟨rfl, rfl⟩, h3⟩, h4⟩, rfl⟩ := h
                  have h3 := Nat.le_of_ble_eq_true h3
                  have h4 := Nat.le_of_ble_eq_true h4
                  have m1 : lo.map (fun x => (opd gl T x).getD undef) = l := optV_map hl
                  have m2 : hi.map (fun x => (opd gl T x).getD undef) = hh := optV_map hhh
                  have hp : pureSem P (execOp (fun x => (opd gl T x).getD undef) o) = some (.value (.string (s.extract l' h'))) := by
                    simp only [execOp, ho, hx, m1, m2, Option.getD_some, Option.map_none]
                    refine pureSem_bind (a := .string (s.extract l' h')) ?_ rfl
                    simp only [Instr.sliceAt, Bind.bind]
                    refine pureSem_bind (pureSem_under hu) ?_
                    simp only [Instr.slice, Bind.bind]
                    refine pureSem_bind (pureSem_under hu) ?_
                    exact pureSem_bounds hb1 hb2 h3 h4
                  have hv : ∃ vs, opds gl T o.op.operands.toList = some vs ∧ vs.all plain = true := by
                    rw [ho]
                    exact optV_opds hl hhh hb1 hb2 hx
                  obtain ⟨vs, hv1, hv2⟩ := hv
                  have hq : sliceQO P gl T t x lo hi none = none := by
                    unfold sliceQO sliceQ
                    rw [hx]
                    simp only [hu]
                    split <;> rfl
                  have hev : evOp P gl fl o T S = pureTry P gl o T S := by
                    cases lo with
                    | some y => simp only [evOp_eqO, evOpO, ho, hq, hx]
                    | none =>
                      cases hi with
                      | some y => simp only [evOp_eqO, evOpO, ho, hq, hx]
                      | none => cases hl; cases hhh; exact absurd rfl (hne rfl)
                  rw [hev]
                  have hpo : pureOp o.op = true := by rw [ho]; rfl
                  simp only [pureTry, hv1, hpo, hv2, Bool.and_self, if_true, hp]
                  rfl
                · cases h
              · cases h
          · cases h
        · cases h
      · cases h
    · cases h
  · cases h
/-- The next character of a string, at a place that need not be known. -/
def nextK {α : Type} (fl : Nat) (S : List Blk) (x : Value) (k : Value → List Blk → Option α) : Option (Option α) :=
  match x with
  | .pointer (some ⟨b, 0, none⟩) => match S[b]? with
    | some ⟨_, _, _, some (.iter s pos)⟩ => if decide (fl ≤ b) then
        some (bif Nat.blt pos s.size then forceK (S.set b (iterBlk s (pos + (Utf8.decode s pos).2))) fun S' => k (.tuple #[.bool true, goInt pos, .int .i32 ((Utf8.decode s pos).1 : Nat)]) S'
        else k (.tuple #[.bool false]) S)
      else none
    | _ => none
  | _ => none
theorem nextK_ok {α : Type} {fl : Nat} {S : List Blk} {x : Value} {k : Value → List Blk → Option α} {q : Option α} {r : α} (h : nextK fl S x k = some q) (hq : q = some r) :
    ∃ v S', nextP fl S x = some (v, S') ∧ k v S' = some r := by
  unfold nextK at h
  split at h
  · rename_i b
    split at h
    · rename_i s pos hk
      split at h
      · rename_i hc
        simp only [Option.some.injEq, forceK_eq] at h
        subst h
        cases hb : Nat.blt pos s.size with
        | true =>
          rw [hb] at hq
          have hp : pos < s.size := Nat.le_of_ble_eq_true hb
          exact ⟨_, _, by simp only [nextP_eqO, nextPO, hk, hc, if_true, hp, forceK_eq], hq⟩
        | false =>
          rw [hb] at hq
          have hp : ¬ pos < s.size := fun e => by rw [show Nat.blt pos s.size = true from Nat.ble_eq_true_of_le e] at hb; cases hb
          exact ⟨_, _, by simp only [nextP_eqO, nextPO, hk, hc, if_true, hp, if_false], hq⟩
      · cases h
    · cases h
  · cases h
theorem condMem_ok {P : Program} {gl fl : Nat} {o : Oper} {T : List Value} {S : List Blk} {v : Value} (h : condMem P gl o T S = some (true, v)) : evOp P gl fl o T S = some (.val v S) := by
  unfold condMem at h
  split at h
  · rename_i t x ho
    split at h
    · rename_i b off hx
      split at h
      · rename_i cs e ro kd lo L hk
        simp only [evOp_eqO, evOpO, ho, hx, load_eqO, loadO, hk, readInts, h]
      · rename_i cs e ro kd sz L hk
        simp only [evOp_eqO, evOpO, ho, hx, load_eqO, loadO, hk, readInts, h]
      · cases h
    · cases h
  · rename_i t x i ho
    split at h
    · rename_i b off n c hx
      split at h
      · rename_i kk j hi
        split at h
        · rename_i e hu
          split at h
          · rename_i sz hz
            simp only [Option.some.injEq, Prod.mk.injEq] at h
            obtain ⟨h1, rfl⟩ := h
            simp only [evOp_eqO, evOpO, ho, hx, hi, indexP, hu, h1, if_true, hz, Addr.add_lit]
          · cases h
        · cases h
      · cases h
    · rename_i b off hx
      split at h
      · rename_i kk j hi
        split at h
        · rename_i n e hu
          split at h
          · rename_i sz hz
            simp only [Option.some.injEq, Prod.mk.injEq] at h
            obtain ⟨h1, rfl⟩ := h
            simp only [evOp_eqO, evOpO, ho, hx, hi, indexP, hu, h1, if_true, hz, Addr.add_lit]
          · cases h
        · cases h
      · cases h
    · cases h
  · rename_i t x lo hi mx ho
    split at h
    · cases h
    · rename_i hqq
      split at h
      · rename_i a n c hx
        split at h
        · rename_i l hl
          split at h
          · rename_i hh hhh
            split at h
            · rename_i m hm
              split at h
              · cases h
              · rename_i hne
                have hnone : ∀ y : Option Operand, optV gl T y = some none → y = none := by
                  intro y hy
                  cases y with
                  | none => rfl
                  | some z =>
                    simp only [optV] at hy
                    split at hy <;> cases hy
                cases lo with
                | some y => simp only [evOp_eqO, evOpO, ho, hqq, hx, hl, hhh, hm, h]
                | none =>
                  have e0 : optV gl T none = some none := rfl
                  cases hl
                  cases hi with
                  | some y => simp only [evOp_eqO, evOpO, ho, hqq, hx, e0, hhh, hm, h]
                  | none =>
                    cases hhh
                    cases mx with
                    | some y => simp only [evOp_eqO, evOpO, ho, hqq, hx, e0, hm, h]
                    | none => cases hm; exact absurd rfl (hne rfl rfl)
            · cases h
          · cases h
        · cases h
      · cases h
  · cases h
theorem appendQ_slice {P : Program} {fl : Nat} {S : List Blk} {ats : List TypeId} {a : Option Addr} {n c : Nat} {s : Value} : appendQ P fl S ats (.slice a n c) s = none := by
  unfold appendQ
  repeat' split
  all_goals first | rfl | (rename_i h; cases h; done) | (rename_i h _ _; cases h; done) | (exfalso; simp_all; done)
def appendK {α : Type} (P : Program) (gl : Nat) (o : Oper) (T : List Value) (S : List Blk) (k : Value → List Blk → Option α) : Option (Option α) :=
  match o.op with
  | .call { callee := .builtin .append, args, argTypes } => match opds gl T args.toList with
    | some [d, s] => match appendC P S argTypes.toList d s with
      | some (t, d', v, b) => some (bif t then (bif Nat.beq (lenV s) 0 then k d' S else forceK (S ++ [b]) fun S' => k v S') else none)
      | none => none
    | _ => none
  | _ => none
theorem appendK_ok {α : Type} {P : Program} {gl fl : Nat} {o : Oper} {T : List Value} {S : List Blk} {k : Value → List Blk → Option α} {q : Option α} {r : α} (h : appendK P gl o T S k = some q) (hq : q = some r) :
    ∃ v S', evOp P gl fl o T S = some (.val v S') ∧ k v S' = some r := by
  unfold appendK at h
  split at h
  · rename_i args argTypes ho
    split at h
    · rename_i d s hv
      split at h
      · rename_i t d' v b hc
        simp only [Option.some.injEq, forceK_eq] at h
        subst h
        cases t with
        | false => cases hq
        | true =>
          simp only [cond_true] at hq
          cases hz : Nat.beq (lenV s) 0 with
          | true =>
            rw [hz] at hq
            have h0 : lenV s = 0 := Nat.eq_of_beq_eq_true hz
            exact ⟨d', S, by simp only [evOp_eqO, evOpO, ho, hv, appendP_eqO, appendPO, hc, h0, if_true], hq⟩
          | false =>
            rw [hz] at hq
            have h0 : ¬ lenV s = 0 := fun e => by rw [e] at hz; cases hz
            exact ⟨v, S ++ [b], by simp only [evOp_eqO, evOpO, ho, hv, appendP_eqO, appendPO, hc, h0, if_false, forceK_eq], hq⟩
      · cases h
    · cases h
  · cases h
def mapK {α : Type} (P : Program) (gl fl : Nat) (o : Oper) (T : List Value) (S : List Blk) (k : Value → List Blk → Option α) : Option (Option α) :=
  match o.op with
  | .lookup t x i ok => match opd gl T x with
    | some m => match opd gl T i with
      | some key => lookupK P t S m key ok k
      | none => none
    | none => none
  | .mapUpdate t x i y => match opd gl T x with
    | some m => match opd gl T i with
      | some key => match opd gl T y with
        | some v => updateK P fl t S m key v k
        | none => none
      | none => none
    | none => none
  | .next x true => match opd gl T x with
    | some u => nextK fl S u k
    | none => none
  | _ => none

/-- What is behind a slice's last element. -/
def sliceE {α : Type} (P : Program) (gl : Nat) (o : Oper) (T : List Value) (S : List Blk) (k : Value → List Blk → Option α) : Option α :=
  match o.op with
  | .slice t x lo hi mx => match opd gl T x with
    | some (.slice (some _) n c) => match optV gl T lo, optV gl T hi, optV gl T mx with
      | some l, some h, some m => match sliceZ P t n c l h m with
        | some (b, v) => bif b then k v S else none
        | none => none
      | _, _, _ => none
    | _ => none
  | _ => none
theorem sliceE_ok {α : Type} {P : Program} {gl fl : Nat} {o : Oper} {T : List Value} {S : List Blk} {k : Value → List Blk → Option α} {r : α} {v : Value} (hc : condMem P gl o T S = some (false, v)) (h : sliceE P gl o T S k = some r) :
    ∃ u, evOp P gl fl o T S = some (.val u S) ∧ k u S = some r := by
  unfold sliceE at h
  split at h
  · rename_i t x lo hi mx ho
    split at h
    · rename_i a n c hx
      split at h
      · rename_i l hh m e1 e2 e3
        split at h
        · rename_i b u hz
          cases b with
          | false => cases h
          | true =>
            refine ⟨u, ?_, h⟩
            have hq : sliceQO P gl T t x lo hi mx = none := by
              cases hq : sliceQO P gl T t x lo hi mx with
              | none => rfl
              | some _ => simp only [condMem, ho, hq] at hc; cases hc
            simp only [condMem, ho, hq, hx, e1, e2, e3] at hc
            have hne : ¬ (l = none ∧ hh = none ∧ m = none) := by
              rintro ⟨rfl, rfl, rfl⟩
              cases hc
            have hs : sliceC P t (.slice (some a) n c) l hh m = some (false, v) := by
              split at hc
              · exact absurd ⟨rfl, rfl, rfl⟩ hne
              · exact hc
            have hall : ¬ (lo = none ∧ hi = none ∧ mx = none) := by
              rintro ⟨rfl, rfl, rfl⟩
              cases e1; cases e2; cases e3
              exact hne ⟨rfl, rfl, rfl⟩
            cases lo with
            | some lo => simp only [evOp_eqO, evOpO, ho, hq, hx, e1, e2, e3, hs, hz]
            | none =>
              cases e1
              have e0 : optV gl T none = some none := rfl
              cases hi with
              | some hi => simp only [evOp_eqO, evOpO, ho, hq, hx, e0, e2, e3, hs, hz]
              | none =>
                cases e2
                cases mx with
                | some mx => simp only [evOp_eqO, evOpO, ho, hq, hx, e0, e3, hs, hz]
                | none => exact absurd ⟨rfl, rfl, rfl⟩ hall
        · cases h
      · cases h
    · cases h
  · cases h
def opO {α : Type} (P : Program) (gl : Nat) (cl : CallerK α) (rd : RoundK α) (fl : Nat) (o : Oper) (T : List Value) (S : List Blk) (k : Value → List Blk → Option α) : Option α :=
  match o.op with
  | .pick c a b => match opd gl T c, opd gl T a, opd gl T b with
    | some (.bool β), some v, some u => bif β then k v S else k u S
    | _, _, _ => none
  | _ => match condOp gl o T with
    | some (b, v) => bif b then k v S else none
    | none => match condMem P gl o T S with
      | some (b, v) => bif b then k v S else sliceE P gl o T S k
      | none => match condStr P gl o T with
      | some (b, v) => bif b then k v S else none
      | none => match mapK P gl fl o T S k with
        | some r => r
        | none => match appendK P gl o T S k with
          | some r => r
          | none => match evOp P gl fl o T S with
            | some (.val v S') => k v S'
            | some (.call f args) => cl fl f args S k
            | some (.round l args) => rd fl l args S k
            | none => none

def resO {α : Type} (P : Program) (gl : Nat) (cl : CallerK α) (rd : RoundK α) (fl : Nat) (ops : Array Oper) (o : Oper) (T : List Value) (S : List Blk) (k : List Value → List Blk → Option α) : Option α :=
  guardK ops T o fun T' b => match b with
    | true => opO P gl cl rd fl o T' S fun v S' => putK T' o.dst v fun T'' => k T'' S'
    | false => putK T' o.dst undef fun T'' => k T'' S

/- The same, faster: values are handed on, and little text is written out anew. -/
def nthK {β : Type} (T : List Value) : Nat → (Value → β) → β := List.rec (fun _ k => k undef) (fun v _ ih n k => Nat.rec (k v) (fun m _ => ih m k) n) T
theorem nthK_eq {β : Type} (T : List Value) (n : Nat) (k : Value → β) : nthK T n k = k (nthD T n) := by
  induction T generalizing n with
  | nil => rfl
  | cons v T ih => cases n with
    | zero => rfl
    | succ n => exact ih n
def opdK {α : Type} (gl : Nat) (T : List Value) (x : Operand) (k : Value → Option α) : Option α :=
  match x with
  | .tmp t => nthK T t k
  | .const v => if plain v then k v else none
  | .global g => if g < gl then k (.pointer (some ⟨g, 0, none⟩)) else none
  | .func f => k (.func (.func f) #[] #[])
theorem opdK_eq {α : Type} (gl : Nat) (T : List Value) (x : Operand) (k : Value → Option α) : opdK gl T x k = match opd gl T x with
    | some v => k v
    | none => none := by
  cases x with
  | tmp t => exact nthK_eq T t k
  | const v => simp only [opdK, opd]; split <;> rfl
  | global g => simp only [opdK, opd]; split <;> rfl
  | func f => rfl
def opdsK {α : Type} (gl : Nat) (T : List Value) (l : List Operand) : (List Value → Option α) → Option α :=
  List.rec (fun k => k []) (fun x _ ih k => opdK gl T x fun v => ih fun vs => k (v :: vs)) l
theorem opdsK_eq {α : Type} (gl : Nat) (T : List Value) (l : List Operand) (k : List Value → Option α) : opdsK gl T l k = match opds gl T l with
    | some vs => k vs
    | none => none := by
  induction l generalizing k with
  | nil => rfl
  | cons x l ih =>
    show opdK gl T x (fun v => opdsK gl T l fun vs => k (v :: vs)) = _
    rw [opdK_eq]
    simp only [opds]
    cases opd gl T x with
    | none => rfl
    | some v =>
      simp only [ih]
      cases opds gl T l <;> rfl
def binI {α : Type} (op : BinOp) (j l : IntKind) (a b : Int) (k : Value → Option α) (d : Option α) : Option α :=
  match op with
  | .shl => bif decide (0 ≤ b) then k (.int j (shlN j a b)) else none
  | .shr => bif decide (0 ≤ b) then k (.int j (shrN j a b)) else none
  | _ => if j = l then match fastBin op j a b with
      | some v => k v
      | none => d
    else d
def binQ {α : Type} (op : BinOp) (u v : Value) (k : Value → Option α) (d : Option α) : Option α :=
  match u with
  | .int j a => match v with
    | .int l b => binI op j l a b k d
    | _ => d
  | _ => d
def loadQ {α : Type} (P : Program) (t : TypeId) (S : List Blk) (p : Value) (k : Value → List Blk → Option α) (d : Option α) : Option α :=
  match p with
  | .pointer (some ⟨b, o, none⟩) => match getR S b with
    | some ⟨cs, _, _, none⟩ => match readAt P t cs o with
      | some v => k v S
      | none => none
    | some ⟨cs, _, _, some (.bufc _)⟩ => match readAt P t cs o with
      | some v => k v S
      | none => none
    | _ => d
  | _ => d
def idxQ {α : Type} (P : Program) (t : TypeId) (S : List Blk) (u v : Value) (k : Value → List Blk → Option α) (d : Option α) : Option α :=
  match v with
  | .int _ i => match u with
    | .slice (some ⟨b, off, none⟩) n _ => match P.underlying t with
      | some (.slice e) => match sizeT P e with
        | some sz => bif decide (0 ≤ i) && decide (i < (n : Int)) then k (.pointer (some ⟨b, off + i.toNat * sz, none⟩)) S else none
        | none => d
      | _ => d
    | .pointer (some ⟨b, off, none⟩) => match P.underlying t with
      | some (.array n e) => match sizeT P e with
        | some sz => bif decide (0 ≤ i) && decide (i < (n : Int)) then k (.pointer (some ⟨b, off + i.toNat * sz, none⟩)) S else none
        | none => d
      | _ => d
    | _ => d
  | _ => d
def retQ {α : Type} (cl : CallerK α) (rd : RoundK α) (fl : Nat) (S : List Blk) (r : Option R) (k : Value → List Blk → Option α) : Option α :=
  match r with
  | some (.val v S') => k v S'
  | some (.call f args) => cl fl f args S k
  | some (.round l args) => rd fl l args S k
  | none => none
def lenQ {α : Type} (P : Program) (vs : List Value) (ats : Array TypeId) (S : List Blk) (k : Value → List Blk → Option α) (d : Option α) : Option α :=
  match vs with
  | [.slice (some _) n _] => match ats[0]? with
    | some t => match P.underlying t with
      | some (.slice _) => k (.int .i64 n) S
      | _ => d
    | none => d
  | _ => d
/-- Lists of which nothing need be known. -/
def apR (l m : List Int) : List Int := List.rec m (fun v _ ih => v :: ih) l
theorem apR_eq (l m : List Int) : apR l m = l ++ m := by
  induction l with
  | nil => rfl
  | cons v l ih => show v :: apR l m = _; rw [ih]; rfl
def storeQ {α : Type} (P : Program) (fl : Nat) (t : TypeId) (S : List Blk) (p v : Value) (k : Value → List Blk → Option α) (d : Option α) : Option α :=
  match p with
  | .pointer (some ⟨b, o, none⟩) => match getR S b with
    | some ⟨cs0, e, ro, some (.buf kd sz L)⟩ => match sizeT P t with
      | some n => match v with
        | .int kd2 m => bif decide (fl ≤ b) && decide (n = 1) && decide (kd2 = kd) && Nat.blt o (lenR L) then setG S b ⟨cs0, e, ro, some (.buf kd sz (setI L o m))⟩ fun S' => k undef S' else none
        | .agg xs => match intsOf kd xs.toList with
          | some ms => bif decide (fl ≤ b) && Nat.beq (lenR ms) n && Nat.ble (o + n) (lenR L) then setG S b ⟨cs0, e, ro, some (.buf kd sz (setM L o ms))⟩ fun S' => k undef S' else none
          | none => d
        | _ => d
      | none => d
    | _ => d
  | _ => d
theorem storeQ_eq {α : Type} (P : Program) (fl : Nat) (t : TypeId) (S : List Blk) (p v : Value) (k : Value → List Blk → Option α) : storeQ P fl t S p v k (match store P fl t S p v with
    | some S' => k undef S'
    | none => none) = match store P fl t S p v with
    | some S' => k undef S'
    | none => none := by
  unfold storeQ
  split
  · split
    · split
      · split
        · rename_i cs0 e ro kd sz L hb _ n hn _ kd2 m
          simp only [store, hb, hn, setG_eq, setI_eq]
          cases hc : (decide (fl ≤ _) && decide (n = 1) && decide (kd2 = kd) && Nat.blt _ (lenR L)) with
          | true => simp only [cond_true, if_true]
          | false => simp only [cond_false, Bool.false_eq_true, if_false]
        · rename_i cs0 e ro kd sz L hb _ n hn _ xs
          split
          · rename_i ms hms
            simp only [store, hb, hn, hms, setG_eq, forceK_eq]
            cases hc : (decide (fl ≤ _) && Nat.beq (lenR ms) n && Nat.ble _ (lenR L)) with
            | true => simp only [cond_true, if_true]
            | false => simp only [cond_false, Bool.false_eq_true, if_false]
          · rfl
        · rfl
      · rfl
    · rfl
  · rfl
/-- Integers appended in place or anew, by tests. -/
def appQ2 {α : Type} (P : Program) (fl : Nat) (S : List Blk) (ats : List TypeId) (b n m : Nat) (dv sv : Value) (k : Value → List Blk → Option α) (d : Option α) : Option α :=
  match ats with
  | [t, t2] => if t = t2 then match P.underlying t with
    | some (.slice e) => match P.info? e with
      | some i => match i.zero with
        | some z => if Nat.beq z.cells.size i.size && Nat.ble 1 i.size && Nat.ble i.bytes 4096 then match getR S b with
            | some ⟨_, e2, _, some (.buf kd sz L)⟩ => match sliceInts S i.size sv with
              | some (tt, kd2, Ls) => bif tt then (bif Nat.beq m 0 then k dv S else
                  bif Nat.ble fl b && Nat.beq sz i.size && decide (e2 = e) && decide (kd2 = kd) && Nat.ble (n * i.size) (lenR L) && Nat.ble (n + m) 34359738368 then
                    setG S b deadBlk fun S1 => newK S1 ⟨[], e, false, some (.buf kd sz (apR (takeR L (n * i.size)) Ls))⟩ fun b2 S' => k (.slice (some ⟨b2, 0, none⟩) (n + m) unk) S'
                  else none) else none
              | none => d
            | _ => d
          else d
        | none => d
      | none => d
    | _ => d
    else d
  | _ => d
def appQ {α : Type} (P : Program) (fl : Nat) (S : List Blk) (ats : List TypeId) (vs : List Value) (k : Value → List Blk → Option α) (d : Option α) : Option α :=
  match vs with
  | [.slice (some ⟨b, 0, none⟩) n c, .slice (some ⟨b3, o3, none⟩) m c3] => match Nat.beq c unk with
    | true => appQ2 P fl S ats b n m (.slice (some ⟨b, 0, none⟩) n c) (.slice (some ⟨b3, o3, none⟩) m c3) k d
    | false => d
  | _ => d
theorem unk_no {a b : Option Addr} {n m : Nat} (h : Value.slice a n unk = Value.slice b m 0) : False := by
  injection h with _ _ h3
  exact absurd h3 (by decide)
theorem appendC_unk {P : Program} {S : List Blk} {ats : List TypeId} {a : Option Addr} {n : Nat} {s : Value} : appendC P S ats (.slice a n unk) s = none := by
  unfold appendC
  repeat' split
  all_goals first | rfl | exact (unk_no ‹_›).elim
theorem appendZ_unk {P : Program} {S : List Blk} {ats : List TypeId} {a : Option Addr} {n : Nat} {s : Value} : appendZ P S ats (.slice a n unk) s = none := by
  unfold appendZ
  repeat' split
  all_goals first | rfl | exact (unk_no ‹_›).elim
theorem appendE_buf {P : Program} {fl : Nat} {S : List Blk} {ats : List TypeId} {b n : Nat} {s : Value} {cs0 : List Value} {e2 : TypeId} {ro : Bool} {kd : IntKind} {sz : Nat} {L : List Int} (hb : getR S b = some ⟨cs0, e2, ro, some (.buf kd sz L)⟩) :
    appendE P fl S ats (.slice (some ⟨b, 0, none⟩) n unk) s = none := by
  unfold appendE
  repeat' split
  all_goals first
    | rfl
    | exact (unk_no ‹_›).elim
    | (rename_i hk _; rw [hb] at hk; cases hk; done)
    | (exfalso; rename_i h1 _ _ _ _ _ hk _; cases h1; rw [hb] at hk; cases hk; done)
    | skip
theorem appendF_unk {P : Program} {fl : Nat} {S : List Blk} {ats : List TypeId} {a : Option Addr} {n : Nat} {s : Value} : appendF P fl S ats (.slice a n unk) s = none := by
  unfold appendF
  repeat' split
  all_goals first
    | rfl
    | skip
  all_goals
    rename_i hc
    simp only [Bool.and_eq_true, Nat.blt_eq, Nat.ble_eq] at hc
    exfalso
    rename_i h1 _ _ _
    injection h1 with _ _ h3
    have h4 := hc.1
    have h5 := hc.2
    rw [← h3] at h4
    have : unk < 34359738368 + 1 := by omega
    exact absurd this (by decide)
def callQ {α : Type} (P : Program) (gl : Nat) (cl : CallerK α) (rd : RoundK α) (fl : Nat) (c : Call) (T : List Value) (S : List Blk) (k : Value → List Blk → Option α) (d : Option α) : Option α :=
  match c with
  | { callee := .value f, args, .. } => opdK gl T f fun g => opdsK gl T args.toList fun vs => retQ cl rd fl S (callee P g vs) k
  | { callee := .builtin .len, args, argTypes } => opdsK gl T args.toList fun vs => lenQ P vs argTypes S k d
  | { callee := .builtin .append, args, argTypes } => opdsK gl T args.toList fun vs => appQ P fl S argTypes.toList vs k d
  | _ => d
def opK {α : Type} (P : Program) (gl : Nat) (cl : CallerK α) (rd : RoundK α) (fl : Nat) (o : Oper) (T : List Value) (S : List Blk) (k : Value → List Blk → Option α) : Option α :=
  match o.op with
  | .move x => opdK gl T x fun v => k v S
  | .assign x => opdK gl T x fun v => k v S
  | .binOp op _ x y _ => opdK gl T x fun u => opdK gl T y fun v => binQ op u v (fun v => k v S) (opO P gl cl rd fl o T S k)
  | .load t x => opdK gl T x fun p => loadQ P t S p k (opO P gl cl rd fl o T S k)
  | .store t x y => opdK gl T x fun p => opdK gl T y fun v => storeQ P fl t S p v k (match store P fl t S p v with
    | some S' => k undef S'
    | none => none)
  | .fieldAddr t x f => opdK gl T x fun p => match fieldP P t f p with
    | some v => k v S
    | none => none
  | .indexAddr t x i => opdK gl T x fun u => opdK gl T i fun v => idxQ P t S u v k (opO P gl cl rd fl o T S k)
  | .call c => callQ P gl cl rd fl c T S k (opO P gl cl rd fl o T S k)
  | _ => opO P gl cl rd fl o T S k
theorem opK_eqO {α : Type} (P : Program) (gl : Nat) (cl : CallerK α) (rd : RoundK α) (fl : Nat) (o : Oper) (T : List Value) (S : List Blk) (k : Value → List Blk → Option α) : opK P gl cl rd fl o T S k = opO P gl cl rd fl o T S k := by
  unfold opK
  split
  · rename_i x ho
    rw [opdK_eq]
    simp only [opO, ho, condOp, condMem, condStr, mapK, appendK, evOp]
    cases opd gl T x <;> rfl
  · rename_i x ho
    rw [opdK_eq]
    simp only [opO, ho, condOp, condMem, condStr, mapK, appendK, evOp]
    cases opd gl T x <;> rfl
  · rename_i op ty x y z ho
    simp only [opdK_eq]
    cases hx : opd gl T x with
    | none => simp [opO, ho, condOp, condMem, condStr, mapK, appendK, evOp, hx, pureTry, Op.operands, opds]
    | some u =>
      cases hy : opd gl T y with
      | none => simp [opO, ho, condOp, condMem, condStr, mapK, appendK, evOp, hx, hy, pureTry, Op.operands, opds]
      | some v =>
        simp only
        unfold binQ
        split
        · split
          · rename_i j a l b
            unfold binI
            split
            · simp only [opO, ho, condOp, hx, hy]
            · simp only [opO, ho, condOp, hx, hy]
            · split
              · rename_i hjl
                subst hjl
                split
                · rename_i v2 hv
                  cases op <;> first | (simp only [fastBin, reduceCtorEq] at hv; done) | simp only [opO, ho, condOp, condMem, condStr, mapK, appendK, evOp, hx, hy, if_true, hv]
                · rfl
              · rfl
          · rfl
        · rfl
  · rename_i t x ho
    rw [opdK_eq]
    cases hx : opd gl T x with
    | none => simp only [opO, ho, condOp, condMem, condStr, mapK, appendK, evOp, hx]
    | some p =>
      simp only
      unfold loadQ
      split
      · rename_i b off
        split
        · rename_i cs e2 ro hb
          have hb2 := hb
          rw [getR_eq] at hb2
          simp only [opO, ho, condOp, condMem, condStr, mapK, appendK, evOp, hx, load, hb, hb2]
          cases readAt P t cs off <;> rfl
        · rename_i cs e2 ro sz hb
          have hb2 := hb
          rw [getR_eq] at hb2
          simp only [opO, ho, condOp, condMem, condStr, mapK, appendK, evOp, hx, load, hb, hb2]
          cases readAt P t cs off <;> rfl
        · rfl
      · rfl
  · rename_i t x y ho
    simp only [opdK_eq]
    simp only [opO, ho, condOp, condMem, condStr, mapK, appendK, evOp]
    cases opd gl T x with
    | none => rfl
    | some p => cases opd gl T y with
      | none => rfl
      | some v =>
        simp only [storeQ_eq]
        cases store P fl t S p v <;> rfl
  · rename_i t x f ho
    rw [opdK_eq]
    simp only [opO, ho, condOp, condMem, condStr, mapK, appendK, evOp]
    cases opd gl T x with
    | none => rfl
    | some p =>
      simp only
      cases fieldP P t f p <;> rfl
  · rename_i t x i ho
    simp only [opdK_eq]
    cases hx : opd gl T x with
    | none => simp only [opO, ho, condOp, condMem, condStr, mapK, appendK, evOp, hx]
    | some u =>
      cases hi : opd gl T i with
      | none =>
        cases u with
        | slice ad n c => cases ad with
          | none => simp only [opO, ho, condOp, condMem, condStr, mapK, appendK, evOp, hx, hi]
          | some ad => obtain ⟨b, off, s⟩ := ad; cases s <;> simp only [opO, ho, condOp, condMem, condStr, mapK, appendK, evOp, hx, hi]
        | pointer ad => cases ad with
          | none => simp only [opO, ho, condOp, condMem, condStr, mapK, appendK, evOp, hx, hi]
          | some ad => obtain ⟨b, off, s⟩ := ad; cases s <;> simp only [opO, ho, condOp, condMem, condStr, mapK, appendK, evOp, hx, hi]
        | _ => simp only [opO, ho, condOp, condMem, condStr, mapK, appendK, evOp, hx, hi]
      | some v =>
        simp only
        unfold idxQ
        split
        · split
          · split
            · split
              · rename_i hu _ sz hz
                simp only [opO, ho, condOp, condMem, sliceE, hx, hi, hu, hz]
              · rfl
            · rfl
          · split
            · split
              · rename_i hu _ sz hz
                simp only [opO, ho, condOp, condMem, sliceE, hx, hi, hu, hz]
              · rfl
            · rfl
          · rfl
        · rfl
  · rename_i c ho
    unfold callQ
    split
    · rename_i f args ats
      simp only [opdK_eq, opdsK_eq]
      simp only [opO, ho, condOp, condMem, condStr, mapK, appendK, evOp]
      cases opd gl T f with
      | none => rfl
      | some g => cases opds gl T args.toList with
        | none => rfl
        | some vs => rfl
    · rename_i args ats
      simp only [opdsK_eq]
      cases hv : opds gl T args.toList with
      | none => simp [opO, ho, condOp, condMem, condStr, mapK, appendK, evOp, hv, pureTry, Op.operands, Call.operands]
      | some vs =>
        simp only
        unfold lenQ
        split
        · split
          · split
            · rename_i tt ht _ ee hu
              simp only [opO, ho, condOp, condMem, condStr, mapK, appendK, evOp, hv, ht, hu]
            · rfl
          · rfl
        · rfl
    · rename_i args ats
      simp only [opdsK_eq]
      cases hv : opds gl T args.toList with
      | none => simp only [opO, ho, condOp, condMem, condStr, mapK, appendK, evOp, hv]
      | some vs =>
        simp only
        unfold appQ
        split
        · rename_i b n c b3 o3 m c3
          split
          · rename_i hc
            obtain rfl : c = unk := Nat.eq_of_beq_eq_true hc
            unfold appQ2
            split
            · rename_i t t2 hat
              split
              · rename_i htt
                subst htt
                split
                · rename_i e hu
                  split
                  · rename_i i hi
                    split
                    · rename_i z hz
                      split
                      · rename_i hcond
                        split
                        · rename_i cs0 e2 ro kd sz L hb
                          split
                          · rename_i tt kd2 Ls hsl
                            simp only [opO, ho, condOp, condMem, condStr, mapK, appendK, evOp, hv, hat, appendP, appendC_unk, appendZ_unk, appendE_buf hb, appendF_unk, appendQ_slice, appendD, if_true, hu, hi, hz, hcond, hb, hsl, setG_eq, newK_eq, apR_eq, appG_eq]
                            cases tt with
                            | false => rfl
                            | true =>
                              simp only [cond_true]
                              cases m with
                              | zero => rfl
                              | succ m =>
                                simp only [Nat.beq_refl, Bool.true_and]
                                have h0 : Nat.beq (m + 1) 0 = false := rfl
                                rw [h0, cond_false]
                                cases hq : (Nat.ble fl b && Nat.beq sz i.size && decide (e2 = e) && decide (kd2 = kd) && Nat.ble (n * i.size) (lenR L) && Nat.ble (n + (m + 1)) 34359738368) with
                                | true => rw [lenR_eq] at hq; simp only [hq, cond_true, if_true]
                                | false => rw [lenR_eq] at hq; simp only [hq, cond_false, Bool.false_eq_true, if_false]
                          · rfl
                        · rfl
                      · rfl
                    · rfl
                  · rfl
                · rfl
              · rfl
            · rfl
          · rfl
        · rfl
    · rfl
  · rfl

/- The same once more, by tags: what hangs on the operation alone is reckoned once. -/
def vint {β : Type} (v : Value) (f : IntKind → Int → β) (d : β) : β :=
  @Value.rec (fun _ => β) (fun _ => PUnit) (fun _ => PUnit) (fun _ => d) f (fun _ _ => d) (fun _ _ _ => d) (fun _ => d) (fun _ => d) (fun _ _ _ => d) (fun _ => d) (fun _ => d) (fun _ _ _ _ _ => d) d (fun _ _ _ => d) d (fun _ _ => d) (fun _ _ => d) (fun _ _ => ⟨⟩) ⟨⟩ (fun _ _ _ _ => ⟨⟩) v
def vptr {β : Type} (v : Value) (f : Option Addr → β) (d : β) : β :=
  @Value.rec (fun _ => β) (fun _ => PUnit) (fun _ => PUnit) (fun _ => d) (fun _ _ => d) (fun _ _ => d) (fun _ _ _ => d) (fun _ => d) f (fun _ _ _ => d) (fun _ => d) (fun _ => d) (fun _ _ _ _ _ => d) d (fun _ _ _ => d) d (fun _ _ => d) (fun _ _ => d) (fun _ _ => ⟨⟩) ⟨⟩ (fun _ _ _ _ => ⟨⟩) v
def vslc {β : Type} (v : Value) (f : Option Addr → Nat → Nat → β) (d : β) : β :=
  @Value.rec (fun _ => β) (fun _ => PUnit) (fun _ => PUnit) (fun _ => d) (fun _ _ => d) (fun _ _ => d) (fun _ _ _ => d) (fun _ => d) (fun _ => d) f (fun _ => d) (fun _ => d) (fun _ _ _ _ _ => d) d (fun _ _ _ => d) d (fun _ _ => d) (fun _ _ => d) (fun _ _ => ⟨⟩) ⟨⟩ (fun _ _ _ _ => ⟨⟩) v
def vbool {β : Type} (v : Value) (f : Bool → β) (d : β) : β :=
  @Value.rec (fun _ => β) (fun _ => PUnit) (fun _ => PUnit) f (fun _ _ => d) (fun _ _ => d) (fun _ _ _ => d) (fun _ => d) (fun _ => d) (fun _ _ _ => d) (fun _ => d) (fun _ => d) (fun _ _ _ _ _ => d) d (fun _ _ _ => d) d (fun _ _ => d) (fun _ _ => d) (fun _ _ => ⟨⟩) ⟨⟩ (fun _ _ _ _ => ⟨⟩) v
def vtup {β : Type} (v : Value) (f : Array Value → β) (d : β) : β :=
  @Value.rec (fun _ => β) (fun _ => PUnit) (fun _ => PUnit) (fun _ => d) (fun _ _ => d) (fun _ _ => d) (fun _ _ _ => d) (fun _ => d) (fun _ => d) (fun _ _ _ => d) (fun _ => d) (fun _ => d) (fun _ _ _ _ _ => d) d (fun _ _ _ => d) d (fun _ _ => d) (fun x _ => f x) (fun _ _ => ⟨⟩) ⟨⟩ (fun _ _ _ _ => ⟨⟩) v
def vagg {β : Type} (v : Value) (f : Array Value → β) (d : β) : β :=
  @Value.rec (fun _ => β) (fun _ => PUnit) (fun _ => PUnit) (fun _ => d) (fun _ _ => d) (fun _ _ => d) (fun _ _ _ => d) (fun _ => d) (fun _ => d) (fun _ _ _ => d) (fun _ => d) (fun _ => d) (fun _ _ _ _ _ => d) d (fun _ _ _ => d) d (fun x _ => f x) (fun _ _ => d) (fun _ _ => ⟨⟩) ⟨⟩ (fun _ _ _ _ => ⟨⟩) v
/-- A value of one cell. -/
def vone {β : Type} (v : Value) (a d : β) : β :=
  @Value.rec (fun _ => β) (fun _ => PUnit) (fun _ => PUnit) (fun _ => a) (fun _ _ => a) (fun _ _ => a) (fun _ _ _ => a) (fun _ => a) (fun _ => a) (fun _ _ _ => a) (fun _ => a) (fun _ => d) (fun _ _ _ _ _ => a) a (fun _ _ _ => a) a (fun _ _ => d) (fun _ _ => d) (fun _ _ => ⟨⟩) ⟨⟩ (fun _ _ _ _ => ⟨⟩) v
def addrK {β : Type} (a : Option Addr) (f : Nat → Nat → β) (d : β) : β :=
  @Option.rec Addr (fun _ => β) d (fun ad => @Addr.rec (fun _ => β) (fun b o s => @Option.rec Nat (fun _ => β) (f b o) (fun _ => d) s) ad) a
/-- A block of cells that may be read. -/
def blkR {β : Type} (q : Option Blk) (f : List Value → β) (d : β) : β :=
  @Option.rec Blk (fun _ => β) d (fun b => @Blk.rec (fun _ => β) (fun cs _ _ ob => @Option.rec SObj (fun _ => β) (f cs) (fun s => @SObj.rec (fun _ => β) (fun _ => d) (fun _ _ => d) (fun _ _ => d) (fun _ _ => d) (fun _ _ _ => d) (fun _ _ _ => d) (fun _ => f cs) (fun _ _ _ _ => d) d s) ob) b) q
/-- A block of cells that is no other thing. -/
def blkW {β : Type} (q : Option Blk) (f : List Value → TypeId → Bool → β) (d : β) : β :=
  @Option.rec Blk (fun _ => β) d (fun b => @Blk.rec (fun _ => β) (fun cs e ro ob => @Option.rec SObj (fun _ => β) (f cs e ro) (fun _ => d) ob) b) q
def kindN (k : IntKind) : Nat := @IntKind.rec (fun _ => Nat) 0 1 2 3 4 5 6 7 k
theorem kindN_inj {j k : IntKind} (h : Nat.beq (kindN j) (kindN k) = true) : j = k := by
  cases j <;> cases k <;> first | rfl | cases h
theorem kindN_ne {j k : IntKind} (h : Nat.beq (kindN j) (kindN k) = false) : j ≠ k := by
  rintro rfl
  rw [Nat.beq_refl] at h
  cases h
def opdR {α : Type} (gl : Nat) (T : List Value) (x : Operand) (k : Value → Option α) : Option α :=
  @Operand.rec (fun _ => Option α) (fun t => nthK T t k) (fun v => bif plain v then k v else none) (fun g => bif Nat.blt g gl then k (.pointer (some ⟨g, 0, none⟩)) else none) (fun f => k (.func (.func f) #[] #[])) x
theorem opdR_eq {α : Type} (gl : Nat) (T : List Value) (x : Operand) (k : Value → Option α) : opdR gl T x k = opdK gl T x k := by
  cases x with
  | tmp t => rfl
  | const v => simp only [opdR, opdK]; cases plain v <;> rfl
  | global g =>
    simp only [opdR, opdK]
    cases h : Nat.blt g gl with
    | true => rw [cond_true, if_pos (by simpa using h)]
    | false => rw [cond_false, if_neg fun e => by rw [show Nat.blt g gl = true from Nat.ble_eq_true_of_le e] at h; cases h]
  | func f => rfl
def opdsR {α : Type} (gl : Nat) (T : List Value) (l : List Operand) : (List Value → Option α) → Option α :=
  List.rec (fun k => k []) (fun x _ ih k => opdR gl T x fun v => ih fun vs => k (v :: vs)) l
theorem opdsR_eq {α : Type} (gl : Nat) (T : List Value) (l : List Operand) (k : List Value → Option α) : opdsR gl T l k = opdsK gl T l k := by
  induction l generalizing k with
  | nil => rfl
  | cons x l ih =>
    show opdR gl T x (fun v => opdsR gl T l fun vs => k (v :: vs)) = opdK gl T x fun v => opdsK gl T l fun vs => k (v :: vs)
    rw [opdR_eq]
    congr 1
    exact funext fun v => ih _

inductive Tag where
  | mv (x : Operand)
  | ar (F : IntKind → Int → Int → Value) (x y : Operand)
  | ld (x : Operand)
  | st (t : TypeId) (x y : Operand)
  | fa (off : Nat) (x : Operand)
  | ia (sz : Nat) (x i : Operand)
  | cv (f : Operand) (args : List Operand)
  | al (cells : List Value) (t : TypeId)
  | bx (t : TypeId) (x : Operand)
  | bs (t : TypeId) (len : Nat) (is : List Nat) (xs : List Operand)
  | mf (f : FuncId) (first captured : List Operand)
  | ex (x : Operand) (i : Nat)
  | cn (j : IntKind) (x : Operand)
  | fd (off : Nat) (x : Operand)
  | la (n : Nat) (x : Operand)
  | s2 (t : TypeId) (x y : Operand)
  | bd (zs : List Value) (ps : List (Nat × Nat)) (xs : List Operand)
  | bq (e t : TypeId) (len : Nat) (xs : List Operand)
  | nt (x : Operand)
  | ix (t : TypeId) (x i : Operand)
  | ev
  | old
abbrev HanT (α : Type) := Program → Nat → CallerK α → RoundK α → Nat → Oper → List Value → List Blk → (Value → List Blk → Option α) → Option α
section
variable {α : Type}
def hMv (x : Operand) : HanT α := fun _ gl _ _ _ _ T S k => opdR gl T x fun v => k v S
def hAr (F : IntKind → Int → Int → Value) (x y : Operand) : HanT α := fun P gl cl rd fl o T S k =>
  opdR gl T x fun u => opdR gl T y fun v => vint u (fun j a => vint v (fun l b => bif Nat.beq (kindN j) (kindN l) then k (F j a b) S else opO P gl cl rd fl o T S k) (opO P gl cl rd fl o T S k)) (opO P gl cl rd fl o T S k)
def hLd (x : Operand) : HanT α := fun P gl cl rd fl o T S k =>
  opdR gl T x fun p => vptr p (fun a => addrK a (fun b off => blkR (getR S b) (fun cs => @Option.rec Value (fun _ => Option α) none (fun v => k v S) (getR cs off)) (opO P gl cl rd fl o T S k)) (opO P gl cl rd fl o T S k)) (opO P gl cl rd fl o T S k)
def stO (P : Program) (fl : Nat) (t : TypeId) (S : List Blk) (p v : Value) (k : Value → List Blk → Option α) : Option α := storeQ P fl t S p v k (match store P fl t S p v with
    | some S' => k undef S'
    | none => none)
def hSt (t : TypeId) (x y : Operand) : HanT α := fun P gl _ _ fl _ T S k =>
  opdR gl T x fun p => opdR gl T y fun v => vptr p (fun a => addrK a (fun b off => blkW (getR S b) (fun cs e ro => vone v (bif Nat.ble fl b && !ro then @Option.rec Value (fun _ => Option α) none (fun _ => setK cs off v fun cs' => setG S b ⟨cs', e, ro, none⟩ fun S' => k undef S') (getR cs off) else none) (stO P fl t S p v k)) (stO P fl t S p v k)) (stO P fl t S p v k)) (stO P fl t S p v k)
def hFa (off : Nat) (x : Operand) : HanT α := fun _ gl _ _ _ _ T S k =>
  opdR gl T x fun p => vptr p (fun a => @Option.rec Addr (fun _ => Option α) none (fun ad => k (.pointer (some (ad.add off))) S) a) none
def hIa (sz : Nat) (x i : Operand) : HanT α := fun P gl cl rd fl o T S k =>
  opdR gl T x fun u => opdR gl T i fun v => vint v (fun _ j => vslc u (fun a n _ => addrK a (fun b off => bif decide (0 ≤ j) && decide (j < (n : Int)) then k (.pointer (some ⟨b, off + j.toNat * sz, none⟩)) S else none) (opO P gl cl rd fl o T S k)) (opO P gl cl rd fl o T S k)) (opO P gl cl rd fl o T S k)
def hCv (f : Operand) (args : List Operand) : HanT α := fun P gl cl rd fl _ T S k =>
  opdR gl T f fun g => opdsR gl T args fun vs => retQ cl rd fl S (callee P g vs) k
def hAl (cells : List Value) (t : TypeId) : HanT α := fun _ _ _ _ _ _ _ S k => newK S ⟨cells, t, false, none⟩ fun b2 S' => k (.pointer (some ⟨b2, 0, none⟩)) S'
def hBx (t : TypeId) (x : Operand) : HanT α := fun _ gl _ _ _ _ T S k =>
  opdR gl T x fun v => bif isJ v then none else forceK v.cells.toList fun cs => newK S ⟨cs, t, false, none⟩ fun b2 S' => k (.pointer (some ⟨b2, 0, none⟩)) S'
def hBs (t : TypeId) (len : Nat) (is : List Nat) (xs : List Operand) : HanT α := fun P gl _ _ _ _ T S k =>
  opdsR gl T xs fun vs => bif vs.all plain then (match buildSliceCells P t len (is.zip vs).toArray with
        | some (elem, cells) => bif allR scalar cells.toList then newK S ⟨cells.toList, elem, false, none⟩ fun b2 S' => k (.slice (some ⟨b2, 0, none⟩) len len) S' else none
        | none => none)
      else bif vs.any isJ then none else bif zeroOk P t then (match buildSliceCells P t len (is.zip vs).toArray with
        | some (elem, cells) => forceK cells.toList fun cs => newK S ⟨cs, elem, false, none⟩ fun b2 S' => k (.slice (some ⟨b2, 0, none⟩) len len) S'
        | none => none)
      else none
def hMf (f : FuncId) (first captured : List Operand) : HanT α := fun _ gl _ _ _ _ T S k =>
  opdsR gl T first fun xs => opdsR gl T captured fun cs => k (.func (.func f) xs.toArray cs.toArray) S
def hEx (x : Operand) (i : Nat) : HanT α := fun P gl cl rd fl o T S k =>
  opdR gl T x fun u => vtup u (fun xs => @Option.rec Value (fun _ => Option α) none (fun v => k v S) (getR xs.toList i)) (opO P gl cl rd fl o T S k)
def hCn (j : IntKind) (x : Operand) : HanT α := fun P gl cl rd fl o T S k =>
  opdR gl T x fun u => vint u (fun _ n => k (.int j (j.wrap n)) S) (opO P gl cl rd fl o T S k)
def hFd (off : Nat) (x : Operand) : HanT α := fun P gl cl rd fl o T S k =>
  opdR gl T x fun u => vagg u (fun xs => @Option.rec Value (fun _ => Option α) none (fun v => k v S) (getR xs.toList off)) (opO P gl cl rd fl o T S k)
def hEv : HanT α := fun P gl cl rd fl o T S k => retQ cl rd fl S (evOp P gl fl o T S) k
def hOld : HanT α := fun P gl cl rd fl o T S k => opK P gl cl rd fl o T S k
end
/-- Parts set one after the other. -/
def fillL {β : Type} (ps : List (Nat × Nat)) : List Value → List Value → (List Value → β) → β → β :=
  List.rec (fun zs _ k _ => k zs) (fun p _ ih zs vs k d => @List.rec Value (fun _ => β) (k zs) (fun v us _ => bif Nat.beq (lenR v.cells.toList) p.2 && Nat.ble (p.1 + p.2) (lenR zs) then forceK (writeAt zs p.1 v.cells.toList) fun z => ih z us k d else d) vs) ps
section
variable {α : Type}
def hLa (n : Nat) (x : Operand) : HanT α := fun P gl cl rd fl o T S k =>
  opdR gl T x fun p => vptr p (fun a => addrK a (fun b off => blkR (getR S b) (fun cs => bif Nat.ble (off + n) (lenR cs) then forceK (takeR (dropR cs off) n) fun l => k (.agg l.toArray) S else none) (opO P gl cl rd fl o T S k)) (opO P gl cl rd fl o T S k)) (opO P gl cl rd fl o T S k)
def hS2 (t : TypeId) (x y : Operand) : HanT α := fun P gl _ _ fl _ T S k =>
  opdR gl T x fun p => opdR gl T y fun v => stO P fl t S p v k
def hBd (zs : List Value) (ps : List (Nat × Nat)) (xs : List Operand) : HanT α := fun P gl cl rd fl o T S k =>
  opdsR gl T xs fun vs => bif vs.any isJ then none else fillL ps zs vs (fun l => k (.agg l.toArray) S) (opO P gl cl rd fl o T S k)
def voneB (v : Value) : Bool := vone v true false
def hBq (e _t : TypeId) (len : Nat) (xs : List Operand) : HanT α := fun P gl cl rd fl o T S k =>
  opdsR gl T xs fun vs => bif allR voneB vs then newK S ⟨vs, e, false, none⟩ fun b2 S' => k (.slice (some ⟨b2, 0, none⟩) len len) S' else opO P gl cl rd fl o T S k
def hNt (x : Operand) : HanT α := fun P gl cl rd fl o T S k =>
  opdR gl T x fun u => vbool u (fun b => k (.bool (!b)) S) (opO P gl cl rd fl o T S k)
end
def hIx {α : Type} (t : TypeId) (x i : Operand) : HanT α := fun P gl cl rd fl o T S k =>
  opdR gl T x fun u => opdR gl T i fun v => vagg u (fun xs => vint v (fun _ j => @Option.rec Value (fun _ => Option α) none (fun w => k w S) (indexV P t j xs.toList)) (opO P gl cl rd fl o T S k)) (opO P gl cl rd fl o T S k)
/-- What integers come to. -/
def arF : BinOp → Option (IntKind → Int → Int → Value)
  | .add => some fun k a b => .int k (k.wrap (a + b))
  | .sub => some fun k a b => .int k (k.wrap (a - b))
  | .mul => some fun k a b => .int k (k.wrap (a * b))
  | .eql => some fun _ a b => .bool (a == b)
  | .neq => some fun _ a b => .bool (a != b)
  | .lss => some fun _ a b => .bool (a < b)
  | .leq => some fun _ a b => .bool (a ≤ b)
  | .gtr => some fun _ a b => .bool (a > b)
  | .geq => some fun _ a b => .bool (a ≥ b)
  | .and => some fun k a b => .int k (k.wrap ((BitVec.ofInt k.bits a &&& BitVec.ofInt k.bits b).toNat : Nat))
  | .or => some fun k a b => .int k (k.wrap ((BitVec.ofInt k.bits a ||| BitVec.ofInt k.bits b).toNat : Nat))
  | .xor => some fun k a b => .int k (k.wrap ((BitVec.ofInt k.bits a ^^^ BitVec.ofInt k.bits b).toNat : Nat))
  | .andNot => some fun k a b => .int k (k.wrap ((BitVec.ofInt k.bits a &&& ~~~ BitVec.ofInt k.bits b).toNat : Nat))
  | _ => none
theorem arF_fast {op : BinOp} {F : IntKind → Int → Int → Value} (h : arF op = some F) (k : IntKind) (a b : Int) : fastBin op k a b = some (F k a b) ∧ op ≠ .shl ∧ op ≠ .shr := by
  cases op <;> first | (cases h; done) | (cases h; exact ⟨rfl, by simp, by simp⟩)
/-- A slice of one-celled parts, all given. -/
def elemT (P : Program) (t : TypeId) : TypeId := match P.underlying t with
  | some (.slice e) => e
  | _ => 0
def sameL : List Nat → Nat → Bool
  | [], _ => true
  | i :: l, n => Nat.beq i n && sameL l (n + 1)
def bqOk (P : Program) (t : TypeId) (len : Nat) (is : List Nat) : Bool := match P.underlying t with
  | some (.slice e) => match P.info? e with
    | some i => match i.zero with
      | some _ => zeroOk P t && Nat.beq i.size 1 && Nat.ble 1 len && Nat.ble len 16777216 && Nat.beq (lenR is) len && sameL is 0
      | none => false
    | none => false
  | _ => false
def pickPs (pl : List (Nat × Nat)) : List Nat → Option (List (Nat × Nat))
  | [] => some []
  | i :: is => match pl[i]?, pickPs pl is with
    | some p, some ps => some (p :: ps)
    | _, _ => none
def bdOk (P : Program) (t : TypeId) (is : List Nat) : Option (List Value × List (Nat × Nat)) := match P.underlying t with
  | some (.struct fields) => match zeroT P t with
    | some z => match placesOf P fields.toList with
      | some places => bif z.cells.toList.all scalar then (match pickPs places is with
        | some ps => forceK z.cells.toList fun zs => forceK ps fun ps => some (zs, ps)
        | none => none) else none
      | none => none
    | none => none
  | _ => none
def tagOf (P : Program) (o : Oper) : Tag :=
  match o.op with
  | .move x => .mv x
  | .assign x => .mv x
  | .binOp op _ x y _ => match arF op with
    | some F => .ar F x y
    | none => .old
  | .load t x => match isAggT P t with
    | some false => .ld x
    | some true => match sizeT P t with
      | some n => .la n x
      | none => .old
    | none => .old
  | .store t x y => match sizeT P t with
    | some 1 => .st t x y
    | _ => .s2 t x y
  | .fieldAddr s x f => match P.underlying s with
    | some (.struct fs) => match fs[f]? with
      | some fd => match sizeT P fd.type with
        | some (_ + 1) => .fa fd.offset x
        | _ => .old
      | none => .old
    | _ => .old
  | .indexAddr t x i => match P.underlying t with
    | some (.slice e) => match sizeT P e with
      | some sz => .ia sz x i
      | none => .old
    | _ => .old
  | .call { callee := .value f, args, .. } => .cv f args.toList
  | .alloc t => match zeroT P t with
    | some z => bif allR scalar z.cells.toList then forceK z.cells.toList fun cs => .al cs t else .old
    | none => .old
  | .box t x => .bx t x
  | .buildSlice t len parts => bif bqOk P t len (parts.toList.map (·.1)) then .bq (elemT P t) t len (parts.toList.map (·.2)) else .bs t len (parts.toList.map (·.1)) (parts.toList.map (·.2))
  | .makeFunc (.func f) first captured => .mf f first.toList captured.toList
  | .extract x i => .ex x i
  | .convert s d x => match P.underlying s, P.underlying d with
    | some _, some (.int j) => .cn j x
    | _, _ => .old
  | .field t x f => match P.underlying t with
    | some (.struct fs) => match fs[f]? with
      | some fd => match isAggT P fd.type with
        | some false => .fd fd.offset x
        | _ => .old
      | none => .old
    | _ => .old
  | .makeMap _ none => .ev
  | .build t parts => match bdOk P t (parts.toList.map (·.1)) with
    | some (zs, ps) => .bd zs ps (parts.toList.map (·.2))
    | none => .ev
  | .unOp .not _ x => .nt x
  | .index t x i => .ix t x i
  | _ => .old
def opT {α : Type} (P : Program) (gl : Nat) (cl : CallerK α) (rd : RoundK α) (fl : Nat) (o : Oper) (T : List Value) (S : List Blk) (k : Value → List Blk → Option α) : Option α :=
  @Tag.rec (fun _ => HanT α) hMv hAr hLd hSt hFa hIa hCv hAl hBx hBs hMf hEx hCn hFd hLa hS2 hBd hBq hNt hIx hEv hOld (tagOf P o) P gl cl rd fl o T S k
theorem opds_len {gl : Nat} {T : List Value} : ∀ {l : List Operand} {vs : List Value}, opds gl T l = some vs → vs.length = l.length
  | [], vs, h => by cases h; rfl
  | x :: l, vs, h => by
    simp only [opds] at h
    split at h
    · rename_i v us h1 h2
      cases h
      simp [opds_len h2]
    · cases h
theorem writeAt_eqO2 (l : List Value) (o : Nat) (vs : List Value) : writeAt l o vs = writeAtO l o vs := by
  induction vs generalizing l o with
  | nil => rfl
  | cons v vs ih => simp only [writeAt, writeAtO, setG_eq]; exact ih _ _
theorem foldl_write (off : Nat) : ∀ (l : List Value) (i : Nat) (cs : Array Value), ((l.zipIdx i).foldl (fun cs p => cs.setIfInBounds (off + p.2) p.1) cs).toList = writeAtO cs.toList (off + i) l
  | [], _, _ => rfl
  | v :: l, i, cs => by
    simp only [List.zipIdx_cons, List.foldl_cons, writeAtO]
    rw [foldl_write off l (i + 1)]
    simp only [Array.toList_setIfInBounds]
    rfl
theorem fillL_eq {β : Type} {place : Nat → Option (Nat × Nat)} {k : List Value → β} {d : β} : ∀ (is : List Nat) (ps : List (Nat × Nat)) (zs : Array Value) (vs : List Value), ps.length = is.length → (∀ (j : Nat) i p, is[j]? = some i → ps[j]? = some p → place i = some p) →
    fillL ps zs.toList vs k d = match Instr.fill place zs (is.zip vs) with
      | some cells => k cells.toList
      | none => d
  | [], [], zs, vs, _, _ => by rw [List.zip_nil_left]; rfl
  | [], _ :: _, _, _, h, _ => by cases h
  | _ :: _, [], _, _, h, _ => by cases h
  | i :: is, p :: ps, zs, [], _, _ => by rw [List.zip_nil_right]; rfl
  | i :: is, p :: ps, zs, v :: vs, hl, hp => by
    have h0 := hp 0 i p rfl rfl
    obtain ⟨off, size⟩ := p
    show (bif Nat.beq (lenR v.cells.toList) size && Nat.ble (off + size) (lenR zs.toList) then forceK (writeAt zs.toList off v.cells.toList) fun z => fillL ps z vs k d else d) = _
    simp only [List.zip_cons_cons, Instr.fill, h0, lenR_eq, forceK_eq, Array.length_toList]
    by_cases h1 : v.cells.size = size
    · by_cases h2 : off + size ≤ zs.size
      · have hc : (Nat.beq v.cells.size size && Nat.ble (off + size) zs.size) = true := by simp [h1, h2]
        rw [hc, cond_true, if_neg (by rw [h1]; simp; omega)]
        have hw : writeAt zs.toList off v.cells.toList = (v.cells.zipIdx.foldl (fun cs x => cs.setIfInBounds (off + x.2) x.1) zs).toList := by
          rw [writeAt_eqO2, ← Array.foldl_toList, Array.toList_zipIdx, foldl_write]
          rfl
        rw [hw]
        exact fillL_eq is ps _ vs (by simpa using hl) fun j i p a b => hp (j + 1) i p a b
      · have hc : Nat.ble (off + size) zs.size = false := by
          cases hq : Nat.ble (off + size) zs.size with
          | false => rfl
          | true => exact absurd (Nat.le_of_ble_eq_true hq) h2
        rw [hc, Bool.and_false, cond_false, if_pos (by rw [h1]; simp; omega)]
    · have hc : Nat.beq v.cells.size size = false := by
        cases hq : Nat.beq v.cells.size size with
        | false => rfl
        | true => exact absurd (Nat.eq_of_beq_eq_true hq) h1
      rw [hc, Bool.false_and, cond_false, if_pos (by simp [h1])]
theorem pickPs_len {pl : List (Nat × Nat)} : ∀ {is : List Nat} {ps : List (Nat × Nat)}, pickPs pl is = some ps → ps.length = is.length ∧ ∀ (j : Nat) i p, is[j]? = some i → ps[j]? = some p → pl[i]? = some p
  | [], ps, h => by cases h; exact ⟨rfl, fun j i p a => by simp at a⟩
  | i :: is, ps, h => by
    simp only [pickPs] at h
    split at h
    · rename_i p qs h1 h2
      cases h
      obtain ⟨h3, h4⟩ := pickPs_len h2
      refine ⟨by simp [h3], fun j i' p' a b => ?_⟩
      cases j with
      | zero => simp at a b; subst a; subst b; exact h1
      | succ j => exact h4 j i' p' (by simpa using a) (by simpa using b)
    · cases h
theorem vone_cells {v : Value} (h : voneB v = true) : v.cells.toList = [v] ∧ cellish v = true ∧ isJ v = false := by
  cases v <;> first | exact ⟨rfl, rfl, rfl⟩ | cases h
theorem vone_any : ∀ {vs : List Value}, allR voneB vs = true → vs.any isJ = false
  | [], _ => rfl
  | v :: vs, h => by
    rw [allR_eq, List.all_cons, Bool.and_eq_true, ← allR_eq] at h
    rw [List.any_cons, (vone_cells h.1).2.2, vone_any h.2]; rfl
theorem vone_plain : ∀ {vs : List Value}, allR voneB vs = true → vs.all plain = true → allR scalar vs = true
  | [], _, _ => rfl
  | v :: vs, h, hp => by
    rw [allR_eq, List.all_cons, Bool.and_eq_true, ← allR_eq] at h
    rw [List.all_cons, Bool.and_eq_true] at hp
    rw [allR_eq, List.all_cons, Bool.and_eq_true, ← allR_eq]
    refine ⟨?_, vone_plain h.2 hp.2⟩
    have h1 := h.1
    have h2 := hp.1
    cases v <;> first | exact h2 | cases h1
theorem fill_ones : ∀ (vs : List Value) (is : List Nat) (pre post : List Value), allR voneB vs = true → is.length = vs.length → post.length = vs.length → sameL is pre.length = true →
    Instr.fill (fun j => some (j * 1, 1)) (pre ++ post).toArray (is.zip vs) = some (pre ++ vs).toArray
  | [], is, pre, post, _, _, hp, _ => by
    have : post = [] := List.eq_nil_of_length_eq_zero hp
    subst this
    rw [List.zip_nil_right]
    rfl
  | v :: vs, [], _, _, _, h, _, _ => by cases h
  | v :: vs, i :: is, pre, [], _, _, h, _ => by cases h
  | v :: vs, i :: is, pre, p :: post, hv, hl, hp, hs => by
    rw [allR_eq, List.all_cons, Bool.and_eq_true, ← allR_eq] at hv
    simp only [sameL, Bool.and_eq_true, Nat.beq_eq] at hs
    obtain ⟨rfl, hs⟩ := hs
    have hc := (vone_cells hv.1).1
    have hsz : v.cells.size = 1 := by rw [← Array.length_toList, hc]; rfl
    have hw : v.cells.zipIdx.foldl (fun cs x => cs.setIfInBounds (pre.length * 1 + x.2) x.1) (pre ++ p :: post).toArray = ((pre ++ [v]) ++ post).toArray := by
      apply Array.toList_inj.1
      rw [← Array.foldl_toList, Array.toList_zipIdx, foldl_write, hc]
      simp [writeAtO]
    simp only [List.zip_cons_cons, Instr.fill, hsz]
    rw [if_neg (by simp)]
    rw [hw, fill_ones vs is (pre ++ [v]) post hv.2 (by simpa using hl) (by simpa using hp) (by simpa using hs)]
    simp
theorem opT_eqO {α : Type} (P : Program) (gl : Nat) (cl : CallerK α) (rd : RoundK α) (fl : Nat) (o : Oper) (T : List Value) (S : List Blk) (k : Value → List Blk → Option α) : opT P gl cl rd fl o T S k = opO P gl cl rd fl o T S k := by
  have old : hOld P gl cl rd fl o T S k = opO P gl cl rd fl o T S k := opK_eqO ..
  unfold opT tagOf
  split
  · rename_i x ho
    show hMv x P gl cl rd fl o T S k = _
    rw [← opK_eqO]
    simp only [hMv, opK, ho, opdR_eq]
  · rename_i x ho
    show hMv x P gl cl rd fl o T S k = _
    rw [← opK_eqO]
    simp only [hMv, opK, ho, opdR_eq]
  · rename_i op ty x y z ho
    split
    · rename_i F hF
      show hAr F x y P gl cl rd fl o T S k = _
      refine Eq.trans ?_ (opK_eqO ..)
      simp only [hAr, opK, ho, opdR_eq]
      congr 1; funext u; congr 1; funext v
      cases u <;> first | rfl | skip
      rename_i j a
      cases v <;> first | rfl | skip
      rename_i l b
      obtain ⟨hf, n1, n2⟩ := arF_fast hF j a b
      show (bif Nat.beq (kindN j) (kindN l) then k (F j a b) S else opO P gl cl rd fl o T S k) = binI op j l a b (fun v => k v S) (opO P gl cl rd fl o T S k)
      unfold binI
      split
      · exact absurd rfl n1
      · exact absurd rfl n2
      · cases hk : Nat.beq (kindN j) (kindN l) with
        | true => rw [cond_true, if_pos (kindN_inj hk), hf]
        | false => rw [cond_false, if_neg (kindN_ne hk)]
    · exact old
  · rename_i t x ho
    split
    · rename_i hag
      show hLd x P gl cl rd fl o T S k = _
      refine Eq.trans ?_ (opK_eqO ..)
      simp only [hLd, opK, ho, opdR_eq]
      congr 1; funext p
      cases p <;> first | rfl | skip
      rename_i a
      cases a with
      | none => rfl
      | some ad =>
        obtain ⟨b, off, s⟩ := ad
        cases s with
        | some _ => rfl
        | none =>
          have hr : ∀ cs, readAt P t cs off = getR cs off := fun cs => by unfold readAt; rw [hag]
          show blkR (getR S b) (fun cs => @Option.rec Value (fun _ => Option α) none (fun v => k v S) (getR cs off)) (opO P gl cl rd fl o T S k) = _
          unfold loadQ
          dsimp only
          cases getR S b with
          | none => rfl
          | some bk =>
            obtain ⟨cs, e, ro, ob⟩ := bk
            cases ob with
            | none =>
              simp only [hr]
              show @Option.rec Value (fun _ => Option α) none (fun v => k v S) (getR cs off) = _
              cases getR cs off <;> rfl
            | some so =>
              cases so <;> first | rfl | skip
              simp only [hr]
              show @Option.rec Value (fun _ => Option α) none (fun v => k v S) (getR cs off) = _
              cases getR cs off <;> rfl
    · rename_i hag
      split
      · rename_i n hsz
        show hLa n x P gl cl rd fl o T S k = _
        refine Eq.trans ?_ (opK_eqO ..)
        simp only [hLa, opK, ho, opdR_eq]
        congr 1; funext p
        cases p <;> first | rfl | skip
        rename_i a
        cases a with
        | none => rfl
        | some ad =>
          obtain ⟨b, off, s⟩ := ad
          cases s with
          | some _ => rfl
          | none =>
            have hr : ∀ cs, readAt P t cs off = if Nat.ble (off + n) (lenR cs) then forceK (takeR (dropR cs off) n) fun l => some (.agg l.toArray) else none := fun cs => by unfold readAt; rw [hag, hsz]
            have hq : ∀ cs, (bif Nat.ble (off + n) (lenR cs) then forceK (takeR (dropR cs off) n) fun l => k (.agg l.toArray) S else none) = match readAt P t cs off with
                | some v => k v S
                | none => none := fun cs => by
              rw [hr]
              simp only [forceK_eq]
              cases Nat.ble (off + n) (lenR cs) <;> rfl
            show blkR (getR S b) (fun cs => bif Nat.ble (off + n) (lenR cs) then forceK (takeR (dropR cs off) n) fun l => k (.agg l.toArray) S else none) (opO P gl cl rd fl o T S k) = _
            unfold loadQ
            dsimp only
            cases getR S b with
            | none => rfl
            | some bk =>
              obtain ⟨cs, e, ro, ob⟩ := bk
              cases ob with
              | none => exact hq cs
              | some so => cases so <;> first | rfl | exact hq cs
      · exact old
    · exact old
  · rename_i t x y ho
    split
    · rename_i hsz
      show hSt t x y P gl cl rd fl o T S k = _
      refine Eq.trans ?_ (opK_eqO ..)
      simp only [hSt, opK, ho, opdR_eq]
      congr 1; funext p; congr 1; funext v
      show _ = stO P fl t S p v k
      cases p <;> first | rfl | skip
      rename_i a
      cases a with
      | none => rfl
      | some ad =>
        obtain ⟨b, off, s⟩ := ad
        cases s with
        | some _ => rfl
        | none =>
          show blkW (getR S b) (fun cs e ro => vone v (bif Nat.ble fl b && !ro then @Option.rec Value (fun _ => Option α) none (fun _ => setK cs off v fun cs' => setG S b ⟨cs', e, ro, none⟩ fun S' => k undef S') (getR cs off) else none) (stO P fl t S (.pointer (some ⟨b, off, none⟩)) v k)) (stO P fl t S (.pointer (some ⟨b, off, none⟩)) v k) = _
          cases hb : getR S b with
          | none => rfl
          | some bk =>
            obtain ⟨cs, e, ro, ob⟩ := bk
            cases ob with
            | some so => rfl
            | none =>
              have hst : ∀ v : Value, v.cells.toList = [v] → cellish v = true → (bif Nat.ble fl b && !ro then @Option.rec Value (fun _ => Option α) none (fun _ => setK cs off v fun cs' => setG S b ⟨cs', e, ro, none⟩ fun S' => k undef S') (getR cs off) else none) = stO P fl t S (.pointer (some ⟨b, off, none⟩)) v k := by
                intro v hv hc
                unfold stO storeQ
                dsimp only
                rw [hb]
                simp only [store, hb, hsz, hv, setK_eq, setG_eq, forceK_eq, writeAt, lenR_eq, allR, hc, getR_eq]
                cases h1 : Nat.ble fl b with
                | false =>
                  have : ¬ fl ≤ b := fun h => by rw [Nat.ble_eq_true_of_le h] at h1; cases h1
                  simp [this]
                | true =>
                  have h2 : fl ≤ b := Nat.le_of_ble_eq_true h1
                  cases ro with
                  | true => simp
                  | false =>
                    cases hg : cs[off]? with
                    | none =>
                      have h3 : ¬ off + 1 ≤ cs.length := by rw [List.getElem?_eq_none_iff] at hg; omega
                      simp [h3]
                    | some w =>
                      have h3 : off + 1 ≤ cs.length := (List.getElem?_eq_some_iff.1 hg).1
                      simp [h2, h3, Nat.ble_eq]
              cases v <;> first | exact hst _ rfl rfl | rfl
    · show hS2 t x y P gl cl rd fl o T S k = _
      refine Eq.trans ?_ (opK_eqO ..)
      simp only [hS2, opK, ho, opdR_eq]
      rfl
  · rename_i s x f ho
    split
    · rename_i fs hu
      split
      · rename_i fd hfd
        split
        · rename_i m hm
          show hFa fd.offset x P gl cl rd fl o T S k = _
          refine Eq.trans ?_ (opK_eqO ..)
          simp only [hFa, opK, ho, opdR_eq]
          congr 1; funext p
          cases p <;> first | rfl | skip
          rename_i a
          cases a with
          | none => rfl
          | some ad => simp only [fieldP, hu, hfd, hm]; rfl
        · exact old
      · exact old
    · exact old
  · rename_i t x i ho
    split
    · rename_i e hu
      split
      · rename_i sz hsz
        show hIa sz x i P gl cl rd fl o T S k = _
        refine Eq.trans ?_ (opK_eqO ..)
        simp only [hIa, opK, ho, opdR_eq]
        congr 1; funext u; congr 1; funext v
        cases v <;> first | rfl | skip
        rename_i kd j
        unfold idxQ
        cases u <;> first | rfl | skip
        · rename_i a
          cases a with
          | none => rfl
          | some ad =>
            obtain ⟨b, off, s⟩ := ad
            cases s <;> first | rfl | (simp only [hu]; rfl)
        · rename_i a n c
          cases a with
          | none => rfl
          | some ad =>
            obtain ⟨b, off, s⟩ := ad
            cases s <;> first | rfl | (simp only [hu, hsz]; rfl)
      · exact old
    · exact old
  · rename_i f args ats ho
    show hCv f args.toList P gl cl rd fl o T S k = _
    refine Eq.trans ?_ (opK_eqO ..)
    simp only [hCv, opK, ho, opdR_eq, opdsR_eq, callQ]
  · rename_i t ho
    split
    · rename_i z hz
      cases hs : allR scalar z.cells.toList with
      | false => exact old
      | true =>
        simp only [cond_true, forceK_eq]
        show hAl z.cells.toList t P gl cl rd fl o T S k = _
        simp only [hAl, opO, ho, condOp, condMem, condStr, mapK, appendK, evOp, hz, hs, if_true, newK_eq]
    · exact old
  · rename_i t x ho
    show hBx t x P gl cl rd fl o T S k = _
    simp only [hBx, opO, ho, condOp, condMem, condStr, mapK, appendK, evOp, newK_eq, forceK_eq, opdR_eq, opdK_eq]
    cases opd gl T x with
    | none => rfl
    | some v =>
      simp only
      cases isJ v <;> rfl
  · rename_i t len parts ho
    have slow : hBs t len (parts.toList.map (·.1)) (parts.toList.map (·.2)) P gl cl rd fl o T S k = opO P gl cl rd fl o T S k := by
      show hBs t len _ _ P gl cl rd fl o T S k = _
      simp only [hBs, opO, ho, condOp, condMem, condStr, mapK, appendK, evOp, newK_eq, forceK_eq, opdsR_eq, opdsK_eq]
      cases opds gl T (parts.toList.map (·.2)) with
      | none => rfl
      | some vs =>
        simp only
        cases vs.all plain with
        | true =>
          simp only [cond_true, if_true]
          cases buildSliceCells P t len ((parts.toList.map (·.1)).zip vs).toArray with
          | none => rfl
          | some q =>
            obtain ⟨e, cs⟩ := q
            simp only
            cases allR scalar cs.toList <;> rfl
        | false =>
          simp only [cond_false, Bool.false_eq_true, if_false]
          cases vs.any isJ with
          | true => rfl
          | false =>
            simp only [cond_false, Bool.false_eq_true, if_false]
            cases zeroOk P t with
            | false => rfl
            | true =>
              simp only [cond_true, if_true]
              cases buildSliceCells P t len ((parts.toList.map (·.1)).zip vs).toArray with
              | none => rfl
              | some q => rfl
    cases hbq : bqOk P t len (parts.toList.map (·.1)) with
    | false => exact slow
    | true =>
      show hBq (elemT P t) t len (parts.toList.map (·.2)) P gl cl rd fl o T S k = _
      rw [← slow]
      unfold bqOk at hbq
      split at hbq
      · rename_i e hu
        split at hbq
        · rename_i i hi
          split at hbq
          · rename_i z hz
            simp only [Bool.and_eq_true, Nat.beq_eq, Nat.ble_eq] at hbq
            obtain ⟨⟨⟨⟨⟨b1, b2⟩, b3⟩, b4⟩, b5⟩, b6⟩ := hbq
            rw [lenR_eq, List.length_map] at b5
            simp only [hBq, hBs, opdsR_eq, opdsK_eq]
            cases hv : opds gl T (parts.toList.map (·.2)) with
            | none => rfl
            | some vs =>
              have hvl : vs.length = len := by rw [opds_len hv, List.length_map, b5]
              simp only
              cases hone : allR voneB vs with
              | false => rw [cond_false, ← slow]; simp only [hBs, opdsR_eq, opdsK_eq, hv]
              | true =>
                have hcells : buildSliceCells P t len ((parts.toList.map (·.1)).zip vs).toArray = some (e, vs.toArray) := by
                  unfold buildSliceCells
                  have hbig : ¬ len * i.size > 2 ^ 24 := by rw [b2]; omega
                  have hpos : ¬ len * i.size = 0 := by rw [b2]; omega
                  simp only [hu, hi, if_neg hbig, if_neg hpos, hz]
                  have := fill_ones vs (parts.toList.map (·.1)) [] ((Array.range (len * i.size)).map (z.cells[· % z.cells.size]!)).toList hone (by simp [hvl, b5]) (by simp [hvl, b2]) b6
                  rw [List.nil_append, List.nil_append, Array.toArray_toList] at this
                  rw [b2] at this ⊢
                  rw [this]
                have hel : elemT P t = e := by unfold elemT; rw [hu]
                simp only [hcells, vone_any hone, b1, cond_true, cond_false, forceK_eq, hel]
                cases hp : vs.all plain with
                | true => simp only [cond_true, vone_plain hone hp]
                | false => rfl
          · cases hbq
        · cases hbq
      · cases hbq
  · rename_i f first captured ho
    show hMf f _ _ P gl cl rd fl o T S k = _
    simp only [hMf, opO, ho, condOp, condMem, condStr, mapK, appendK, evOp, opdsR_eq, opdsK_eq]
    cases opds gl T first.toList with
    | none => rfl
    | some xs => cases opds gl T captured.toList <;> rfl
  · rename_i x i ho
    show hEx x i P gl cl rd fl o T S k = _
    simp only [hEx, opdR_eq, opdK_eq]
    cases hx : opd gl T x with
    | none => simp [opO, ho, condOp, condMem, condStr, mapK, appendK, evOp, hx, pureTry, Op.operands, opds]
    | some u =>
      cases u <;> first | rfl | skip
      rename_i xs
      simp only [opO, ho, condOp, condMem, condStr, mapK, appendK, evOp, hx]
      show @Option.rec Value (fun _ => Option α) none (fun v => k v S) (getR xs.toList i) = _
      cases getR xs.toList i <;> rfl
  · rename_i s d x ho
    split
    · rename_i j hs hd
      show hCn j x P gl cl rd fl o T S k = _
      simp only [hCn, opdR_eq, opdK_eq]
      cases hx : opd gl T x with
      | none => simp [opO, ho, condOp, condMem, condStr, mapK, appendK, evOp, hx, pureTry, Op.operands, opds]
      | some u =>
        cases u <;> first | rfl | skip
        simp only [opO, ho, condOp, condMem, condStr, mapK, appendK, evOp, hx, hs, hd]
        rfl
    · exact old
  · rename_i t x f ho
    split
    · rename_i fs hu
      split
      · rename_i fd hfd
        split
        · rename_i hag
          show hFd fd.offset x P gl cl rd fl o T S k = _
          simp only [hFd, opdR_eq, opdK_eq]
          cases hx : opd gl T x with
          | none => simp [opO, ho, condOp, condMem, condStr, mapK, appendK, evOp, hx, pureTry, Op.operands, opds]
          | some u =>
            cases u <;> first | rfl | skip
            rename_i xs
            have hr : ∀ cs, readAt P fd.type cs fd.offset = getR cs fd.offset := fun cs => by unfold readAt; rw [hag]
            simp only [opO, ho, condOp, condMem, condStr, mapK, appendK, evOp, hx, fieldV, hu, hfd, hr]
            show @Option.rec Value (fun _ => Option α) none (fun v => k v S) (getR xs.toList fd.offset) = _
            cases getR xs.toList fd.offset <;> rfl
        · exact old
      · exact old
    · exact old
  · rename_i t ho
    show hEv P gl cl rd fl o T S k = _
    simp only [hEv, opO, ho, condOp, condMem, condStr, mapK, appendK]
    cases evOp P gl fl o T S with
    | none => rfl
    | some r => cases r <;> rfl
  · rename_i t parts ho
    have slow : hEv P gl cl rd fl o T S k = opO P gl cl rd fl o T S k := by
      simp only [hEv, opO, ho, condOp, condMem, condStr, mapK, appendK]
      cases evOp P gl fl o T S with
      | none => rfl
      | some r => cases r <;> rfl
    split
    · rename_i zs ps hbd
      show hBd zs ps (parts.toList.map (·.2)) P gl cl rd fl o T S k = _
      unfold bdOk at hbd
      split at hbd
      · rename_i fields hu
        split at hbd
        · rename_i z hz
          split at hbd
          · rename_i places hpl
            cases hsc : z.cells.toList.all scalar with
            | false => rw [hsc] at hbd; cases hbd
            | true =>
              rw [hsc, cond_true] at hbd
              split at hbd
              · rename_i qs hq
                simp only [forceK_eq, Option.some.injEq, Prod.mk.injEq] at hbd
                obtain ⟨rfl, rfl⟩ := hbd
                obtain ⟨l1, l2⟩ := pickPs_len hq
                simp only [hBd, opdsR_eq, opdsK_eq]
                rw [← slow]
                simp only [hEv, evOp, ho]
                cases hv : opds gl T (parts.toList.map (·.2)) with
                | none => rfl
                | some vs =>
                  simp only
                  cases hj : vs.any isJ with
                  | true => rfl
                  | false =>
                    simp only [cond_false, Bool.false_eq_true, if_false]
                    rw [fillL_eq (place := (places.toArray[·]?)) (parts.toList.map (·.1)) qs z.cells vs l1 (fun j i p a b => by simpa using l2 j i p a b)]
                    have hbc : buildCells P t ((parts.toList.map (·.1)).zip vs) = Instr.fill (places.toArray[·]?) z.cells ((parts.toList.map (·.1)).zip vs) := by
                      unfold buildCells
                      simp only [hu, hz, hpl, hsc, if_true]
                    rw [hbc]
                    cases hf : Instr.fill (places.toArray[·]?) z.cells ((parts.toList.map (·.1)).zip vs) with
                    | some cells => rfl
                    | none =>
                      simp only
                      first
                        | done
                        | (rw [← slow]; done)
                        | (rw [← slow]; simp only [hEv, evOp, ho, hv, hj, hbc, hf, Bool.false_eq_true, if_false])
              · cases hbd
          · cases hbd
        · cases hbd
      · cases hbd
    · exact slow
  · rename_i t x ho
    show hNt x P gl cl rd fl o T S k = _
    simp only [hNt, opdR_eq, opdK_eq]
    cases hx : opd gl T x with
    | none => simp [opO, ho, condOp, condMem, condStr, mapK, appendK, evOp, hx, pureTry, Op.operands, opds]
    | some u =>
      cases u <;> first | rfl | skip
      simp [opO, ho, condOp, condMem, condStr, mapK, appendK, evOp, hx, pureTry, Op.operands, opds, pureOp, plain, flat, scalar, execOp, Op.unary, pureSem, Bind.bind, Sem.bind, Pure.pure]
      rfl
  · rename_i t x i ho
    show hIx t x i P gl cl rd fl o T S k = _
    simp only [hIx, opdR_eq, opdK_eq]
    cases hx : opd gl T x with
    | none => simp [opO, ho, condOp, condMem, condStr, mapK, appendK, evOp, hx, pureTry, Op.operands, opds]
    | some u =>
      simp only
      cases hi : opd gl T i with
      | none => cases u <;> simp [opO, ho, condOp, condMem, condStr, mapK, appendK, evOp, hx, hi, pureTry, Op.operands, opds]
      | some v =>
        simp only
        cases u <;> first | rfl | skip
        rename_i xs
        cases v <;> first | rfl | skip
        rename_i kd j
        simp only [opO, ho, condOp, condMem, condStr, mapK, appendK, evOp, hx, hi]
        show @Option.rec Value (fun _ => Option α) none (fun w => k w S) (indexV P t j xs.toList) = _
        cases indexV P t j xs.toList <;> rfl
  · exact old
/-- The number of what a call returns, by tests. -/
def putTmp {α : Type} (d : Option Tmp) (T : List Value) (v : Value) (k : List Value → Option α) : Option α := @Option.rec Tmp (fun _ => Option α) (k T) (fun d => setK T d v k) d
theorem putTmp_eq {α : Type} (d : Option Tmp) (T : List Value) (v : Value) (k : List Value → Option α) : putTmp d T v k = putK T d v k := by cases d <;> rfl
def resK {α : Type} (P : Program) (gl : Nat) (cl : CallerK α) (rd : RoundK α) (fl : Nat) (ops : Array Oper) (o : Oper) (T : List Value) (S : List Blk) (k : List Value → List Blk → Option α) : Option α :=
  @Option.rec (Nat × Bool) (fun _ => Option α) (opT P gl cl rd fl o T S fun v S' => putTmp o.dst T v fun T'' => k T'' S') (fun _ => resO P gl cl rd fl ops o T S k) o.guard
theorem resK_eqO {α : Type} (P : Program) (gl : Nat) (cl : CallerK α) (rd : RoundK α) (fl : Nat) (ops : Array Oper) (o : Oper) (T : List Value) (S : List Blk) (k : List Value → List Blk → Option α) : resK P gl cl rd fl ops o T S k = resO P gl cl rd fl ops o T S k := by
  unfold resK
  cases hg : o.guard with
  | none =>
    show opT P gl cl rd fl o T S (fun v S' => putTmp o.dst T v fun T'' => k T'' S') = _
    rw [opT_eqO]
    simp only [resO, guardK, hg, putTmp_eq]
  | some g => rfl
def evOpsK {α : Type} (P : Program) (gl : Nat) (cl : CallerK α) (rd : RoundK α) (fl : Nat) (ops : Array Oper) (l : List Oper) : List Value → List Blk → (List Value → List Blk → Option α) → Option α :=
  List.rec (fun T S k => k T S) (fun o _ ih T S k => @Option.rec Operand (fun _ => Option α) (resK P gl cl rd fl ops o T S fun T' S' => ih T' S' k) (fun x => @Option.rec Nat (fun _ => Option α) none (fun n => putK T o.dst (.int .i64 n) fun T' => ih T' S k) (lenMap gl T S x)) (lenTag P o)) l

def evPreK {α : Type} (P : Program) (gl : Nat) (cl : CallerK α) (rd : RoundK α) (ops : Array Oper) (l : List Nat) : List Value → List Blk → (List Value → List Blk → Option α) → Option α :=
  List.rec (fun T S k => k T S) (fun i _ ih T S k => match getR ops.toList i with
    | some o => resK P gl cl rd (lenR S) ops o T S fun T' S' => ih T' S' k
    | none => none) l
def evTailK {α : Type} (P : Program) (gl : Nat) (cl : CallerK α) (rd : RoundK α) (fl : Nat) (ops : Array Oper) (l : List Nat) : List Value → List Blk → (List Value → List Blk → Option α) → Option α :=
  List.rec (fun T S k => k T S) (fun i _ ih T S k => match getR ops.toList i with
    | some o => resK P gl cl rd fl ops o T S fun T' S' => ih T' S' k
    | none => none) l

def evTailFK {α : Type} (P : Program) (gl : Nat) (cl : CallerK α) (rd : RoundK α) (fl : Nat) (md : Region.Mode) (ops : Array Oper) : List Nat → List (Nat × Nat) → List Value → List Blk → (List Value → List Blk → Option α) → Option α
  | [], _, T, S, k => k T S
  | i :: l, B, T, S, k => match getR ops.toList i with
    | some o => forceK (openAt md o B) fun B' => if quietOp gl B' o T then resK P gl cl rd fl ops o T S fun T' S' => evTailFK P gl cl rd fl md ops l B' T' S' k
      else resK P gl cl rd fl ops o T S fun T' S' => if sameBlks S S' B' then evTailFK P gl cl rd fl md ops l B' T' S' k else none
    | none => none

def evTailGK {α : Type} (P : Program) (gl : Nat) (cl : CallerK α) (rd : RoundK α) (fl : Nat) (md : Region.Mode) (ops : Array Oper) : List Nat → List (Nat × Nat) → List Value → List Blk → (List Value → List Blk → Option α) → Option α
  | [], _, T, S, k => k T S
  | i :: l, B, T, S, k => match getR ops.toList i with
    | some o => match regOnly o.op with
      | true => resK P gl cl rd fl ops o T S fun T' S' => evTailGK P gl cl rd fl md ops l B T' S' k
      | false => forceK (openAt md o B) fun B' => if quietOp gl B' o T then resK P gl cl rd fl ops o T S fun T' S' => evTailGK P gl cl rd fl md ops l B' T' S' k
        else resK P gl cl rd fl ops o T S fun T' S' => bif sameBlks S S' B' then evTailGK P gl cl rd fl md ops l B' T' S' k else none
    | none => none
def evDrawK {α : Type} (P : Program) (gl : Nat) (cl : CallerK α) (rd : RoundK α) (fl : Nat) (ops : Array Oper) (T : List Value) (S : List Blk) (k : List Value → List Blk → Option α) : Option α :=
  if Region.departs ops && !P.follows .mixedOrders then none else
  match firstStatic P ops with
  | some (pre, F, tl) => match laterG P ops pre with
    | true => (match staticG .any ops (firstG .any ops (List.range ops.size) [] []) with
      | some (pre, F, tl) => evPreK P gl cl rd ops pre T S fun T' S' => match blksG ops T' F with
        | some B => evTailGK P gl cl rd fl .any ops tl B T' S' k
        | none => none
      | none => none)
    | false => evPreK P gl cl rd ops pre T S fun T' S' => match floatBlks ops T' F with
      | some B => evTailFK P gl cl rd fl .any ops tl B T' S' k
      | none => none
  | none => match regionStatic .any ops (List.range ops.size) with
  | some (pre, tl) => evPreK P gl cl rd ops pre T S fun T' S' => evTailK P gl cl rd fl ops tl T' S' k
  | none => match floatStatic .any ops (List.range ops.size) with
    | some (pre, F, tl) => evPreK P gl cl rd ops pre T S fun T' S' => match floatBlks ops T' F with
      | some B => evTailFK P gl cl rd fl .any ops tl B T' S' k
      | none => none
    | none => match floatStatic .any ops (floatsFirst .any ops (List.range ops.size) [] []) with
      | some (pre, F, tl) => evPreK P gl cl rd ops pre T S fun T' S' => match floatBlks ops T' F with
        | some B => evTailFK P gl cl rd fl .any ops tl B T' S' k
        | none => none
      | none => match staticG .any ops (firstG .any ops (List.range ops.size) [] []) with
        | some (pre, F, tl) => evPreK P gl cl rd ops pre T S fun T' S' => match blksG ops T' F with
          | some B => evTailGK P gl cl rd fl .any ops tl B T' S' k
          | none => none
        | none => none

def padR (n : Nat) : List Value := Nat.rec [] (fun _ l => undef :: l) n
theorem padR_eq (n : Nat) : padR n = List.replicate n undef := by
  induction n with
  | zero => rfl
  | succ n ih => show undef :: padR n = _; rw [ih]; rfl
def callInK {α : Type} (P : Program) (rec : Nat → Code → List Value → List Blk → (Ex → List Value → List Blk → Option α) → Option α) : CallerK α := fun fl f args S k =>
  match P.funcs[f]? with
  | some fn => match fn.body with
    | some c => appG args (padR (fn.ntmps - lenR args)) fun T => rec fl c T S fun x T' S' => match x with
      | .exit _ => none
      | _ => match resVals P T' S' fn.results.toList with
        | some vs => k (oneVal vs) S'
        | none => none
    | none => none
  | none => none

def callSK {α : Type} (P : Program) (orc : Orc) (Sg : List Blk) (rec : Nat → Code → List Value → List Blk → (Ex → List Value → List Blk → Option α) → Option α) : CallerK α := fun fl f args S k =>
  if args.all plain && isoOk P f then
    match orc.val f args with
    | some t => t.ev fun v => if plain v then k v S else none
    | none => callInK P rec Sg.length f args Sg fun v _ => if plain v then k v S else none
  else match orc.mem fl f args S with
    | some t => t.ev k
    | none => callInK P rec fl f args S fun v S' => bif gcOk S args v S' then forceK (takeR S' (lenR S)) fun S2 => k v S2 else k v S'

def tmpOf : Operand → Option Tmp
  | .tmp t => some t
  | _ => none
/-- One round of a range over a function. -/
def roundK {α : Type} (rec : Nat → Code → List Value → List Blk → (Ex → List Value → List Blk → Option α) → Option α) : RoundK α := fun fl l args S k =>
  match loopAt S l with
  | some L => if decide (fl ≤ l) && args.length == L.params.toList.length then
      forceK (setParams L.tmps L.params.toList args) fun T => rec fl L.assign T S fun x T1 S1 => match x with
        | .normal => match loopAt S1 l with
          | some ⟨.ready, p1, t1, q1, a1, b1⟩ => forceK (S1.set l (loopBlk ⟨.busy, p1, t1, q1, a1, b1⟩)) fun S2 => rec fl L.body T1 S2 fun x _ S3 => match loopAt S3 l with
            | some L3 => forceK (S3.set l (loopBlk { L3 with state := if goesOn x then .ready else .done, pending := jumpOf x })) fun S4 => k (.bool (goesOn x)) S4
            | none => none
          | _ => none
        | _ => none
    else none
  | none => none
/-- A range over a function, outside of rounds. -/
def rangeK {α : Type} (P : Program) (gl : Nat) (rec : Nat → Code → List Value → List Blk → (Ex → List Value → List Blk → Option α) → Option α) (fl : Nat) (f : Operand) (params : Array Tmp) (assign body : Code) (T : List Value) (S : List Blk) (k : Ex → List Value → List Blk → Option α) : Option α :=
  if decide (fl ≤ S.length) then match opd gl T f with
  | some g => forceK (S ++ [loopBlk ⟨.ready, none, T, params, assign, body⟩]) fun S1 => match callee P g [.func (.yield S.length) #[] #[]] with
    | some (.call h args) => callInK P rec fl h args S1 fun _ S2 => match loopAt S2 S.length with
      | some L => match L.state with
        | .busy => none
        | _ => forceK (S2.set S.length (loopBlk { L with state := .exhausted })) fun S3 => match L.pending with
          | none => k .normal T S3
          | some .ret => k .ret T S3
          | some (.exit id) => k (.exit id) T S3
          | _ => none
      | none => none
    | _ => none
  | none => none
  else none

def evCodeB {α : Type} (P : Program) (orc : Orc) (Sg : List Blk) : Nat → Bool → Nat → Code → List Value → List Blk → (Ex → List Value → List Blk → Option α) → Option α
  | 0, _, _, _, _, _, _ => none
  | n + 1, ro, fl, c, T, S, k =>
    match c with
    | .skip => k .normal T S
    | .seq a b => evCodeB P orc Sg n ro fl a T S fun x T' S' => match x with
      | .normal => evCodeB P orc Sg n ro fl b T' S' k
      | .exit id => k (.exit id) T' S'
      | .ret => k .ret T' S'
    | .cond x a b => match opd Sg.length T x with
      | some (.bool β) => bif β then putK T (tmpOf x) (.bool true) fun T' => evCodeB P orc Sg n ro fl a T' S k
          else putK T (tmpOf x) (.bool false) fun T' => evCodeB P orc Sg n ro fl b T' S k
      | _ => none
    | .block id b => evCodeB P orc Sg n ro fl b T S fun x T' S' => match x with
      | .exit id' => (match Nat.beq id' id with
        | true => k .normal T' S'
        | false => k (.exit id') T' S')
      | .normal => k .normal T' S'
      | .ret => k .ret T' S'
    | .loop b => evCodeB P orc Sg n ro fl b T S fun x T' S' => match x with
      | .normal => evCodeB P orc Sg n ro fl (.loop b) T' S' k
      | .exit id => k (.exit id) T' S'
      | .ret => k .ret T' S'
    | .label _ => k .normal T S
    | .scope b => evCodeB P orc Sg n ro fl b T S k
    | .exit id => k (.exit id) T S
    | .ret => k .ret T S
    | .region _ ops false => evOpsK P Sg.length (callSK P orc Sg (evCodeB P orc Sg n false)) (roundK (evCodeB P orc Sg n true)) fl ops ops.toList T S (k .normal)
    | .region _ ops true => evDrawK P Sg.length (callSK P orc Sg (evCodeB P orc Sg n false)) (roundK (evCodeB P orc Sg n true)) fl ops T S (k .normal)
    | .rangeFunc f params assign body => match ro with
      | true => none
      | false => rangeK P Sg.length (evCodeB P orc Sg n false) fl f params assign body T S k
    | _ => none
def evCodeK {α : Type} (P : Program) (orc : Orc) (Sg : List Blk) (n : Nat) (fl : Nat) (c : Code) (T : List Value) (S : List Blk) (k : Ex → List Value → List Blk → Option α) : Option α := evCodeB P orc Sg n false fl c T S k

/- The same for closed calls: by recursors, and a test is not noted down. -/
abbrev EvC (α : Type) := Bool → Nat → Code → List Value → List Blk → (Ex → List Value → List Blk → Option α) → Option α
abbrev CoH (α : Type) := Program → Orc → List Blk → EvC α → Bool → Nat → List Value → List Blk → (Ex → List Value → List Blk → Option α) → Option α
section
variable {α : Type}
def exC (x : Ex) (a : Option α) (e : Nat → Option α) (r : Option α) : Option α := @Ex.rec (fun _ => Option α) a e r x
def cSkip : CoH α := fun _ _ _ _ _ _ T S k => k .normal T S
def cSeq (a b : Code) : CoH α := fun _ _ _ ih ro fl T S k => ih ro fl a T S fun x T' S' => exC x (ih ro fl b T' S' k) (fun id => k (.exit id) T' S') (k .ret T' S')
def cCond (x : Operand) (a b : Code) : CoH α := fun _ _ Sg ih ro fl T S k => opdR Sg.length T x fun v => vbool v (fun β => bif β then ih ro fl a T S k else ih ro fl b T S k) none
def cBlock (id : Nat) (b : Code) : CoH α := fun _ _ _ ih ro fl T S k => ih ro fl b T S fun x T' S' => exC x (k .normal T' S') (fun id' => bif Nat.beq id' id then k .normal T' S' else k (.exit id') T' S') (k .ret T' S')
def cLoop (b : Code) : CoH α := fun _ _ _ ih ro fl T S k => ih ro fl b T S fun x T' S' => exC x (ih ro fl (.loop b) T' S' k) (fun id => k (.exit id) T' S') (k .ret T' S')
def cScope (b : Code) : CoH α := fun _ _ _ ih ro fl T S k => ih ro fl b T S k
def cExit (id : Nat) : CoH α := fun _ _ _ _ _ _ T S k => k (.exit id) T S
def cRet : CoH α := fun _ _ _ _ _ _ T S k => k .ret T S
def cRegS (ops : Array Oper) : CoH α := fun P orc Sg ih _ fl T S k => evOpsK P Sg.length (callSK P orc Sg (ih false)) (roundK (ih true)) fl ops ops.toList T S (k .normal)
def cRegD (ops : Array Oper) : CoH α := fun P orc Sg ih _ fl T S k => evDrawK P Sg.length (callSK P orc Sg (ih false)) (roundK (ih true)) fl ops T S (k .normal)
def cRange (f : Operand) (params : Array Tmp) (assign body : Code) : CoH α := fun P _ Sg ih ro fl T S k => @Bool.rec (fun _ => Option α) (rangeK P Sg.length (ih false) fl f params assign body T S k) none ro
def cNo : CoH α := fun _ _ _ _ _ _ _ _ _ => none
def evCodeC (P : Program) (orc : Orc) (Sg : List Blk) (n : Nat) : EvC α :=
  @Nat.rec (fun _ => EvC α) (fun _ _ _ _ _ _ => none) (fun _ ih ro fl c T S k => @Code.rec (fun _ => CoH α) cSkip (fun _ ops d => @Bool.rec (fun _ => CoH α) (cRegS ops) (cRegD ops) d) (fun a b _ _ => cSeq a b) (fun x a b _ _ => cCond x a b) (fun id b _ => cBlock id b) (fun b _ => cLoop b)
    (fun f ps a b _ _ => cRange f ps a b) cExit (fun b _ => cScope b) (fun _ => cSkip) (fun _ => cNo) cRet (fun _ => cNo) c P orc Sg ih ro fl T S k) n
end
def runC (P : Program) (orc : Orc) (Sg : List Blk) (n : Nat) (f : FuncId) (args : List Value) : Option Value :=
  callInK P (evCodeC P orc Sg n false) Sg.length f args Sg fun v _ => if plain v then some v else none

/-- A whole call, apart from all else. -/
def runK (P : Program) (orc : Orc) (Sg : List Blk) (n : Nat) (f : FuncId) (args : List Value) : Option Value :=
  callInK P (evCodeK P orc Sg n) Sg.length f args Sg fun v _ => if plain v then some v else none

/-- An oracle whose premise is met. -/
def orcOf (orc : Orc) : OrcF := ⟨fun f args =>
  match orc.val f args with
  | some t => t.get
  | none => none, fun fl f args S =>
  match orc.mem fl f args S with
  | some t => t.get
  | none => none⟩

theorem set_same {T : List Value} {d : Nat} {b : Bool} (h : nthD T d = .bool b) : T.set d (.bool b) = T := by
  rw [nthD_eq] at h
  refine List.ext_getElem? fun i => ?_
  by_cases hi : d = i
  · subst hi
    cases ht : T[d]? with
    | none => rw [ht] at h; cases h
    | some v =>
      rw [ht] at h
      simp only [Option.getD_some] at h
      subst h
      rw [List.getElem?_set_self (List.getElem?_eq_some_iff.1 ht).1]
  · rw [List.getElem?_set_ne hi]

theorem bif_some {α : Type} {b : Bool} {x y : Option α} {r : α} (h : (bif b then x else y) = some r) : (b = true ∧ x = some r) ∨ (b = false ∧ y = some r) := by
  cases b
  · exact .inr ⟨rfl, h⟩
  · exact .inl ⟨rfl, h⟩

section
variable {P : Program} {α : Type}

/-- What a caller that hands on comes to is what the plain one comes to. -/
def CkOk (cl : Nat → FuncId → List Value → List Blk → Option (Value × List Blk)) (ck : CallerK α) : Prop := ∀ (fl : Nat) (f : FuncId) (args : List Value) (S : List Blk) (k : Value → List Blk → Option α) (r : α), ck fl f args S k = some r → ∃ v S', cl fl f args S = some (v, S') ∧ k v S' = some r

def RdOk (cl : Nat → Nat → List Value → List Blk → Option (Value × List Blk)) (ck : RoundK α) : Prop := ∀ (fl l : Nat) (args : List Value) (S : List Blk) (k : Value → List Blk → Option α) (r : α), ck fl l args S k = some r → ∃ v S', cl fl l args S = some (v, S') ∧ k v S' = some r

theorem keyOk_spec {kt : TypeId} {k : Value} (h : keyOk P kt k = true) : plain k = true ∧ structT P kt = true ∧ ∀ e : Bool, ∃ u : Unit, pureSem P (Instr.checkKey e 10000 kt k) = some u := by
  simp only [keyOk, Bool.and_eq_true] at h
  obtain ⟨⟨⟨h1, h2⟩, h3⟩, h4⟩ := h
  refine ⟨h1, h2, fun e => ?_⟩
  cases e with
  | false => split at h3
             · rename_i u hu; exact ⟨u, hu⟩
             · cases h3
  | true => split at h4
            · rename_i u hu; exact ⟨u, hu⟩
            · cases h4
theorem findIn_fast {kt : TypeId} {k : Value} {es : List MapEntry} (h : keyOk P kt k = true) (ho : okKeys P kt k es = true) (e : Bool) : findIn P kt e es k = some (firstK P kt k es 0) := by
  obtain ⟨h1, h2, h3⟩ := keyOk_spec h
  obtain ⟨u, hu⟩ := h3 e
  simp only [findIn, h1, if_true, hu, findFast, h2, ho, Bool.and_self, cond_true]
theorem firstK_has {kt : TypeId} {k : Value} : ∀ (es : List MapEntry) (i : Nat), hasK P kt k es = false → firstK P kt k es i = none
  | [], _, _ => rfl
  | e :: es, i, h => by
    simp only [hasK, Bool.or_eq_false_iff] at h
    simp only [firstK, h.1, cond_false]
    exact firstK_has es (i + 1) h.2
theorem firstK_val {kt : TypeId} {k : Value} : ∀ (es : List MapEntry) (i : Nat), hasK P kt k es = true → okVals es = true → ∃ j, firstK P kt k es i = some (j, .int .i64 (valK P kt k es))
  | [], _, h, _ => by cases h
  | e :: es, i, h, hv => by
    simp only [okVals, Bool.and_eq_true] at hv
    obtain ⟨v1, v2⟩ := hv
    simp only [hasK, Bool.or_eq_true] at h
    cases hh : hitK P kt k e with
    | true =>
      simp only [firstK, valK, hh, cond_true]
      split at v1
      · rename_i n hn; exact ⟨i, by rw [hn]⟩
      · cases v1
    | false =>
      simp only [firstK, valK, hh, cond_false]
      exact firstK_val es (i + 1) (h.resolve_left (by rw [hh]; simp)) v2
theorem firstK_valB {kt : TypeId} {k : Value} : ∀ (es : List MapEntry) (i : Nat), hasK P kt k es = true → okValB es = true → ∃ j, firstK P kt k es i = some (j, .bool (valB P kt k es))
  | [], _, h, _ => by cases h
  | e :: es, i, h, hv => by
    simp only [okValB, Bool.and_eq_true] at hv
    obtain ⟨v1, v2⟩ := hv
    simp only [hasK, Bool.or_eq_true] at h
    cases hh : hitK P kt k e with
    | true =>
      simp only [firstK, valB, hh, cond_true]
      split at v1
      · rename_i n hn; exact ⟨i, by rw [hn]⟩
      · cases v1
    | false =>
      simp only [firstK, valB, hh, cond_false]
      exact firstK_valB es (i + 1) (h.resolve_left (by rw [hh]; simp)) v2
theorem lookupK_ok {S : List Blk} {k : Value → List Blk → Option α} {t : TypeId} {m key : Value} {ok : Bool} {q : Option α} {r : α} (h : lookupK P t S m key ok k = some q) (hq : q = some r) :
    ∃ v, lookupP P t S m key ok = some v ∧ k v S = some r := by
  unfold lookupK at h
  split at h
  · rename_i kt et hu
    split at h
    · rename_i b es clock hm
      split at h
      · rename_i z hz
        split at h
        · rename_i hk
          cases h
          cases ho : okKeys P kt key es && okVals es with
          | false => rw [ho] at hq; cases hq
          | true =>
            rw [ho] at hq
            simp only [cond_true] at hq
            simp only [Bool.and_eq_true] at ho
            have hf := findIn_fast hk ho.1
            have pl : ∀ (n : Int) (b : Bool), plainly (okVal ok (.int .i64 n) b) = some (okVal ok (.int .i64 n) b) := by intro n b; cases ok <;> rfl
            cases hh : hasK P kt key es with
            | false =>
              rw [hh] at hq
              exact ⟨_, by simp only [lookupP, hu, hm, hf, firstK_has _ _ hh, hz, pl], hq⟩
            | true =>
              rw [hh] at hq
              obtain ⟨j, hj⟩ := firstK_val es 0 hh ho.2
              exact ⟨_, by simp only [lookupP, hu, hm, hf, hj, pl], hq⟩
        · cases h
      · rename_i z hz
        split at h
        · rename_i hk
          cases h
          cases ho : okKeys P kt key es && okValB es with
          | false => rw [ho] at hq; cases hq
          | true =>
            rw [ho] at hq
            simp only [cond_true] at hq
            simp only [Bool.and_eq_true] at ho
            have hf := findIn_fast hk ho.1
            have pl : ∀ (n b : Bool), plainly (okVal ok (.bool n) b) = some (okVal ok (.bool n) b) := by intro n b; cases ok <;> rfl
            cases hh : hasK P kt key es with
            | false =>
              rw [hh] at hq
              exact ⟨_, by simp only [lookupP, hu, hm, hf, firstK_has _ _ hh, hz, pl], hq⟩
            | true =>
              rw [hh] at hq
              obtain ⟨j, hj⟩ := firstK_valB es 0 hh ho.2
              exact ⟨_, by simp only [lookupP, hu, hm, hf, hj, pl], hq⟩
        · cases h
      · cases h
    · cases h
  · cases h
theorem updateK_ok {fl : Nat} {S : List Blk} {k : Value → List Blk → Option α} {t : TypeId} {m key v : Value} {q : Option α} {r : α} (h : updateK P fl t S m key v k = some q) (hq : q = some r) :
    ∃ S', updateP P fl t S m key v = some S' ∧ k undef S' = some r := by
  unfold updateK at h
  simp only [forceK_eq] at h
  split at h
  · rename_i kt et hu
    split at h
    · rename_i b es clock hm
      split at h
      · rename_i hk
        cases h
        cases ho : (Nat.ble fl b && plain v && okKeys P kt key es) with
        | false => rw [ho] at hq; cases hq
        | true =>
          rw [ho] at hq
          simp only [cond_true] at hq
          simp only [Bool.and_eq_true, Nat.ble_eq] at ho
          have hf := findIn_fast ((Bool.and_eq_true _ _).mp hk).1 ho.2 false
          cases hh : hasK P kt key es with
          | true => rw [hh] at hq; cases hq
          | false =>
            rw [hh] at hq
            exact ⟨_, by simp only [updateP_eqO, updatePO, hu, hm, hf, firstK_has _ _ hh, ho.1.1, ho.1.2, decide_true, Bool.and_self, if_true, forceK_eq], hq⟩
      · cases h
    · cases h
  · cases h
theorem mapK_ok {gl fl : Nat} {o : Oper} {T : List Value} {S : List Blk} {k : Value → List Blk → Option α} {q : Option α} {r : α} (h : mapK P gl fl o T S k = some q) (hq : q = some r) :
    ∃ v S', evOp P gl fl o T S = some (.val v S') ∧ k v S' = some r := by
  unfold mapK at h
  split at h
  · rename_i t x i ok ho
    split at h
    · rename_i m hm
      split at h
      · rename_i key hkey
        obtain ⟨v, h1, h2⟩ := lookupK_ok h hq
        exact ⟨v, S, by simp only [evOp_eqO, evOpO, ho, hm, hkey, h1], h2⟩
      · cases h
    · cases h
  · rename_i t x i y ho
    split at h
    · rename_i m hm
      split at h
      · rename_i key hkey
        split at h
        · rename_i v hv
          obtain ⟨S', h1, h2⟩ := updateK_ok h hq
          exact ⟨undef, S', by simp only [evOp_eqO, evOpO, ho, hm, hkey, hv, h1], h2⟩
        · cases h
      · cases h
    · cases h
  · rename_i x ho
    split at h
    · rename_i u hu
      obtain ⟨v, S', h1, h2⟩ := nextK_ok h hq
      exact ⟨v, S', by simp only [evOp_eqO, evOpO, ho, hu, h1], h2⟩
    · cases h
  · cases h

theorem resK_ok {gl fl : Nat} {cl : Caller} {ck : CallerK α} {rd : RoundK α} (hc : CkOk cl.call ck) (hd : RdOk cl.round rd) {ops : Array Oper} {o : Oper} {T : List Value} {S : List Blk} {k : List Value → List Blk → Option α} {r : α}
    (h : resK P gl ck rd fl ops o T S k = some r) : ∃ v S', opRes P gl cl fl ops o T S = some (v, S') ∧ k (putL T o.dst v) S' = some r := by
  rw [resK_eqO] at h
  have body : ∀ (T : List Value) (b : Bool), wantedS ops T o = some b → (match b with
      | true => opO P gl ck rd fl o T S fun v S' => putK T o.dst v fun T'' => k T'' S'
      | false => putK T o.dst undef fun T'' => k T'' S) = some r → ∃ v S', opRes P gl cl fl ops o T S = some (v, S') ∧ k (putL T o.dst v) S' = some r := by
    intro T b hw hb
    simp only [putK_eq] at hb
    cases b with
    | false => exact ⟨undef, S, by simp only [opRes, hw], hb⟩
    | true =>
      simp only [opO] at hb
      split at hb
      · rename_i c a b ho
        split at hb
        · rename_i β v u h1 h2 h3
          rcases bif_some hb with ⟨rfl, hb⟩ | ⟨rfl, hb⟩
          · exact ⟨v, S, by simp only [opRes, hw, evOp_eqO, evOpO, ho, h1, h2, h3, cond_true], hb⟩
          · exact ⟨u, S, by simp only [opRes, hw, evOp_eqO, evOpO, ho, h1, h2, h3, cond_false], hb⟩
        · cases hb
      · split at hb
        · rename_i c v hco
          cases c
          · cases hb
          · exact ⟨v, S, by simp only [opRes, hw, condOp_ok hco], hb⟩
        · split at hb
          · rename_i c v hco
            cases c
            · obtain ⟨u, h1, h2⟩ := sliceE_ok (fl := fl) hco hb
              exact ⟨u, S, by simp only [opRes, hw, h1], h2⟩
            · exact ⟨v, S, by simp only [opRes, hw, condMem_ok hco], hb⟩
          split at hb
          · rename_i c v hco
            cases c
            · cases hb
            · exact ⟨v, S, by simp only [opRes, hw, condStr_ok hco], hb⟩
          split at hb
          · rename_i q hq
            obtain ⟨v, S', h1, h2⟩ := mapK_ok hq hb
            exact ⟨v, S', by simp only [opRes, hw, h1], h2⟩
          split at hb
          · rename_i q hq
            obtain ⟨v, S', h1, h2⟩ := appendK_ok (fl := fl) hq hb
            exact ⟨v, S', by simp only [opRes, hw, h1], h2⟩
          · split at hb
            · rename_i v S' he
              exact ⟨v, S', by simp only [opRes, hw, he], hb⟩
            · rename_i f args he
              obtain ⟨v, S', h1, h2⟩ := hc _ _ _ _ _ _ hb
              exact ⟨v, S', by simp only [opRes, hw, he, h1], h2⟩
            · rename_i l args he
              obtain ⟨v, S', h1, h2⟩ := hd _ _ _ _ _ _ hb
              exact ⟨v, S', by simp only [opRes, hw, he, h1], h2⟩
            · cases hb
  unfold resO guardK at h
  split at h
  · rename_i hg
    exact body T true (by simp only [wantedS, hg]) h
  · rename_i j want hg
    split at h
    · rename_i p hp
      rw [getR_arr] at hp
      split at h
      · rename_i d hd
        split at h
        · rename_i b hb
          simp only [setK_eq] at h
          rcases bif_some h with ⟨rfl, h⟩ | ⟨rfl, h⟩
          · rw [set_same hb] at h
            refine body T _ ?_ h
            simp only [wantedS, hg, hp, hd, hb]
            cases want <;> rfl
          · rw [set_same hb] at h
            refine body T _ ?_ h
            simp only [wantedS, hg, hp, hd, hb]
            cases want <;> rfl
        · rename_i xs hb
          split at h
          · rename_i hx
            cases hl : Nat.blt d T.length with
            | false => rw [hl] at h; cases h
            | true =>
              rw [hl] at h
              refine body T false ?_ h
              simp only [wantedS, hg, hp, hd, hb, hx, hl, cond_true]
          · cases h
        · cases h
      · cases h
    · cases h

theorem evOpsK_ok {gl fl : Nat} {cl : Caller} {ck : CallerK α} {rd : RoundK α} (hc : CkOk cl.call ck) (hd : RdOk cl.round rd) {ops : Array Oper} : ∀ (l : List Oper) (T : List Value) (S : List Blk) (k : List Value → List Blk → Option α) (r : α),
    evOpsK P gl ck rd fl ops l T S k = some r → ∃ T' S', evOps P gl cl fl ops l T S = some (T', S') ∧ k T' S' = some r := by
  intro l
  induction l with
  | nil => intro T S k r h; exact ⟨T, S, rfl, h⟩
  | cons o l ih =>
    intro T S k r h
    have h : @Option.rec Operand (fun _ => Option α) (resK P gl ck rd fl ops o T S fun T' S' => evOpsK P gl ck rd fl ops l T' S' k) (fun x => @Option.rec Nat (fun _ => Option α) none (fun n => putK T o.dst (.int .i64 n) fun T' => evOpsK P gl ck rd fl ops l T' S k) (lenMap gl T S x)) (lenTag P o) = some r := h
    cases hl : lenTag P o with
    | none =>
      rw [hl] at h
      obtain ⟨v, S1, h1, h2⟩ := resK_ok hc hd h
      obtain ⟨T', S', h3, h4⟩ := ih _ _ _ _ h2
      exact ⟨T', S', by simp only [evOps, hl, h1, putK_eq, h3], h4⟩
    | some x =>
      rw [hl] at h
      have h : @Option.rec Nat (fun _ => Option α) none (fun n => putK T o.dst (.int .i64 n) fun T' => evOpsK P gl ck rd fl ops l T' S k) (lenMap gl T S x) = some r := h
      cases hm : lenMap gl T S x with
      | none => rw [hm] at h; cases h
      | some n =>
        rw [hm] at h
        have h : (putK T o.dst (.int .i64 n) fun T' => evOpsK P gl ck rd fl ops l T' S k) = some r := h
        rw [putK_eq] at h
        obtain ⟨T', S', h3, h4⟩ := ih _ _ _ _ h
        exact ⟨T', S', by simp only [evOps, hl, hm, putK_eq, h3], h4⟩

theorem evPreK_ok {gl : Nat} {cl : Caller} {ck : CallerK α} {rd : RoundK α} (hc : CkOk cl.call ck) (hd : RdOk cl.round rd) {ops : Array Oper} : ∀ (l : List Nat) (T : List Value) (S : List Blk) (k : List Value → List Blk → Option α) (r : α),
    evPreK P gl ck rd ops l T S k = some r → ∃ T' S', evPre P gl cl ops l T S = some (T', S') ∧ k T' S' = some r := by
  intro l
  induction l with
  | nil => intro T S k r h; exact ⟨T, S, rfl, h⟩
  | cons i l ih =>
    intro T S k r h
    have h : (match getR ops.toList i with
      | some o => resK P gl ck rd (lenR S) ops o T S fun T' S' => evPreK P gl ck rd ops l T' S' k
      | none => none) = some r := h
    rw [lenR_eq] at h
    split at h
    · rename_i o ho
      obtain ⟨v, S1, h1, h2⟩ := resK_ok hc hd h
      obtain ⟨T', S', h3, h4⟩ := ih _ _ _ _ h2
      exact ⟨T', S', by simp only [evPre, ho, h1, putK_eq, h3], h4⟩
    · cases h
theorem evTailK_ok {gl fl : Nat} {cl : Caller} {ck : CallerK α} {rd : RoundK α} (hc : CkOk cl.call ck) (hd : RdOk cl.round rd) {ops : Array Oper} : ∀ (l : List Nat) (T : List Value) (S : List Blk) (k : List Value → List Blk → Option α) (r : α),
    evTailK P gl ck rd fl ops l T S k = some r → ∃ T' S', evTail P gl cl fl ops l T S = some (T', S') ∧ k T' S' = some r := by
  intro l
  induction l with
  | nil => intro T S k r h; exact ⟨T, S, rfl, h⟩
  | cons i l ih =>
    intro T S k r h
    have h : (match getR ops.toList i with
      | some o => resK P gl ck rd fl ops o T S fun T' S' => evTailK P gl ck rd fl ops l T' S' k
      | none => none) = some r := h
    split at h
    · rename_i o ho
      obtain ⟨v, S1, h1, h2⟩ := resK_ok hc hd h
      obtain ⟨T', S', h3, h4⟩ := ih _ _ _ _ h2
      exact ⟨T', S', by simp only [evTail, ho, h1, putK_eq, h3], h4⟩
    · cases h
theorem evTailFK_ok {gl fl : Nat} {cl : Caller} {ck : CallerK α} {rd : RoundK α} (hc : CkOk cl.call ck) (hd : RdOk cl.round rd) {md : Region.Mode} {ops : Array Oper} : ∀ (l : List Nat) (B : List (Nat × Nat)) (T : List Value) (S : List Blk) (k : List Value → List Blk → Option α) (r : α),
    evTailFK P gl ck rd fl md ops l B T S k = some r → ∃ T' S', evTailF P gl cl fl md ops l B T S = some (T', S') ∧ k T' S' = some r := by
  intro l
  induction l with
  | nil => intro B T S k r h; exact ⟨T, S, rfl, h⟩
  | cons i l ih =>
    intro B T S k r h
    simp only [evTailFK, forceK_eq] at h
    split at h
    · rename_i o ho
      split at h
      · rename_i hq
        obtain ⟨v, S1, h1, h2⟩ := resK_ok hc hd h
        obtain ⟨T', S', h3, h4⟩ := ih _ _ _ _ _ h2
        exact ⟨T', S', by simp only [evTailF, forceK_eq, ho, hq, Bool.true_or, if_true, h1, putK_eq, h3], h4⟩
      · obtain ⟨v, S1, h1, h2⟩ := resK_ok hc hd h
        split at h2
        · rename_i hs
          obtain ⟨T', S', h3, h4⟩ := ih _ _ _ _ _ h2
          exact ⟨T', S', by simp only [evTailF, forceK_eq, ho, hs, Bool.or_true, if_true, h1, putK_eq, h3], h4⟩
        · cases h2
    · cases h
theorem evTailGK_ok {gl fl : Nat} {cl : Caller} {ck : CallerK α} {rd : RoundK α} (hc : CkOk cl.call ck) (hd : RdOk cl.round rd) {md : Region.Mode} {ops : Array Oper} : ∀ (l : List Nat) (B : List (Nat × Nat)) (T : List Value) (S : List Blk) (k : List Value → List Blk → Option α) (r : α),
    evTailGK P gl ck rd fl md ops l B T S k = some r → ∃ T' S', evTailG P gl cl fl md ops l B T S = some (T', S') ∧ k T' S' = some r := by
  intro l
  induction l with
  | nil => intro B T S k r h; exact ⟨T, S, rfl, h⟩
  | cons i l ih =>
    intro B T S k r h
    simp only [evTailGK, forceK_eq] at h
    split at h
    · rename_i o ho
      cases hr : regOnly o.op with
      | true =>
        rw [hr] at h
        simp only at h
        obtain ⟨v, S1, h1, h2⟩ := resK_ok hc hd h
        obtain ⟨T', S', h3, h4⟩ := ih _ _ _ _ _ h2
        exact ⟨T', S', by simp only [evTailG, ho, hr, h1, putK_eq, h3], h4⟩
      | false =>
        rw [hr] at h
        simp only at h
        split at h
        · rename_i hq
          obtain ⟨v, S1, h1, h2⟩ := resK_ok hc hd h
          obtain ⟨T', S', h3, h4⟩ := ih _ _ _ _ _ h2
          exact ⟨T', S', by simp only [evTailG, forceK_eq, ho, hr, hq, Bool.true_or, if_true, h1, putK_eq, h3], h4⟩
        · obtain ⟨v, S1, h1, h2⟩ := resK_ok hc hd h
          cases hs : sameBlks S S1 (openAt md o B) with
          | true =>
            rw [hs] at h2
            obtain ⟨T', S', h3, h4⟩ := ih _ _ _ _ _ h2
            exact ⟨T', S', by simp only [evTailG, forceK_eq, ho, hr, hs, Bool.or_true, if_true, h1, putK_eq, h3], h4⟩
          | false => rw [hs] at h2; cases h2
    · cases h
theorem evDrawK_ok {gl fl : Nat} {cl : Caller} {ck : CallerK α} {rd : RoundK α} (hc : CkOk cl.call ck) (hd : RdOk cl.round rd) {ops : Array Oper} {T : List Value} {S : List Blk} {k : List Value → List Blk → Option α} {r : α}
    (h : evDrawK P gl ck rd fl ops T S k = some r) : ∃ T' S', evDraw P gl cl fl ops T S = some (T', S') ∧ k T' S' = some r := by
  unfold evDrawK at h
  split at h
  · cases h
  · rename_i hdp
    split at h
    · rename_i pre F tl hfs
      have hfs2 : floatStatic .any ops (floatsFirst .any ops (List.range ops.size) [] []) = some (pre, F, tl) := by
        have := hfs
        unfold firstStatic at this
        cases hp : plainCalls P ops with
        | true => rw [hp] at this; cases this
        | false => rw [hp] at this; exact this
      cases hl : laterG P ops pre with
      | true =>
        rw [hl] at h
        simp only at h
        split at h
        · rename_i pre2 F2 tl2 hsg
          obtain ⟨T1, S1, h1, h2⟩ := evPreK_ok hc hd _ _ _ _ _ h
          split at h2
          · rename_i B hB
            obtain ⟨T', S', h3, h4⟩ := evTailGK_ok hc hd _ _ _ _ _ _ h2
            exact ⟨T', S', by simp only [evDraw, hdp, hfs, hl, evFloatG, hsg, h1, hB, h3]; simp, h4⟩
          · cases h2
        · cases h
      | false =>
        rw [hl] at h
        simp only at h
        obtain ⟨T1, S1, h1, h2⟩ := evPreK_ok hc hd _ _ _ _ _ h
        split at h2
        · rename_i B hB
          obtain ⟨T', S', h3, h4⟩ := evTailFK_ok hc hd _ _ _ _ _ _ h2
          exact ⟨T', S', by simp only [evDraw, hdp, hfs, hl, evFloat, hfs2, h1, hB, h3]; simp, h4⟩
        · cases h2
    rename_i hfirst
    split at h
    · rename_i pre tl hst
      obtain ⟨T1, S1, h1, h2⟩ := evPreK_ok hc hd _ _ _ _ _ h
      obtain ⟨T', S', h3, h4⟩ := evTailK_ok hc hd _ _ _ _ _ h2
      exact ⟨T', S', by simp only [evDraw, hdp, hfirst, evRegion, hst, h1, h3]; simp, h4⟩
    · rename_i hst
      split at h
      · rename_i pre F tl hfs
        obtain ⟨T1, S1, h1, h2⟩ := evPreK_ok hc hd _ _ _ _ _ h
        split at h2
        · rename_i B hB
          obtain ⟨T', S', h3, h4⟩ := evTailFK_ok hc hd _ _ _ _ _ _ h2
          exact ⟨T', S', by simp only [evDraw, hdp, hfirst, hst, evFloat, hfs, h1, hB, h3]; simp, h4⟩
        · cases h2
      · rename_i hf0
        split at h
        · rename_i pre F tl hfs
          obtain ⟨T1, S1, h1, h2⟩ := evPreK_ok hc hd _ _ _ _ _ h
          split at h2
          · rename_i B hB
            obtain ⟨T', S', h3, h4⟩ := evTailFK_ok hc hd _ _ _ _ _ _ h2
            exact ⟨T', S', by simp only [evDraw, hdp, hfirst, hst, hf0, evFloat, hfs, h1, hB, h3]; simp, h4⟩
          · cases h2
        · rename_i hf1
          split at h
          · rename_i pre F tl hfs
            obtain ⟨T1, S1, h1, h2⟩ := evPreK_ok hc hd _ _ _ _ _ h
            split at h2
            · rename_i B hB
              obtain ⟨T', S', h3, h4⟩ := evTailGK_ok hc hd _ _ _ _ _ _ h2
              exact ⟨T', S', by simp only [evDraw, hdp, hfirst, hst, hf0, hf1, evFloatG, hfs, h1, hB, h3]; simp, h4⟩
            · cases h2
          · cases h

def RecK (rec : Nat → Code → List Value → List Blk → Option (Ex × List Value × List Blk)) (reck : Nat → Code → List Value → List Blk → (Ex → List Value → List Blk → Option α) → Option α) : Prop :=
  ∀ (fl : Nat) (c : Code) (T : List Value) (S : List Blk) (k : Ex → List Value → List Blk → Option α) (r : α), reck fl c T S k = some r → ∃ x T' S', rec fl c T S = some (x, T', S') ∧ k x T' S' = some r

theorem callInK_ok {rec : RecT} {reck : Nat → Code → List Value → List Blk → (Ex → List Value → List Blk → Option α) → Option α}
    (hr : RecK (rec false) reck) : CkOk (callIn P rec) (callInK P reck) := by
  intro fl f args S k r h
  unfold callInK at h
  simp only [appG_eq, padR_eq, lenR_eq] at h
  split at h
  · rename_i fn hfn
    split at h
    · rename_i c hb
      obtain ⟨x, T', S', h1, h2⟩ := hr _ _ _ _ _ _ h
      cases x with
      | exit id => cases h2
      | normal =>
        simp only at h2
        split at h2
        · rename_i vs hvs
          exact ⟨oneVal vs, S', by simp only [callIn, hfn, hb, forceK_eq, h1, hvs], h2⟩
        · cases h2
      | ret =>
        simp only at h2
        split at h2
        · rename_i vs hvs
          exact ⟨oneVal vs, S', by simp only [callIn, hfn, hb, forceK_eq, h1, hvs], h2⟩
        · cases h2
    · cases h
  · cases h

theorem callSK_ok {orc : Orc} {Sg : List Blk} {rec : RecT} {reck : Nat → Code → List Value → List Blk → (Ex → List Value → List Blk → Option α) → Option α}
    (hr : RecK (rec false) reck) : CkOk (callS P (orcOf orc) Sg rec) (callSK P orc Sg reck) := by
  intro fl f args S k r h
  unfold callSK at h
  split at h
  · rename_i hall
    split at h
    · rename_i t ho
      obtain ⟨v, hv, h⟩ := OT.ev_ok h
      split at h
      · rename_i hp
        exact ⟨v, S, by simp only [callS, hall, orcOf, ho, hv, hp, if_true], h⟩
      · cases h
    · rename_i ho
      obtain ⟨v, S', h1, h2⟩ := callInK_ok hr _ _ _ _ _ _ h
      split at h2
      · rename_i hp
        exact ⟨v, S, by simp only [callS, hall, orcOf, ho, h1, hp, if_true], h2⟩
      · cases h2
  · rename_i hall
    split at h
    · rename_i t ho
      obtain ⟨v, S', h1, h2⟩ := OTM.ev_ok h
      exact ⟨v, S', by simp only [callS, hall, orcOf, ho, h1]; simp, h2⟩
    · rename_i ho
      obtain ⟨v, S', h1, h2⟩ := callInK_ok hr _ _ _ _ _ _ h
      refine ⟨v, gcS S args v S', by simp only [callS, hall, orcOf, ho, h1]; simp, ?_⟩
      unfold gcS
      rw [forceK_eq] at h2
      cases hg : gcOk S args v S' with
      | false => rw [hg] at h2; exact h2
      | true => rw [hg] at h2; exact h2

theorem roundK_ok {rec : RecT} {reck : Nat → Code → List Value → List Blk → (Ex → List Value → List Blk → Option α) → Option α} (hr : RecK (rec true) reck) : RdOk (roundS rec) (roundK reck) := by
  intro fl l args S k r h
  unfold roundK at h
  simp only [forceK_eq] at h
  split at h
  · rename_i L hL
    split at h
    · rename_i hc
      obtain ⟨x, T1, S1, h1, h2⟩ := hr _ _ _ _ _ _ h
      split at h2
      · split at h2
        · rename_i p1 t1 q1 a1 b1 hL1
          obtain ⟨y, T3, S3, h3, h4⟩ := hr _ _ _ _ _ _ h2
          split at h4
          · rename_i L3 hL3
            exact ⟨_, _, by simp only [roundS, hL, hc, if_true, forceK_eq, h1, hL1, h3, hL3], h4⟩
          · cases h4
        · cases h2
      · cases h2
    · cases h
  · cases h
theorem rangeK_ok {rec : RecT} {reck : Nat → Code → List Value → List Blk → (Ex → List Value → List Blk → Option α) → Option α} (hr : RecK (rec false) reck) {gl fl : Nat} {f : Operand} {params : Array Tmp} {assign body : Code} {T : List Value} {S : List Blk} {k : Ex → List Value → List Blk → Option α} {r : α}
    (h : rangeK P gl reck fl f params assign body T S k = some r) : ∃ x T' S', rangeS P gl rec fl f params assign body T S = some (x, T', S') ∧ k x T' S' = some r := by
  unfold rangeK at h
  simp only [forceK_eq] at h
  split at h
  · rename_i hfl
    split at h
    · rename_i g hg
      split at h
      · rename_i hfn args hcal
        obtain ⟨u, S2, h1, h2⟩ := callInK_ok (P := P) hr _ _ _ _ _ _ h
        split at h2
        · rename_i L hL
          split at h2
          · cases h2
          · rename_i hst
            split at h2
            · rename_i hp
              refine ⟨_, _, _, ?_, h2⟩
              simp only [rangeS, hfl, if_true, hg, forceK_eq, hcal, h1, hL, hp]
            · rename_i hp
              refine ⟨_, _, _, ?_, h2⟩
              simp only [rangeS, hfl, if_true, hg, forceK_eq, hcal, h1, hL, hp]
            · rename_i id hp
              refine ⟨_, _, _, ?_, h2⟩
              simp only [rangeS, hfl, if_true, hg, forceK_eq, hcal, h1, hL, hp]
            · cases h2
        · cases h2
      · cases h
    · cases h
  · cases h

theorem evCodeB_ok {orc : Orc} {Sg : List Blk} : ∀ (n : Nat) (ro : Bool), RecK (evCode P (orcOf orc) Sg n ro) (evCodeB (α := α) P orc Sg n ro) := by
  intro n
  induction n with
  | zero => intro ro fl c T S k r h; (cases h)
  | succ n ihn =>
    intro ro
    have ih := ihn ro
    have hc : CkOk (callerS P (orcOf orc) Sg (evCode P (orcOf orc) Sg n)).call (callSK P orc Sg (evCodeB (α := α) P orc Sg n false)) := callSK_ok (ihn false)
    have hd : RdOk (callerS P (orcOf orc) Sg (evCode P (orcOf orc) Sg n)).round (roundK (evCodeB (α := α) P orc Sg n true)) := roundK_ok (ihn true)
    intro fl c T S k r h
    cases c with
    | skip => exact ⟨_, T, S, rfl, h⟩
    | label l => exact ⟨_, T, S, rfl, h⟩
    | scope b =>
      simp only [evCodeB] at h
      obtain ⟨x, T', S', h1, h2⟩ := ih _ _ _ _ _ _ h
      exact ⟨x, T', S', by simp only [evCode, h1], h2⟩
    | exit id => exact ⟨_, T, S, rfl, h⟩
    | ret => exact ⟨_, T, S, rfl, h⟩
    | seq a b =>
      simp only [evCodeB] at h
      obtain ⟨x, T1, S1, h1, h2⟩ := ih _ _ _ _ _ _ h
      cases x with
      | normal =>
        obtain ⟨y, T', S', h3, h4⟩ := ih _ _ _ _ _ _ h2
        exact ⟨y, T', S', by simp only [evCode, h1, h3], h4⟩
      | exit id => exact ⟨_, T1, S1, by simp only [evCode, h1], h2⟩
      | ret => exact ⟨_, T1, S1, by simp only [evCode, h1], h2⟩
    | cond y a b =>
      simp only [evCodeB, putK_eq] at h
      split at h
      · rename_i β hβ
        have same : putL T (tmpOf y) (.bool β) = T := by
          cases y with
          | tmp t => simp only [opd, Option.some.injEq] at hβ; exact set_same hβ
          | _ => rfl
        rcases bif_some h with ⟨rfl, h⟩ | ⟨rfl, h⟩
        · rw [same] at h
          obtain ⟨x, T', S', h1, h2⟩ := ih _ _ _ _ _ _ h
          exact ⟨x, T', S', by simp only [evCode, hβ, cond_true, h1], h2⟩
        · rw [same] at h
          obtain ⟨x, T', S', h1, h2⟩ := ih _ _ _ _ _ _ h
          exact ⟨x, T', S', by simp only [evCode, hβ, cond_false, h1], h2⟩
      · cases h
    | block id b =>
      simp only [evCodeB] at h
      obtain ⟨x, T1, S1, h1, h2⟩ := ih _ _ _ _ _ _ h
      cases x with
      | normal => exact ⟨_, T1, S1, by simp only [evCode, h1], h2⟩
      | ret => exact ⟨_, T1, S1, by simp only [evCode, h1], h2⟩
      | exit id' =>
        simp only at h2
        split at h2
        · rename_i he
          have he' : id' = id := by simpa using he
          exact ⟨_, T1, S1, by simp only [evCode, h1, he', if_true], h2⟩
        · rename_i he
          have he' : ¬ id' = id := fun e => by subst e; simp at he
          exact ⟨_, T1, S1, by simp only [evCode, h1, he', if_false], h2⟩
    | loop b =>
      simp only [evCodeB] at h
      obtain ⟨x, T1, S1, h1, h2⟩ := ih _ _ _ _ _ _ h
      cases x with
      | normal =>
        obtain ⟨y, T', S', h3, h4⟩ := ih _ _ _ _ _ _ h2
        exact ⟨y, T', S', by simp only [evCode, h1, h3], h4⟩
      | exit id => exact ⟨_, T1, S1, by simp only [evCode, h1], h2⟩
      | ret => exact ⟨_, T1, S1, by simp only [evCode, h1], h2⟩
    | region id ops draw =>
      cases draw with
      | false =>
        simp only [evCodeB] at h
        obtain ⟨T', S', h1, h2⟩ := evOpsK_ok hc hd _ _ _ _ _ h
        exact ⟨_, T', S', by simp only [evCode, h1], h2⟩
      | true =>
        simp only [evCodeB] at h
        obtain ⟨T', S', h1, h2⟩ := evDrawK_ok hc hd h
        exact ⟨_, T', S', by simp only [evCode, h1], h2⟩
    | rangeFunc g params assign bd =>
      simp only [evCodeB] at h
      cases ro with
      | true => cases h
      | false =>
        obtain ⟨x, T', S', h1, h2⟩ := rangeK_ok (ihn false) h
        exact ⟨x, T', S', by simp only [evCode, h1], h2⟩
    | _ => cases h
theorem evCodeK_ok {orc : Orc} {Sg : List Blk} (n : Nat) : RecK (evCode P (orcOf orc) Sg n false) (evCodeK (α := α) P orc Sg n) := evCodeB_ok n false

theorem evCodeC_ok {orc : Orc} {Sg : List Blk} : ∀ (n : Nat) (ro : Bool), RecK (evCode P (orcOf orc) Sg n ro) (evCodeC (α := α) P orc Sg n ro) := by
  intro n
  induction n with
  | zero => intro ro fl c T S k r h; (cases h)
  | succ n ihn =>
    intro ro
    have ih := ihn ro
    have hc : CkOk (callerS P (orcOf orc) Sg (evCode P (orcOf orc) Sg n)).call (callSK P orc Sg (evCodeC (α := α) P orc Sg n false)) := callSK_ok (ihn false)
    have hd : RdOk (callerS P (orcOf orc) Sg (evCode P (orcOf orc) Sg n)).round (roundK (evCodeC (α := α) P orc Sg n true)) := roundK_ok (ihn true)
    intro fl c T S k r h
    cases c with
    | skip => exact ⟨_, T, S, rfl, h⟩
    | label l => exact ⟨_, T, S, rfl, h⟩
    | scope b =>
      have h : evCodeC P orc Sg n ro fl b T S k = some r := h
      obtain ⟨x, T', S', h1, h2⟩ := ih _ _ _ _ _ _ h
      exact ⟨x, T', S', by simp only [evCode, h1], h2⟩
    | exit id => exact ⟨_, T, S, rfl, h⟩
    | ret => exact ⟨_, T, S, rfl, h⟩
    | seq a b =>
      have h : evCodeC P orc Sg n ro fl a T S (fun x T' S' => exC x (evCodeC P orc Sg n ro fl b T' S' k) (fun id => k (.exit id) T' S') (k .ret T' S')) = some r := h
      obtain ⟨x, T1, S1, h1, h2⟩ := ih _ _ _ _ _ _ h
      cases x with
      | normal =>
        obtain ⟨y, T', S', h3, h4⟩ := ih _ _ _ _ _ _ h2
        exact ⟨y, T', S', by simp only [evCode, h1, h3], h4⟩
      | exit id => exact ⟨_, T1, S1, by simp only [evCode, h1], h2⟩
      | ret => exact ⟨_, T1, S1, by simp only [evCode, h1], h2⟩
    | cond y a b =>
      have h : (opdR Sg.length T y fun v => vbool v (fun β => bif β then evCodeC P orc Sg n ro fl a T S k else evCodeC P orc Sg n ro fl b T S k) none) = some r := h
      rw [opdR_eq, opdK_eq] at h
      cases hβ : opd Sg.length T y with
      | none => rw [hβ] at h; cases h
      | some v =>
        rw [hβ] at h
        cases v <;> first | (cases h; done) | skip
        rename_i β
        have h : (bif β then evCodeC P orc Sg n ro fl a T S k else evCodeC P orc Sg n ro fl b T S k) = some r := h
        rcases bif_some h with ⟨rfl, h⟩ | ⟨rfl, h⟩
        · obtain ⟨x, T', S', h1, h2⟩ := ih _ _ _ _ _ _ h
          exact ⟨x, T', S', by simp only [evCode, hβ, cond_true, h1], h2⟩
        · obtain ⟨x, T', S', h1, h2⟩ := ih _ _ _ _ _ _ h
          exact ⟨x, T', S', by simp only [evCode, hβ, cond_false, h1], h2⟩
    | block id b =>
      have h : evCodeC P orc Sg n ro fl b T S (fun x T' S' => exC x (k .normal T' S') (fun id' => bif Nat.beq id' id then k .normal T' S' else k (.exit id') T' S') (k .ret T' S')) = some r := h
      obtain ⟨x, T1, S1, h1, h2⟩ := ih _ _ _ _ _ _ h
      cases x with
      | normal => exact ⟨_, T1, S1, by simp only [evCode, h1], h2⟩
      | ret => exact ⟨_, T1, S1, by simp only [evCode, h1], h2⟩
      | exit id' =>
        have h2 : (bif Nat.beq id' id then k .normal T1 S1 else k (.exit id') T1 S1) = some r := h2
        rcases bif_some h2 with ⟨he, h2⟩ | ⟨he, h2⟩
        · have he' : id' = id := by simpa using he
          exact ⟨_, T1, S1, by simp only [evCode, h1, he', if_true], h2⟩
        · have he' : ¬ id' = id := fun e => by subst e; simp at he
          exact ⟨_, T1, S1, by simp only [evCode, h1, he', if_false], h2⟩
    | loop b =>
      have h : evCodeC P orc Sg n ro fl b T S (fun x T' S' => exC x (evCodeC P orc Sg n ro fl (.loop b) T' S' k) (fun id => k (.exit id) T' S') (k .ret T' S')) = some r := h
      obtain ⟨x, T1, S1, h1, h2⟩ := ih _ _ _ _ _ _ h
      cases x with
      | normal =>
        obtain ⟨y, T', S', h3, h4⟩ := ih _ _ _ _ _ _ h2
        exact ⟨y, T', S', by simp only [evCode, h1, h3], h4⟩
      | exit id => exact ⟨_, T1, S1, by simp only [evCode, h1], h2⟩
      | ret => exact ⟨_, T1, S1, by simp only [evCode, h1], h2⟩
    | region id ops draw =>
      cases draw with
      | false =>
        obtain ⟨T', S', h1, h2⟩ := evOpsK_ok hc hd _ _ _ _ _ h
        exact ⟨_, T', S', by simp only [evCode, h1], h2⟩
      | true =>
        obtain ⟨T', S', h1, h2⟩ := evDrawK_ok hc hd h
        exact ⟨_, T', S', by simp only [evCode, h1], h2⟩
    | rangeFunc g params assign bd =>
      cases ro with
      | true => cases h
      | false =>
        obtain ⟨x, T', S', h1, h2⟩ := rangeK_ok (ihn false) h
        exact ⟨x, T', S', by simp only [evCode, h1], h2⟩
    | _ => cases h

/-- What has been evaluated apart from all else is what the call does in every world in which the package-level variables hold what was assumed. -/
theorem runK_calls {orc : Orc} {Sg : List Blk} (hsg : SgOk Sg) (horc : OrcOk P Sg (orcOf orc)) {n : Nat} {f : FuncId} {args : List Value} {v : Value}
    (h : runK P orc Sg n f args = some v) (hargs : args.all plain = true) {w : World} (inv : Inv Sg (baseRen Sg.length) Sg w) :
    Calls P f args.toArray w fun e w' => e = .returned v ∧ Below w.heap.size w w' := by
  obtain ⟨u, S', h1, h2⟩ := callInK_ok (P := P) (evCodeK_ok n) _ _ _ _ _ _ h
  split at h2
  · rename_i hp
    cases h2
    exact run_calls hsg horc (n := n) (by simp only [run, h1, hp, if_true]) hargs inv
  · cases h2
theorem runC_calls {orc : Orc} {Sg : List Blk} (hsg : SgOk Sg) (horc : OrcOk P Sg (orcOf orc)) {n : Nat} {f : FuncId} {args : List Value} {v : Value}
    (h : runC P orc Sg n f args = some v) (hargs : args.all plain = true) {w : World} (inv : Inv Sg (baseRen Sg.length) Sg w) :
    Calls P f args.toArray w fun e w' => e = .returned v ∧ Below w.heap.size w w' := by
  obtain ⟨u, S', h1, h2⟩ := callInK_ok (P := P) (evCodeC_ok n false) _ _ _ _ _ _ h
  split at h2
  · rename_i hp
    cases h2
    exact run_calls hsg horc (n := n) (by simp only [run, h1, hp, if_true]) hargs inv
  · cases h2
end
end
end Go.Proofs.XX.Vm
/- A small evaluator over a shadow heap, part 23: what a piece of code comes to, without its fuel; loops by a measure. -/
namespace Go.Proofs.XX.Vm
open Go Go.RowKit

section
variable {P : Program} {α : Type} {orc : Orc} {Sg : List Blk}

abbrev Kont (α : Type) := Ex → List Value → List Blk → Option α

/-- With fuel enough the code comes to an end that meets Q, whatever is done then. -/
def Ev (P : Program) (orc : Orc) (Sg : List Blk) (α : Type) (fl : Nat) (c : Code) (T : List Value) (S : List Blk) (Q : Ex → List Value → List Blk → Prop) : Prop :=
  ∃ n x T' S', Q x T' S' ∧ ∀ m, n ≤ m → ∀ k : Kont α, evCodeK P orc Sg m fl c T S k = k x T' S'

theorem Ev.mono {fl : Nat} {c : Code} {T : List Value} {S : List Blk} {Q R : Ex → List Value → List Blk → Prop} (h : Ev P orc Sg α fl c T S Q) (hq : ∀ x T' S', Q x T' S' → R x T' S') : Ev P orc Sg α fl c T S R := by
  obtain ⟨n, x, T', S', q, e⟩ := h
  exact ⟨n, x, T', S', hq _ _ _ q, e⟩

/-- Straight on. -/
theorem Ev.of_eq {fl : Nat} {c : Code} {T T' : List Value} {S S' : List Blk} {x : Ex} {Q : Ex → List Value → List Blk → Prop} (d : Nat)
    (h : ∀ m (k : Kont α), evCodeK P orc Sg (m + d) fl c T S k = k x T' S') (q : Q x T' S') : Ev P orc Sg α fl c T S Q := by
  refine ⟨d, x, T', S', q, fun m hm k => ?_⟩
  have := h (m - d) k
  rwa [Nat.sub_add_cancel hm] at this

theorem Ev.seq {fl : Nat} {a b : Code} {T : List Value} {S : List Blk} {Q : Ex → List Value → List Blk → Prop}
    (h : Ev P orc Sg α fl a T S fun x T' S' => match x with
      | .normal => Ev P orc Sg α fl b T' S' Q
      | .exit id => Q (.exit id) T' S'
      | .ret => Q .ret T' S') : Ev P orc Sg α fl (.seq a b) T S Q := by
  obtain ⟨n, x, T', S', q, e⟩ := h
  cases x with
  | normal =>
    obtain ⟨n2, x2, T2, S2, q2, e2⟩ := q
    refine ⟨max n n2 + 1, x2, T2, S2, q2, fun m hm k => ?_⟩
    obtain ⟨m', rfl⟩ : ∃ m', m = m' + 1 := ⟨m - 1, by omega⟩
    show evCodeK P orc Sg m' fl a T S _ = _
    rw [e m' (by omega)]
    exact e2 m' (by omega) k
  | exit id =>
    refine ⟨n + 1, _, T', S', q, fun m hm k => ?_⟩
    obtain ⟨m', rfl⟩ : ∃ m', m = m' + 1 := ⟨m - 1, by omega⟩
    show evCodeK P orc Sg m' fl a T S _ = _
    rw [e m' (by omega)]
  | ret =>
    refine ⟨n + 1, _, T', S', q, fun m hm k => ?_⟩
    obtain ⟨m', rfl⟩ : ∃ m', m = m' + 1 := ⟨m - 1, by omega⟩
    show evCodeK P orc Sg m' fl a T S _ = _
    rw [e m' (by omega)]

theorem Ev.block {fl : Nat} {b : Code} {id : Nat} {T : List Value} {S : List Blk} {Q : Ex → List Value → List Blk → Prop}
    (h : Ev P orc Sg α fl b T S fun x T' S' => match x with
      | .normal => Q .normal T' S'
      | .exit id' => Q (bif Nat.beq id' id then .normal else .exit id') T' S'
      | .ret => Q .ret T' S') : Ev P orc Sg α fl (.block id b) T S Q := by
  obtain ⟨n, x, T', S', q, e⟩ := h
  cases x with
  | normal =>
    refine ⟨n + 1, _, T', S', q, fun m hm k => ?_⟩
    obtain ⟨m', rfl⟩ : ∃ m', m = m' + 1 := ⟨m - 1, by omega⟩
    show evCodeK P orc Sg m' fl b T S _ = _
    rw [e m' (by omega)]
  | exit id' =>
    refine ⟨n + 1, _, T', S', q, fun m hm k => ?_⟩
    obtain ⟨m', rfl⟩ : ∃ m', m = m' + 1 := ⟨m - 1, by omega⟩
    show evCodeK P orc Sg m' fl b T S _ = _
    rw [e m' (by omega)]
    simp only
    cases Nat.beq id' id <;> rfl
  | ret =>
    refine ⟨n + 1, _, T', S', q, fun m hm k => ?_⟩
    obtain ⟨m', rfl⟩ : ∃ m', m = m' + 1 := ⟨m - 1, by omega⟩
    show evCodeK P orc Sg m' fl b T S _ = _
    rw [e m' (by omega)]

theorem Ev.scope {fl : Nat} {b : Code} {T : List Value} {S : List Blk} {Q : Ex → List Value → List Blk → Prop} (h : Ev P orc Sg α fl b T S Q) : Ev P orc Sg α fl (.scope b) T S Q := by
  obtain ⟨n, x, T', S', q, e⟩ := h
  refine ⟨n + 1, _, T', S', q, fun m hm k => ?_⟩
  obtain ⟨m', rfl⟩ : ∃ m', m = m' + 1 := ⟨m - 1, by omega⟩
  exact e m' (by omega) k

/-- A loop: I is kept, and the measure falls. -/
theorem Ev.loop {fl : Nat} {b : Code} (I : Nat → List Value → List Blk → Prop) {Q : Ex → List Value → List Blk → Prop}
    (h : ∀ m T S, I m T S → Ev P orc Sg α fl b T S fun x T' S' => match x with
      | .normal => ∃ m', m' < m ∧ I m' T' S'
      | .exit id => Q (.exit id) T' S'
      | .ret => Q .ret T' S') : ∀ m T S, I m T S → Ev P orc Sg α fl (.loop b) T S Q := by
  intro m
  induction m using Nat.strongRecOn with
  | ind m ih =>
    intro T S hI
    obtain ⟨n, x, T', S', q, e⟩ := h m T S hI
    cases x with
    | normal =>
      obtain ⟨m', hm', hI'⟩ := q
      obtain ⟨n2, x2, T2, S2, q2, e2⟩ := ih m' hm' T' S' hI'
      refine ⟨max n n2 + 1, x2, T2, S2, q2, fun m hm k => ?_⟩
      obtain ⟨m', rfl⟩ : ∃ m', m = m' + 1 := ⟨m - 1, by omega⟩
      show evCodeK P orc Sg m' fl b T S _ = _
      rw [e m' (by omega)]
      exact e2 m' (by omega) k
    | exit id =>
      refine ⟨n + 1, _, T', S', q, fun m hm k => ?_⟩
      obtain ⟨m', rfl⟩ : ∃ m', m = m' + 1 := ⟨m - 1, by omega⟩
      show evCodeK P orc Sg m' fl b T S _ = _
      rw [e m' (by omega)]
    | ret =>
      refine ⟨n + 1, _, T', S', q, fun m hm k => ?_⟩
      obtain ⟨m', rfl⟩ : ∃ m', m = m' + 1 := ⟨m - 1, by omega⟩
      show evCodeK P orc Sg m' fl b T S _ = _
      rw [e m' (by omega)]

/-- A whole call of plain numbers. -/
def EvF (P : Program) (orc : Orc) (Sg : List Blk) (f : FuncId) (args : List Value) (v : Value) : Prop :=
  ∃ n, ∀ m, n ≤ m → runK P orc Sg m f args = some v

theorem EvF.of_eq {f : FuncId} {args : List Value} {v : Value} (d : Nat) (h : ∀ m, runK P orc Sg (m + d) f args = some v) : EvF P orc Sg f args v := by
  refine ⟨d, fun m hm => ?_⟩
  have := h (m - d)
  rwa [Nat.sub_add_cancel hm] at this

/-- A function's body. -/
noncomputable def bodyOf (P : Program) (f : FuncId) : Code := match P.funcs[f]? with
  | some fn => match fn.body with
    | some c => c
    | none => .skip
  | none => .skip
noncomputable def tmps0Of (P : Program) (f : FuncId) (args : List Value) : List Value := match P.funcs[f]? with
  | some fn => args ++ List.replicate (fn.ntmps - args.length) undef
  | none => []
noncomputable def outOf (P : Program) (f : FuncId) (T : List Value) (S : List Blk) : Option Value := match P.funcs[f]? with
  | some fn => match fn.body with
    | some _ => match resVals P T S fn.results.toList with
      | some vs => some (oneVal vs)
      | none => none
    | none => none
  | none => none

theorem EvF.of_body {f : FuncId} {args : List Value} {v : Value} (hv : plain v = true)
    (h : Ev P orc Sg Value Sg.length (bodyOf P f) (tmps0Of P f args) Sg fun x T' S' => (match x with | .exit _ => False | _ => True) ∧ outOf P f T' S' = some v) : EvF P orc Sg f args v := by
  obtain ⟨n, x, T', S', ⟨hx, ho⟩, e⟩ := h
  refine ⟨n, fun m hm => ?_⟩
  unfold runK callInK
  unfold outOf at ho
  cases hf : P.funcs[f]? with
  | none => rw [hf] at ho; cases ho
  | some fn =>
    rw [hf] at ho
    simp only at ho ⊢
    cases hb : fn.body with
    | none => rw [hb] at ho; cases ho
    | some c =>
      rw [hb] at ho
      simp only at ho
      have e' := e m hm
      unfold bodyOf tmps0Of at e'
      rw [hf] at e'
      simp only [hb] at e'
      simp only [appG_eq, padR_eq, lenR_eq]
      rw [e']
      cases hr : resVals P T' S' fn.results.toList with
      | none => rw [hr] at ho; cases ho
      | some vs =>
        rw [hr] at ho
        cases ho
        cases x with
        | exit id => exact hx.elim
        | normal => simp only [hv, if_true]
        | ret => simp only [hv, if_true]
/-- What a call that was evaluated does in the world. -/
theorem EvF.calls (hsg : SgOk Sg) (horc : OrcOk P Sg (orcOf orc)) {f : FuncId} {args : List Value} {v : Value} (h : EvF P orc Sg f args v) (hargs : args.all plain = true) {w : World} (inv : Inv Sg (baseRen Sg.length) Sg w) :
    Calls P f args.toArray w fun e w' => e = .returned v ∧ Below w.heap.size w w' := by
  obtain ⟨n, e⟩ := h
  exact runK_calls hsg horc (e n (Nat.le_refl _)) hargs inv
end
end Go.Proofs.XX.Vm
/- A small evaluator over a shadow heap, part 24: a body as a list of pieces, each with a fuel of its own. -/
namespace Go.Proofs.XX.Vm
open Go Go.RowKit

noncomputable section
variable {P : Program} {α : Type} {orc : Orc} {Sg : List Blk}

def flatC : Code → List Code
  | .seq a b => flatC a ++ flatC b
  | c => [c]
def depthC : Code → Nat
  | .seq a b => max (depthC a) (depthC b) + 1
  | _ => 0
/-- Piece by piece; the i-th with 60 and fs i rounds of fuel. -/
def evP (P : Program) (orc : Orc) (Sg : List Blk) (fl : Nat) (fs : Nat → Nat) : Nat → List Code → List Value → List Blk → Kont α → Option α
  | _, [], T, S, k => k .normal T S
  | i, c :: l, T, S, k => evCodeK P orc Sg (fs i + 60) fl c T S fun x T' S' => match x with
      | .normal => evP P orc Sg fl fs (i + 1) l T' S' k
      | .exit id => k (.exit id) T' S'
      | .ret => k .ret T' S'
theorem evP_congr {fl : Nat} {fs gs : Nat → Nat} {i j : Nat} {l : List Code} (h : ∀ n, n < l.length → fs (i + n) = gs (j + n)) : ∀ (T : List Value) (S : List Blk) (k : Kont α), evP P orc Sg fl fs i l T S k = evP P orc Sg fl gs j l T S k := by
  induction l generalizing i j with
  | nil => intro T S k; rfl
  | cons c l ih =>
    intro T S k
    have h0 := h 0 (by simp)
    simp only [Nat.add_zero] at h0
    simp only [evP, h0]
    congr 1
    funext x T' S'
    cases x with
    | normal =>
      refine ih (fun n hn => ?_) _ _ _
      have := h (n + 1) (by simp; omega)
      rw [show i + (n + 1) = i + 1 + n by omega, show j + (n + 1) = j + 1 + n by omega] at this
      exact this
    | exit id => rfl
    | ret => rfl
theorem evP_append {fl : Nat} {fs : Nat → Nat} {l m : List Code} : ∀ (i : Nat) (T : List Value) (S : List Blk) (k : Kont α), evP P orc Sg fl fs i (l ++ m) T S k = evP P orc Sg fl fs i l T S fun x T' S' => match x with
      | .normal => evP P orc Sg fl fs (i + l.length) m T' S' k
      | .exit id => k (.exit id) T' S'
      | .ret => k .ret T' S' := by
  induction l with
  | nil => intro i T S k; simp [evP]
  | cons c l ih =>
    intro i T S k
    simp only [List.cons_append, evP]
    congr 1
    funext x T' S'
    cases x with
    | normal =>
      simp only [ih]
      congr 1
      funext x T2 S2
      cases x with
      | normal => simp only [List.length_cons, show i + 1 + l.length = i + (l.length + 1) by omega]
      | exit id => rfl
      | ret => rfl
    | exit id => rfl
    | ret => rfl
theorem evCodeK_flat {fl : Nat} : ∀ (c : Code) (m : Nat), depthC c + 60 ≤ m → ∃ fs : Nat → Nat, (∀ i, m ≤ fs i + depthC c + 60) ∧ ∀ (T : List Value) (S : List Blk) (k : Kont α), evCodeK P orc Sg m fl c T S k = evP P orc Sg fl fs 0 (flatC c) T S k := by
  have one : ∀ (c : Code) (m : Nat), flatC c = [c] → 60 ≤ m → ∃ fs : Nat → Nat, (∀ i, m ≤ fs i + depthC c + 60) ∧ ∀ (T : List Value) (S : List Blk) (k : Kont α), evCodeK P orc Sg m fl c T S k = evP P orc Sg fl fs 0 (flatC c) T S k := by
    intro c m hc hm
    refine ⟨fun _ => m - 60, fun i => by show m ≤ m - 60 + depthC c + 60; omega, fun T S k => ?_⟩
    rw [hc]
    simp only [evP, Nat.sub_add_cancel hm]
    congr 1
    funext x T' S'
    cases x <;> rfl
  intro c
  induction c with
  | seq a b iha ihb =>
    intro m hm
    simp only [depthC] at hm ⊢
    obtain ⟨m', rfl⟩ : ∃ m', m = m' + 1 := ⟨m - 1, by omega⟩
    obtain ⟨fa, ha, ea⟩ := iha m' (by omega)
    obtain ⟨fb, hb, eb⟩ := ihb m' (by omega)
    refine ⟨fun i => if i < (flatC a).length then fa i else fb (i - (flatC a).length), fun i => ?_, fun T S k => ?_⟩
    · simp only
      split
      · have := ha i; omega
      · have := hb (i - (flatC a).length); omega
    · show evCodeK P orc Sg m' fl a T S _ = _
      rw [ea]
      simp only [flatC, evP_append]
      rw [evP_congr (gs := fun i => if i < (flatC a).length then fa i else fb (i - (flatC a).length)) (j := 0) (fun n hn => by simp [hn])]
      congr 1
      funext x T' S'
      cases x with
      | normal =>
        show evCodeK P orc Sg m' fl b T' S' k = evP P orc Sg fl _ (0 + (flatC a).length) (flatC b) T' S' k
        rw [eb]
        refine evP_congr (fun n hn => ?_) _ _ _
        simp; omega
      | exit id => rfl
      | ret => rfl
  | _ => intro m hm; exact one _ m rfl (by simpa [depthC] using hm)

/-- The pieces come to an end that meets Q. -/
def EvP (P : Program) (orc : Orc) (Sg : List Blk) (α : Type) (fl : Nat) (i : Nat) (l : List Code) (T : List Value) (S : List Blk) (Q : Ex → List Value → List Blk → Prop) : Prop :=
  ∃ n x T' S', Q x T' S' ∧ ∀ fs : Nat → Nat, (∀ i, n ≤ fs i) → ∀ k : Kont α, evP P orc Sg fl fs i l T S k = k x T' S'
theorem Ev.of_pieces {fl : Nat} {c : Code} {T : List Value} {S : List Blk} {Q : Ex → List Value → List Blk → Prop} (h : EvP P orc Sg α fl 0 (flatC c) T S Q) : Ev P orc Sg α fl c T S Q := by
  obtain ⟨n, x, T', S', q, e⟩ := h
  refine ⟨n + depthC c + 60, x, T', S', q, fun m hm k => ?_⟩
  obtain ⟨fs, h1, h2⟩ := evCodeK_flat (P := P) (α := α) (orc := orc) (Sg := Sg) (fl := fl) c m (by omega)
  rw [h2]
  exact e fs (fun i => by have := h1 i; omega) k
theorem EvP.nil {fl i : Nat} {T : List Value} {S : List Blk} {Q : Ex → List Value → List Blk → Prop} (h : Q .normal T S) : EvP P orc Sg α fl i [] T S Q :=
  ⟨0, _, _, _, h, fun _ _ _ => rfl⟩
/-- The first piece by a theorem of its own. -/
theorem EvP.step {fl i : Nat} {c : Code} {l : List Code} {T : List Value} {S : List Blk} {Q : Ex → List Value → List Blk → Prop}
    (h : Ev P orc Sg α fl c T S fun x T' S' => match x with
      | .normal => EvP P orc Sg α fl (i + 1) l T' S' Q
      | .exit id => Q (.exit id) T' S'
      | .ret => Q .ret T' S') : EvP P orc Sg α fl i (c :: l) T S Q := by
  obtain ⟨n, x, T', S', q, e⟩ := h
  cases x with
  | normal =>
    obtain ⟨n2, x2, T2, S2, q2, e2⟩ := q
    refine ⟨max n n2, x2, T2, S2, q2, fun fs hfs k => ?_⟩
    simp only [evP]
    rw [e _ (by have := hfs i; omega)]
    exact e2 fs (fun i => by have := hfs i; omega) k
  | exit id =>
    refine ⟨n, _, T', S', q, fun fs hfs k => ?_⟩
    simp only [evP]
    rw [e _ (by have := hfs i; omega)]
  | ret =>
    refine ⟨n, _, T', S', q, fun fs hfs k => ?_⟩
    simp only [evP]
    rw [e _ (by have := hfs i; omega)]
/-- Some pieces by an equation for whatever follows. -/
theorem EvP.run {fl i j : Nat} {l l' : List Code} {T T' : List Value} {S S' : List Blk} {Q : Ex → List Value → List Blk → Prop}
    (e : ∀ (fs : Nat → Nat) (k : Kont α), evP P orc Sg fl fs i l T S k = evP P orc Sg fl fs j l' T' S' k) (h : EvP P orc Sg α fl j l' T' S' Q) : EvP P orc Sg α fl i l T S Q := by
  obtain ⟨n, x, T2, S2, q, e2⟩ := h
  exact ⟨n, x, T2, S2, q, fun fs hfs k => (e fs k).trans (e2 fs hfs k)⟩
theorem EvP.stop {fl i : Nat} {l : List Code} {T T' : List Value} {S S' : List Blk} {x : Ex} {Q : Ex → List Value → List Blk → Prop}
    (e : ∀ (fs : Nat → Nat) (k : Kont α), evP P orc Sg fl fs i l T S k = k x T' S') (h : Q x T' S') : EvP P orc Sg α fl i l T S Q :=
  ⟨0, x, T', S', h, fun fs _ k => e fs k⟩
/-- The pieces of a function's body. -/
def pcs (P : Program) (f : FuncId) : List Code := flatC (bodyOf P f)
def nthC (l : List Code) (i : Nat) : Code := match getR l i with
  | some c => c
  | none => .skip
/-- The loops of a piece, in the order of the text. -/
def loopsOf : Code → List Code
  | .loop b => b :: loopsOf b
  | .seq a b => loopsOf a ++ loopsOf b
  | .cond _ a b => loopsOf a ++ loopsOf b
  | .block _ b => loopsOf b
  | .scope b => loopsOf b
  | _ => []
def loopOf (P : Program) (f i : Nat) : Code := nthC (loopsOf (bodyOf P f)) i
end
end Go.Proofs.XX.Vm
/- A small evaluator over a shadow heap, part 25: what was evaluated in a small heap of its own holds in every heap in which the same blocks lie, wherever they lie there. -/
namespace Go.Proofs.XX.Vm
open Go Go.RowKit

/-- Blocks renamed: in what a closure has captured. -/
def renA (σ : Nat → Nat) : Value → Value
  | .pointer (some ⟨b, o, s⟩) => .pointer (some ⟨σ b, o, s⟩)
  | .slice (some ⟨b, o, s⟩) n c => .slice (some ⟨σ b, o, s⟩) n c
  | .map (some b) => .map (some (σ b))
  | v => v
/-- Blocks renamed: in one cell's value, in a struct's or an array's, in several results. -/
def renS (σ : Nat → Nat) : Value → Value
  | .pointer (some ⟨b, o, s⟩) => .pointer (some ⟨σ b, o, s⟩)
  | .slice (some ⟨b, o, s⟩) n c => .slice (some ⟨σ b, o, s⟩) n c
  | .map (some b) => .map (some (σ b))
  | .func (.func f) x c => .func (.func f) ⟨x.toList.map (renA σ)⟩ ⟨c.toList.map (renA σ)⟩
  | v => v
def ren2 (σ : Nat → Nat) : Value → Value
  | .agg x => .agg (x.map (renS σ))
  | v => renS σ v
def ren3 (σ : Nat → Nat) : Value → Value
  | .tuple x => .tuple (x.map (ren2 σ))
  | v => ren2 σ v
/-- Values in which renS, ren2, ren3 reach all blocks. -/
def shA (n : Nat) : Value → Bool
  | .agg x => x.toList.all scalar
  | .tuple _ => false
  | .iface _ _ => false
  | .pointer (some ⟨b, _, _⟩) => Nat.blt b n
  | .slice (some ⟨b, _, _⟩) _ _ => Nat.blt b n
  | .map (some b) => Nat.blt b n
  | .func (.func _) x c => x.toList.isEmpty && c.toList.isEmpty
  | .func _ _ _ => false
  | _ => true
def sh1 (n : Nat) : Value → Bool
  | .agg _ | .tuple _ => false
  | .iface _ _ => false
  | .pointer (some ⟨b, _, _⟩) => Nat.blt b n
  | .slice (some ⟨b, _, _⟩) _ _ => Nat.blt b n
  | .map (some b) => Nat.blt b n
  | .func (.func _) x c => x.toList.all (shA n) && c.toList.all (shA n)
  | .func _ _ _ => false
  | _ => true
def sh2 (n : Nat) : Value → Bool
  | .agg x => x.toList.all (sh1 n)
  | v => sh1 n v
def sh3 (n : Nat) : Value → Bool
  | .tuple x => x.toList.all (sh2 n)
  | v => sh2 n v

section
variable {φ ψ : Ren} {σ : Nat → Nat} {n : Nat}
theorem shA_to (hψ : ∀ i r, i < n → φ i = some r → ψ (σ i) = some r ∧ ψ.cap r = φ.cap r) {v v' : Value} (h : shA n v = true) (r : VRel φ v v') : VRel ψ (renA σ v) v' := by
  by_cases ha : ∃ x, v = .agg x
  · obtain ⟨x, rfl⟩ := ha
    have hf : flat (.agg x) = true := h
    have e := flat_eq hf r
    subst e
    exact flat_refl hf
  cases r
  case bool b => exact .bool b
  case int k n => exact .int k n
  case string s => exact .string s
  case nilPtr => exact .nilPtr
  case ptr hb => exact .ptr (hψ _ _ (by simpa [shA, Nat.blt_eq] using h) hb).1
  case nilSlice n c => exact .nilSlice n c
  case slice hb hc hn hk => exact .slice (hψ _ _ (by simpa [shA, Nat.blt_eq] using h) hb).1 hc hn (by unfold CapOk at *; rw [(hψ _ _ (by simpa [shA, Nat.blt_eq] using h) hb).2]; exact hk)
  case empty a a' c hc => exact .empty _ _ _ hc
  case emptyS b o a' c' => exact .emptyS _ _ _ _
  case nilMap => exact .nilMap
  case junk => exact .junk _
  case map hb => exact .map (hψ _ _ (by simpa [shA, Nat.blt_eq] using h) hb).1
  case nilFunc => exact .nilFunc
  case yield hl => simp [shA] at h
  case func f x x' c c' hx ex hc ec =>
    simp [shA] at h
    obtain ⟨rfl, rfl⟩ := h
    have e1 : x' = #[] := Array.eq_empty_of_size_eq_zero (by simpa using hx.symm)
    have e2 : c' = #[] := Array.eq_empty_of_size_eq_zero (by simpa using hc.symm)
    subst e1 e2
    exact .func f rfl (by simp) rfl (by simp)
  case agg => exact absurd ⟨_, rfl⟩ ha
  case tuple => simp [shA] at h
  case qs => simp [shA] at h
  case qp => simp [shA] at h
theorem shA_from (hψ : ∀ i r, i < n → ψ (σ i) = some r → φ i = some r ∧ φ.cap r = ψ.cap r) {v v' : Value} (h : shA n v = true) (r : VRel ψ (renA σ v) v') : VRel φ v v' := by
  by_cases ha : ∃ x, v = .agg x
  · obtain ⟨x, rfl⟩ := ha
    have hf : flat (.agg x) = true := h
    have e := flat_eq hf (show VRel ψ (.agg x) v' from r)
    subst e
    exact flat_refl hf
  cases v
  case bool b => cases r; exact .bool b
  case int k n => cases r; exact .int k n
  case string s => cases r; exact .string s
  case pointer a =>
    cases a with
    | none => cases r; exact .nilPtr
    | some a => obtain ⟨b, o, s⟩ := a; cases r with | ptr hb => exact .ptr (hψ _ _ (by simpa [shA, Nat.blt_eq] using h) hb).1
  case slice a n c =>
    cases a with
    | none => cases r; exact .nilSlice n c
    | some a => obtain ⟨b, o, s⟩ := a; cases r with
      | slice hb hc hn hk => exact .slice (hψ _ _ (by simpa [shA, Nat.blt_eq] using h) hb).1 hc hn (by unfold CapOk at *; rw [(hψ _ _ (by simpa [shA, Nat.blt_eq] using h) hb).2]; exact hk)
      | empty a1 a2 c1 hc => exact .empty _ _ _ hc
      | emptyS b0 o0 a2 c2 => exact .emptyS _ _ _ _
  case map a =>
    cases a with
    | none => cases r; exact .nilMap
    | some b => cases r with | map hb => exact .map (hψ _ _ (by simpa [shA, Nat.blt_eq] using h) hb).1
  case nilFunc => cases r; exact .nilFunc
  case func f x c =>
    cases f
    case func f =>
      simp [shA] at h
      obtain ⟨rfl, rfl⟩ := h
      cases r with
      | func f hx ex hc ec =>
        rename_i x' c'
        have e1 : x' = #[] := Array.eq_empty_of_size_eq_zero (by simpa using hx.symm)
        have e2 : c' = #[] := Array.eq_empty_of_size_eq_zero (by simpa using hc.symm)
        subst e1 e2
        exact .func f rfl (by simp) rfl (by simp)
    all_goals simp [shA] at h
  case agg => exact absurd ⟨_, rfl⟩ ha
  case tuple => simp [shA] at h
  case iface => simp [shA] at h
  case chan a => simp only [renA] at r; cases r; exact .junk _
  all_goals (simp only [renA] at r; cases r)
theorem shL_to (p : Value → Bool) (f : Value → Value) (hp : ∀ v v', p v = true → VRel φ v v' → VRel ψ (f v) v') : ∀ {l l' : List Value}, l.all p = true → LRel φ l l' → LRel ψ (l.map f) l'
  | [], [], _, _ => LRel.nil _
  | v :: l, v' :: l', h, r => by
    simp only [List.all_cons, Bool.and_eq_true] at h
    exact LRel.cons (hp _ _ h.1 r.head) (shL_to p f hp h.2 r.tail)
  | [], _ :: _, _, r => by simp [LRel] at r
  | _ :: _, [], _, r => by simp [LRel] at r
theorem shL_from (p : Value → Bool) (f : Value → Value) (hp : ∀ v v', p v = true → VRel ψ (f v) v' → VRel φ v v') : ∀ {l l' : List Value}, l.all p = true → LRel ψ (l.map f) l' → LRel φ l l'
  | [], [], _, _ => LRel.nil _
  | v :: l, v' :: l', h, r => by
    simp only [List.all_cons, Bool.and_eq_true] at h
    exact LRel.cons (hp _ _ h.1 r.head) (shL_from p f hp h.2 r.tail)
  | [], _ :: _, _, r => by simp [LRel] at r
  | _ :: _, [], _, r => by simp [LRel] at r
theorem sh1_to (hψ : ∀ i r, i < n → φ i = some r → ψ (σ i) = some r ∧ ψ.cap r = φ.cap r) {v v' : Value} (h : sh1 n v = true) (r : VRel φ v v') : VRel ψ (renS σ v) v' := by
  cases r
  case bool b => exact .bool b
  case int k n => exact .int k n
  case string s => exact .string s
  case nilPtr => exact .nilPtr
  case ptr hb => exact .ptr (hψ _ _ (by simpa [sh1, Nat.blt_eq] using h) hb).1
  case nilSlice n c => exact .nilSlice n c
  case slice hb hc hn hk => exact .slice (hψ _ _ (by simpa [sh1, Nat.blt_eq] using h) hb).1 hc hn (by unfold CapOk at *; rw [(hψ _ _ (by simpa [sh1, Nat.blt_eq] using h) hb).2]; exact hk)
  case empty a a' c hc => exact .empty _ _ _ hc
  case emptyS b o a' c' => exact .emptyS _ _ _ _
  case nilMap => exact .nilMap
  case junk => exact .junk _
  case map hb => exact .map (hψ _ _ (by simpa [sh1, Nat.blt_eq] using h) hb).1
  case nilFunc => exact .nilFunc
  case yield hl => simp [sh1] at h
  case func f x x' c c' hx ex hc ec =>
    simp only [sh1, Bool.and_eq_true] at h
    have h1 := shL_to (φ := φ) (ψ := ψ) (shA n) (renA σ) (fun _ _ => shA_to (n := n) hψ) h.1 ⟨hx, ex⟩
    have h2 := shL_to (φ := φ) (ψ := ψ) (shA n) (renA σ) (fun _ _ => shA_to (n := n) hψ) h.2 ⟨hc, ec⟩
    exact .func f h1.1 h1.2 h2.1 h2.2
  case agg => simp [sh1] at h
  case tuple => simp [sh1] at h
  case qs => simp [sh1] at h
  case qp => simp [sh1] at h
theorem sh1_from (hψ : ∀ i r, i < n → ψ (σ i) = some r → φ i = some r ∧ φ.cap r = ψ.cap r) {v v' : Value} (h : sh1 n v = true) (r : VRel ψ (renS σ v) v') : VRel φ v v' := by
  cases v
  case bool b => cases r; exact .bool b
  case int k n => cases r; exact .int k n
  case string s => cases r; exact .string s
  case pointer a =>
    cases a with
    | none => cases r; exact .nilPtr
    | some a => obtain ⟨b, o, s⟩ := a; cases r with | ptr hb => exact .ptr (hψ _ _ (by simpa [sh1, Nat.blt_eq] using h) hb).1
  case slice a n c =>
    cases a with
    | none => cases r; exact .nilSlice n c
    | some a => obtain ⟨b, o, s⟩ := a; cases r with
      | slice hb hc hn hk => exact .slice (hψ _ _ (by simpa [sh1, Nat.blt_eq] using h) hb).1 hc hn (by unfold CapOk at *; rw [(hψ _ _ (by simpa [sh1, Nat.blt_eq] using h) hb).2]; exact hk)
      | empty a1 a2 c1 hc => exact .empty _ _ _ hc
      | emptyS b0 o0 a2 c2 => exact .emptyS _ _ _ _
  case map a =>
    cases a with
    | none => cases r; exact .nilMap
    | some b => cases r with | map hb => exact .map (hψ _ _ (by simpa [sh1, Nat.blt_eq] using h) hb).1
  case nilFunc => cases r; exact .nilFunc
  case func f x c =>
    cases f
    case func f =>
      simp only [sh1, Bool.and_eq_true] at h
      simp only [renS] at r
      cases r with
      | func f hx ex hc ec =>
        have h1 := shL_from (φ := φ) (ψ := ψ) (shA n) (renA σ) (fun _ _ => shA_from (n := n) hψ) h.1 ⟨hx, ex⟩
        have h2 := shL_from (φ := φ) (ψ := ψ) (shA n) (renA σ) (fun _ _ => shA_from (n := n) hψ) h.2 ⟨hc, ec⟩
        exact .func f h1.1 h1.2 h2.1 h2.2
    all_goals simp [sh1] at h
  case agg => simp [sh1] at h
  case tuple => simp [sh1] at h
  case iface => simp [sh1] at h
  case chan a => simp only [renS] at r; cases r; exact .junk _
  all_goals (simp only [renS] at r; cases r)
theorem ren2_of {v : Value} (h : ∀ x, v ≠ .agg x) : ren2 σ v = renS σ v := by
  unfold ren2; split
  · exact absurd rfl (h _)
  · rfl
theorem ren3_of {v : Value} (h : ∀ x, v ≠ .tuple x) : ren3 σ v = ren2 σ v := by
  unfold ren3; split
  · exact absurd rfl (h _)
  · rfl
theorem sh2_of {v : Value} (h : ∀ x, v ≠ .agg x) : sh2 n v = sh1 n v := by
  unfold sh2; split
  · exact absurd rfl (h _)
  · rfl
theorem sh3_of {v : Value} (h : ∀ x, v ≠ .tuple x) : sh3 n v = sh2 n v := by
  unfold sh3; split
  · exact absurd rfl (h _)
  · rfl
theorem sh2_to (hψ : ∀ i r, i < n → φ i = some r → ψ (σ i) = some r ∧ ψ.cap r = φ.cap r) {v v' : Value} (h : sh2 n v = true) (r : VRel φ v v') : VRel ψ (ren2 σ v) v' := by
  by_cases ha : ∃ x, v = .agg x
  · obtain ⟨x, rfl⟩ := ha
    cases r with
    | agg hx ex =>
      have := shL_to (φ := φ) (ψ := ψ) (sh1 n) (renS σ) (fun _ _ => sh1_to (n := n) hψ) (l := x.toList) (by simpa [sh2] using h) ⟨hx, ex⟩
      exact .agg (by simpa using this.1) (by simpa using this.2)
  · have hn : ∀ x, v ≠ .agg x := fun x e => ha ⟨x, e⟩
    rw [ren2_of hn]; rw [sh2_of hn] at h
    exact sh1_to (n := n) hψ h r
theorem sh2_from (hψ : ∀ i r, i < n → ψ (σ i) = some r → φ i = some r ∧ φ.cap r = ψ.cap r) {v v' : Value} (h : sh2 n v = true) (r : VRel ψ (ren2 σ v) v') : VRel φ v v' := by
  by_cases ha : ∃ x, v = .agg x
  · obtain ⟨x, rfl⟩ := ha
    simp only [ren2] at r
    cases r with
    | agg hx ex =>
      rw [show (x.map (renS σ)).toList = x.toList.map (renS σ) by simp] at hx ex
      have := shL_from (φ := φ) (ψ := ψ) (sh1 n) (renS σ) (fun _ _ => sh1_from (n := n) hψ) (l := x.toList) (by simpa [sh2] using h) ⟨hx, ex⟩
      exact .agg (by simpa using this.1) (by simpa using this.2)
  · have hn : ∀ x, v ≠ .agg x := fun x e => ha ⟨x, e⟩
    rw [ren2_of hn] at r; rw [sh2_of hn] at h
    exact sh1_from (n := n) hψ h r
theorem sh3_to (hψ : ∀ i r, i < n → φ i = some r → ψ (σ i) = some r ∧ ψ.cap r = φ.cap r) {v v' : Value} (h : sh3 n v = true) (r : VRel φ v v') : VRel ψ (ren3 σ v) v' := by
  by_cases ha : ∃ x, v = .tuple x
  · obtain ⟨x, rfl⟩ := ha
    cases r with
    | tuple hx ex =>
      have := shL_to (φ := φ) (ψ := ψ) (sh2 n) (ren2 σ) (fun _ _ => sh2_to hψ) (l := x.toList) (by simpa [sh3] using h) ⟨hx, ex⟩
      exact .tuple (by simpa using this.1) (by simpa using this.2)
  · have hn : ∀ x, v ≠ .tuple x := fun x e => ha ⟨x, e⟩
    rw [ren3_of hn]; rw [sh3_of hn] at h
    exact sh2_to hψ h r
end

/-- A block, renamed; loops over functions apart. -/
def renB (σ : Nat → Nat) (k : Blk) : Blk := ⟨k.cells.map (renS σ), k.elem, k.ro, k.obj⟩
def shB (n : Nat) (k : Blk) : Bool := k.cells.all (sh1 n) && (match k.obj with
  | some (.loop _) => false
  | some (.mapv _ _) => false
  | _ => true)
theorem shB_to {φ ψ : Ren} {σ : Nat → Nat} {n : Nat} (hψ : ∀ i r, i < n → φ i = some r → ψ (σ i) = some r ∧ ψ.cap r = φ.cap r) {k : Blk} {o : Obj} (h : shB n k = true) (r : BRel φ k o) : BRel ψ (renB σ k) o := by
  obtain ⟨cs, e, ro, ob⟩ := k
  simp only [shB, Bool.and_eq_true] at h
  obtain ⟨h1, h2⟩ := h
  cases ob with
  | none =>
    obtain ⟨c', fz, e1, e2, e3⟩ := r
    exact ⟨c', fz, e1, by
      show LRel ψ (cs.map (renS σ)) (c'.toList.take (cs.map (renS σ)).length)
      rw [List.length_map]
      exact shL_to (φ := φ) (ψ := ψ) (sh1 n) (renS σ) (fun _ _ => sh1_to (n := n) hψ) h1 e2, e3.1, fun h => by rw [e3.2 h]; simp [renB]⟩
  | some b =>
    cases b with
    | loop l => cases h2
    | mapv es c => cases h2
    | map es c => exact r
    | iter s p => exact r
    | ints kd lo L => exact r
    | buf kd sz L => exact r
    | bufc sz =>
      obtain ⟨c', e1, e2, e3⟩ := r
      exact ⟨c', e1, by
        show LRel ψ (cs.map (renS σ)) (c'.toList.take (cs.map (renS σ)).length)
        rw [List.length_map]
        exact shL_to (φ := φ) (ψ := ψ) (sh1 n) (renS σ) (fun _ _ => sh1_to (n := n) hψ) h1 e2, e3⟩
    | que kd sz lo L => exact r
    | dead => exact r
theorem shB_from {φ ψ : Ren} {σ : Nat → Nat} {n : Nat} (hψ : ∀ i r, i < n → ψ (σ i) = some r → φ i = some r ∧ φ.cap r = ψ.cap r) {k : Blk} {o : Obj} (h : shB n k = true) (r : BRel ψ (renB σ k) o) : BRel φ k o := by
  obtain ⟨cs, e, ro, ob⟩ := k
  simp only [shB, Bool.and_eq_true] at h
  obtain ⟨h1, h2⟩ := h
  cases ob with
  | none =>
    obtain ⟨c', fz, e1, e2, e3⟩ := r
    exact ⟨c', fz, e1, shL_from (φ := φ) (ψ := ψ) (sh1 n) (renS σ) (fun _ _ => sh1_from (n := n) hψ) h1 (by simpa [renB] using e2), e3.1, fun h => by rw [e3.2 h]; simp [renB]⟩
  | some b =>
    cases b with
    | loop l => cases h2
    | mapv es c => cases h2
    | map es c => exact r
    | iter s p => exact r
    | ints kd lo L => exact r
    | buf kd sz L => exact r
    | bufc sz =>
      obtain ⟨c', e1, e2, e3⟩ := r
      exact ⟨c', e1, shL_from (φ := φ) (ψ := ψ) (sh1 n) (renS σ) (fun _ _ => sh1_from (n := n) hψ) h1 (by simpa [renB] using e2), e3⟩
    | que kd sz lo L => exact r
    | dead => exact r

/-- What is known of a call in a heap. -/
def CallAt (P : Program) (Sg : List Blk) (fl : Nat) (f : FuncId) (args : List Value) (S : List Blk) (v : Value) (S' : List Blk) : Prop :=
  Ext fl S S' ∧ ∀ (φ : Ren) (w : World) (args' : List Value), Inv Sg φ S w → LRel φ args args' → Fresh φ S.length S'.length →
    Calls P f args'.toArray w fun e w' => ∃ v' ψ, e = .returned v' ∧ VRel ψ v v' ∧ Good ψ S' w' ∧ Step fl φ S w ψ S' w'

/-- Where the blocks of the small heap lie, and what has become of them. -/
structure Lies (Sg : List Blk) (fl0 fl : Nat) (σ : Nat → Nat) (S0 S0' S S' : List Blk) : Prop where
  glob : ∀ g, g < Sg.length → σ g = g
  base : ∀ g, g < Sg.length → S0[g]? = Sg[g]?
  new : ∀ j, σ (S0.length + j) = S.length + j
  low : ∀ i, i < S0.length → σ i < S.length
  inj : ∀ i j, i < S0.length → j < S0.length → σ i = σ j → i = j
  flr : ∀ i, fl0 ≤ i → i < S0.length → fl ≤ σ i
  gfl : Sg.length ≤ fl0
  glen : Sg.length ≤ S0.length
  fle : fl0 ≤ S0.length
  gren : ∀ (g : Nat) (k : Blk), Sg[g]? = some k → renB σ k = k
  pre : ∀ (i : Nat) (k : Blk), Sg.length ≤ i → S0[i]? = some k → S[σ i]? = some (renB σ k)
  sh : ∀ (i : Nat) k, S0[i]? = some k → shB S0.length k = true
  sh' : ∀ (i : Nat) k, S0'[i]? = some k → shB S0'.length k = true
  len : S0.length ≤ S0'.length
  len' : S'.length = S.length + (S0'.length - S0.length)
  post : ∀ (i : Nat) (k : Blk), fl0 ≤ i → S0'[i]? = some k → S'[σ i]? = some (renB σ k)
  keep : ∀ b, b < S.length → (∀ i, fl0 ≤ i → i < S0.length → σ i ≠ b) → S'[b]? = S[b]?

theorem room_from {φ ψ : Ren} {σ : Nat → Nat} {r : Nat} {k : Blk} {w : World} (h : Room φ r (renB σ k) w) (hc : ψ.cap r = φ.cap r) : Room ψ r k w := Room.ext (φ := φ) (k := k) h hc rfl
theorem room_to {φ ψ : Ren} {σ : Nat → Nat} {r : Nat} {k : Blk} {w : World} (h : Room φ r k w) (hc : ψ.cap r = φ.cap r) : Room ψ r (renB σ k) w := Room.ext (φ := φ) (k := renB σ k) h hc rfl
theorem callAt_of {P : Program} {Sg : List Blk} {fl0 fl : Nat} {σ : Nat → Nat} {S0 S0' S S' : List Blk} {f : FuncId} {args0 : List Value} {v0 : Value}
    (h : CallAt P Sg fl0 f args0 S0 v0 S0') (L : Lies Sg fl0 fl σ S0 S0' S S') (hargs : args0.all (sh2 S0.length) = true) (hv : sh3 S0'.length v0 = true) :
    CallAt P Sg fl f (args0.map (ren2 σ)) S (ren3 σ v0) S' := by
  obtain ⟨hx, hc⟩ := h
  have hlen' := L.len'
  have hlen := L.len
  refine ⟨⟨by omega, fun b h1 h2 => L.keep b h2 fun i e1 e2 e3 => by have := L.flr i e1 e2; omega⟩, ?_⟩
  intro φ w args' inv hr hf
  let φ0 : Ren := ⟨fun i => if i < S0.length then φ (σ i) else none, φ.cap⟩
  have hφ0 : ∀ i r, φ0 i = some r → i < S0.length ∧ φ (σ i) = some r := by
    intro i r hi
    by_cases hl : i < S0.length
    · simp only [φ0, hl, if_true] at hi; exact ⟨hl, hi⟩
    · simp only [φ0, hl, if_false] at hi; cases hi
  have hback : ∀ i r, i < S0.length → φ (σ i) = some r → φ0 i = some r ∧ φ0.cap r = φ.cap r := fun i r hi e => by refine ⟨?_, rfl⟩; simp only [φ0, hi, if_true]; exact e
  have hpre : ∀ (b : Nat) (k : Blk), S0[b]? = some k → S[σ b]? = some (renB σ k) := by
    intro b k hb
    by_cases hg : b < Sg.length
    · rw [L.glob b hg, inv.base b hg]
      rw [L.base b hg] at hb
      rw [L.gren b k hb]; exact hb
    · exact L.pre b k (by omega) hb
  have hdS : ∀ i, Dead S (σ i) → Dead S0 i := fun i d k hk => by have := d _ (hpre i k hk); exact this
  have good0 : Good φ0 S0 w := by
    refine ⟨fun b k r hb hr => ?_, fun b r hb => inv.ok.good.low _ _ (hφ0 b r hb).2, fun b c r hb hc => ?_, inv.ok.good.zero, fun b k r hb hr => room_from (inv.ok.good.room _ _ r (hpre b k hb) (hφ0 b r hr).2) rfl⟩
    · obtain ⟨hl, hr'⟩ := hφ0 b r hr
      obtain ⟨o, h1, h2⟩ := inv.ok.good.blk _ _ r (hpre b k hb) hr'
      exact ⟨o, h1, shB_from hback (L.sh b k hb) h2⟩
    · obtain ⟨hl, h1⟩ := hφ0 b r hb
      obtain ⟨hl2, h2⟩ := hφ0 c r hc
      rcases inv.ok.good.inj _ _ r h1 h2 with e | d | d
      · exact .inl (L.inj b c hl hl2 e)
      · exact .inr (.inl (hdS b d))
      · exact .inr (.inr (hdS c d))
  have inv0 : Inv Sg φ0 S0 w := by
    refine ⟨⟨good0, fun g hg => ?_⟩, L.base, L.glen⟩
    have h1 := L.glen
    exact (hback g g (by omega) (by rw [L.glob g hg]; exact inv.ok.glob g hg)).1
  have hargs0 : LRel φ0 args0 args' := shL_from (sh2 S0.length) (ren2 σ) (fun _ _ => sh2_from hback) hargs hr
  have hfresh0 : Fresh φ0 S0.length S0'.length := fun b h1 _ => by simp only [φ0, show ¬ b < S0.length by omega, if_false]
  refine Calls.mono (hc φ0 w args' inv0 hargs0 hfresh0) ?_
  rintro e w' ⟨v', ψ0, rfl, hv', good', st⟩
  let ψ : Ren := ⟨fun b => if S.length ≤ b ∧ b < S'.length then ψ0 (b - S.length + S0.length) else φ b, ψ0.cap⟩
  have hto : ∀ i r, i < S0'.length → ψ0 i = some r → ψ (σ i) = some r ∧ ψ.cap r = ψ0.cap r := by
    intro i r hi hr
    refine ⟨?_, rfl⟩
    by_cases hl : i < S0.length
    · have h1 := L.low i hl
      have h2 : ¬ (S.length ≤ σ i ∧ σ i < S'.length) := by omega
      simp only [ψ, h2, if_false]
      rcases st.dom i r hr with h3 | ⟨h3, _, _⟩
      · exact (hφ0 i r h3).2
      · omega
    · obtain ⟨j, rfl⟩ : ∃ j, i = S0.length + j := ⟨i - S0.length, by omega⟩
      have h2 : S.length ≤ S.length + j ∧ S.length + j < S'.length := by omega
      rw [L.new j]
      simp only [ψ, h2, and_self, if_true]
      rw [show S.length + j - S.length + S0.length = S0.length + j by omega]
      exact hr
  have hcaps : ∀ r, r < w.heap.size → ψ.cap r = φ.cap r := fun r hr => st.caps r hr
  have hext : RExt φ ψ := by
    refine ⟨fun b r hb => ?_, fun b r hb => hcaps r (inv.ok.good.low b r hb)⟩
    by_cases h2 : S.length ≤ b ∧ b < S'.length
    · rw [hf b h2.1 h2.2] at hb; cases hb
    · simp only [ψ, h2, if_false]; exact hb
  have hdS' : ∀ i, fl0 ≤ i → i < S0'.length → Dead S0' i → Dead S' (σ i) := by
    intro i e1 e2 d k hk
    have := L.post i _ e1 (List.getElem?_eq_getElem e2)
    rw [this] at hk
    cases hk
    have := d _ (List.getElem?_eq_getElem e2)
    exact this
  have hdead : ∀ b, b < S.length → Dead S b → Dead S' b := by
    intro b hb d
    by_cases hin : ∃ i, fl0 ≤ i ∧ i < S0.length ∧ σ i = b
    · obtain ⟨i, g1, g2, rfl⟩ := hin
      exact hdS' i g1 (by omega) (st.dead i g2 (hdS i d))
    · intro k hk
      rw [L.keep b hb fun i e1 e2 e3 => hin ⟨i, e1, e2, e3⟩] at hk
      exact d k hk
  -- what a block of the renaming behind stands for
  have hcase : ∀ b r, ψ b = some r → (φ b = some r ∧ ¬ (S.length ≤ b ∧ b < S'.length)) ∨ (∃ j, b = S.length + j ∧ S0.length + j < S0'.length ∧ ψ0 (S0.length + j) = some r ∧ (w.heap.size ≤ r ∨ ∃ c, fl0 ≤ c ∧ c < S0.length ∧ φ (σ c) = some r ∧ ¬ Dead S (σ c) ∧ Dead S' (σ c))) := by
    intro b r hb
    by_cases h2 : S.length ≤ b ∧ b < S'.length
    · simp only [ψ, h2, and_self, if_true] at hb
      refine .inr ⟨b - S.length, by omega, by omega, by rw [show S0.length + (b - S.length) = b - S.length + S0.length by omega]; exact hb, ?_⟩
      rcases st.dom _ r hb with h3 | ⟨_, _, h3 | ⟨c, c1, c2, c3, c4, c5⟩⟩
      · have := (hφ0 _ r h3).1; omega
      · exact .inl h3
      · exact .inr ⟨c, c1, c2, (hφ0 c r c3).2, fun d => c4 (hdS c d), hdS' c c1 (by omega) c5⟩
    · simp only [ψ, h2, if_false] at hb
      exact .inl ⟨hb, h2⟩
  -- an old block that the call doesn't know
  have hapart : ∀ b r, φ b = some r → ¬ Dead S b → (∀ i, fl0 ≤ i → i < S0.length → σ i ≠ b) → w'.heap[r]? = w.heap[r]? := by
    intro b r h1 hl hno
    refine st.frame r (inv.ok.good.low b r h1) fun i e1 e2 e3 e4 => ?_
    rcases inv.ok.good.inj _ _ r (hφ0 i r e4).2 h1 with e | d | d
    · exact hno i e1 e2 e
    · exact e3 (hdS i d)
    · exact hl d
  have hgood : Good ψ S' w' := by
    refine ⟨fun b k r hb hr => ?_, fun b r hb => ?_, fun b c r hb hc => ?_, good'.zero, fun b k r hb hr => ?_⟩
    · rcases hcase b r hr with ⟨h1, h2⟩ | ⟨j, rfl, h2, h3, _⟩
      · by_cases hin : ∃ i, fl0 ≤ i ∧ i < S0.length ∧ σ i = b
        · obtain ⟨i, g1, g2, rfl⟩ := hin
          have hi : i < S0'.length := by omega
          have hk := L.post i _ g1 (List.getElem?_eq_getElem hi)
          rw [hk] at hb
          cases hb
          obtain ⟨o, o1, o2⟩ := good'.blk i _ r (List.getElem?_eq_getElem hi) (st.ext i r (hback i r g2 h1).1)
          exact ⟨o, o1, shB_to hto (L.sh' i _ (List.getElem?_eq_getElem hi)) o2⟩
        · have hno : ∀ i, fl0 ≤ i → i < S0.length → σ i ≠ b := fun i e1 e2 e3 => hin ⟨i, e1, e2, e3⟩
          have hbl : b < S.length := by
            have h5 := (List.getElem?_eq_some_iff.1 hb).1
            omega
          rw [L.keep b hbl hno] at hb
          by_cases hd : Dead S b
          · have hlow := Nat.lt_of_lt_of_le (inv.ok.good.low b r h1) st.size
            exact ⟨_, Array.getElem?_eq_getElem hlow, by unfold BRel; rw [hd k hb]; trivial⟩
          · obtain ⟨o, o1, o2⟩ := inv.ok.good.blk b k r hb h1
            exact ⟨o, by rw [hapart b r h1 hd hno]; exact o1, o2.mono hext⟩
      · have hk := L.post _ _ (by have := L.fle; omega) (List.getElem?_eq_getElem h2)
        rw [L.new j] at hk
        rw [hk] at hb
        cases hb
        obtain ⟨o, o1, o2⟩ := good'.blk _ _ r (List.getElem?_eq_getElem h2) h3
        exact ⟨o, o1, shB_to hto (L.sh' _ _ (List.getElem?_eq_getElem h2)) o2⟩
    · rcases hcase b r hb with ⟨h1, _⟩ | ⟨j, _, _, h3, _⟩
      · exact Nat.lt_of_lt_of_le (inv.ok.good.low b r h1) st.size
      · exact good'.low _ r h3
    · have up : ∀ x, φ x = some r → ¬ (S.length ≤ x ∧ x < S'.length) → Dead S x → Dead S' x := by
        intro x _ hx d
        by_cases hl : x < S.length
        · exact hdead x hl d
        · intro k hk
          have := (List.getElem?_eq_some_iff.1 hk).1
          omega
      have mixed : ∀ x, φ x = some r → ¬ (S.length ≤ x ∧ x < S'.length) → (w.heap.size ≤ r ∨ ∃ c, fl0 ≤ c ∧ c < S0.length ∧ φ (σ c) = some r ∧ ¬ Dead S (σ c) ∧ Dead S' (σ c)) → Dead S' x := by
        intro x h1 hx h2
        rcases h2 with h2 | ⟨d, _, _, d3, d4, d5⟩
        · have := inv.ok.good.low x r h1; omega
        · rcases inv.ok.good.inj _ _ r d3 h1 with e | e | e
          · rw [← e]; exact d5
          · exact absurd e d4
          · exact up x h1 hx e
      have down : ∀ j, S0.length + j < S0'.length → Dead S0' (S0.length + j) → Dead S' (S.length + j) := by
        intro j hj d
        have := hdS' _ (by have := L.fle; omega) hj d
        rwa [L.new j] at this
      rcases hcase b r hb with ⟨h1, h2⟩ | ⟨j, rfl, h2, h3, h4⟩ <;> rcases hcase c r hc with ⟨k1, k2⟩ | ⟨m, rfl, k2, k3, k4⟩
      · exact (inv.ok.good.inj b c r h1 k1).imp id fun d => d.imp (up b h1 h2) (up c k1 k2)
      · exact .inr (.inl (mixed b h1 h2 k4))
      · exact .inr (.inr (mixed c k1 k2 h4))
      · rcases good'.inj _ _ r h3 k3 with e | d | d
        · exact .inl (by omega)
        · exact .inr (.inl (down j h2 d))
        · exact .inr (.inr (down m k2 d))
    · rcases hcase b r hr with ⟨h1, h2⟩ | ⟨j, rfl, h2, h3, _⟩
      · by_cases hin : ∃ i, fl0 ≤ i ∧ i < S0.length ∧ σ i = b
        · obtain ⟨i, g1, g2, rfl⟩ := hin
          have hi : i < S0'.length := by omega
          have hk := L.post i _ g1 (List.getElem?_eq_getElem hi)
          rw [hk] at hb
          cases hb
          exact room_to (good'.room i _ r (List.getElem?_eq_getElem hi) (st.ext i r (hback i r g2 h1).1)) rfl
        · have hno : ∀ i, fl0 ≤ i → i < S0.length → σ i ≠ b := fun i e1 e2 e3 => hin ⟨i, e1, e2, e3⟩
          have hbl : b < S.length := by
            have h5 := (List.getElem?_eq_some_iff.1 hb).1
            omega
          rw [L.keep b hbl hno] at hb
          by_cases hd : Dead S b
          · unfold Room; rw [hd k hb]; trivial
          · exact (inv.ok.good.room b k r hb h1).ext (hcaps r (inv.ok.good.low b r h1)) (hapart b r h1 hd hno)
      · have hk := L.post _ _ (by have := L.fle; omega) (List.getElem?_eq_getElem h2)
        rw [L.new j] at hk
        rw [hk] at hb
        cases hb
        exact room_to (good'.room _ _ r (List.getElem?_eq_getElem h2) h3) rfl
  refine ⟨v', ψ, rfl, sh3_to hto hv hv', hgood, ⟨hext, hcaps, fun b r hb => ?_, by omega, hdead, fun b h1 h2 => L.keep b h2 fun i e1 e2 e3 => by have := L.flr i e1 e2; omega, fun r h1 h2 => ?_, st.size, st.os, st.tape, st.output⟩⟩
  · rcases hcase b r hb with ⟨h1, _⟩ | ⟨j, rfl, h2, _, h4⟩
    · exact .inl h1
    · exact .inr ⟨by omega, by omega, h4.imp id fun ⟨c, c1, c2, c3, c4, c5⟩ => ⟨σ c, L.flr c c1 c2, L.low c c2, c3, c4, c5⟩⟩
  · exact st.frame r h1 fun i e1 e2 e3 e4 => h2 (σ i) (L.flr i e1 e2) (L.low i e2) (fun d => e3 (hdS i d)) (hφ0 i r e4).2
/-- Two blocks, of which the first may be written. -/
def sig2 (g b c n : Nat) (i : Nat) : Nat := if i < g then i else if i = g then b else if i = g + 1 then c else n + (i - (g + 2))
theorem scalar_ren {σ : Nat → Nat} {v : Value} (h : scalar v = true) : renS σ v = v := by
  cases v
  case pointer a => cases a <;> simp [scalar] at h ⊢; rfl
  case slice a n c => cases a <;> simp [scalar] at h ⊢; rfl
  case map a => cases a <;> simp [scalar] at h ⊢; rfl
  case func fn x c =>
    cases fn
    case func f =>
      simp only [scalar, Bool.and_eq_true, List.isEmpty_iff, Array.toList_eq_nil_iff] at h
      obtain ⟨rfl, rfl⟩ := h
      rfl
    all_goals rfl
  all_goals rfl
theorem scalar_sh {v : Value} (h : scalar v = true) (n : Nat) : sh1 n v = true := by
  cases v
  case pointer a => cases a with
    | none => rfl
    | some a => simp [scalar] at h
  case slice a n c => cases a with
    | none => rfl
    | some a => simp [scalar] at h
  case map a => cases a with
    | none => rfl
    | some a => simp [scalar] at h
  case func fn x c =>
    cases fn
    case func f =>
      simp only [scalar, Bool.and_eq_true, List.isEmpty_iff, Array.toList_eq_nil_iff] at h
      obtain ⟨rfl, rfl⟩ := h
      rfl
    all_goals simp [scalar] at h
  case agg => simp [scalar] at h
  case iface => simp [scalar] at h
  case tuple => simp [scalar] at h
  all_goals rfl
theorem callAt2 {P : Program} {Sg : List Blk} (hsg : SgOk Sg) {fl b c : Nat} {S : List Blk} {k1 k2 k1' : Blk} {f : FuncId} {args0 : List Value} {v0 : Value}
    (h : CallAt P Sg Sg.length f args0 (Sg ++ [k1, k2]) v0 (Sg ++ [k1', k2]))
    (hb : S[b]? = some (renB (sig2 Sg.length b c S.length) k1)) (hc : S[c]? = some (renB (sig2 Sg.length b c S.length) k2)) (hbc : b ≠ c) (hgb : Sg.length ≤ b) (hgc : Sg.length ≤ c) (hfb : fl ≤ b) (hfc : fl ≤ c)
    (hargs : args0.all (sh2 (Sg.length + 2)) = true) (hv : sh3 (Sg.length + 2) v0 = true) (s1 : shB (Sg.length + 2) k1 = true) (s2 : shB (Sg.length + 2) k2 = true) (s3 : shB (Sg.length + 2) k1' = true) :
    CallAt P Sg fl f (args0.map (ren2 (sig2 Sg.length b c S.length))) S (ren3 (sig2 Sg.length b c S.length) v0) (S.set b (renB (sig2 Sg.length b c S.length) k1')) := by
  have hbl : b < S.length := (List.getElem?_eq_some_iff.1 hb).1
  have hcl : c < S.length := (List.getElem?_eq_some_iff.1 hc).1
  have sgk : ∀ (g : Nat) k, Sg[g]? = some k → k.cells.all scalar = true ∧ k.obj = none := by
    intro g k hk
    have := (List.all_eq_true.1 hsg) k (List.mem_of_getElem? hk)
    simpa using this
  have sg : sig2 Sg.length b c S.length Sg.length = b := by simp [sig2]
  have sg1 : sig2 Sg.length b c S.length (Sg.length + 1) = c := by
    simp only [sig2]
    rw [if_neg (by omega), if_neg (by omega)]; simp
  have l0 : ∀ k : Blk, (Sg ++ [k, k2]).length = Sg.length + 2 := by intro k; simp
  have at0 : ∀ (k : Blk) (i : Nat) (y : Blk), (Sg ++ [k, k2])[i]? = some y → (i < Sg.length ∧ Sg[i]? = some y) ∨ (i = Sg.length ∧ y = k) ∨ (i = Sg.length + 1 ∧ y = k2) := by
    intro k i y hy
    by_cases h1 : i < Sg.length
    · rw [List.getElem?_append_left h1] at hy; exact .inl ⟨h1, hy⟩
    · rw [List.getElem?_append_right (by omega)] at hy
      have h2 : i - Sg.length = 0 ∨ i - Sg.length = 1 ∨ 2 ≤ i - Sg.length := by omega
      rcases h2 with h2 | h2 | h2
      · rw [h2] at hy; cases hy; exact .inr (.inl ⟨by omega, rfl⟩)
      · rw [h2] at hy; cases hy; exact .inr (.inr ⟨by omega, rfl⟩)
      · rw [List.getElem?_eq_none (by simpa using h2)] at hy; cases hy
  have shg : ∀ (g : Nat) k, Sg[g]? = some k → shB (Sg.length + 2) k = true := by
    intro g k hk
    obtain ⟨e1, e2⟩ := sgk g k hk
    simp only [shB, e2, Bool.and_true, List.all_eq_true] at e1 ⊢
    intro v hv
    exact scalar_sh (e1 v hv) _
  refine callAt_of h ⟨fun g hg => by simp [sig2, hg], fun g hg => by rw [List.getElem?_append_left hg], fun j => ?_, fun i hi => ?_, fun i j hi hj e => ?_, fun i h1 h2 => ?_, Nat.le_refl _, by simp, by simp, fun g k hk => ?_, fun i k h1 hk => ?_, fun i k hk => ?_, fun i k hk => ?_, by simp, by simp, fun i k h1 hk => ?_, fun x hx hno => ?_⟩ (by rw [l0]; exact hargs) (by rw [l0]; exact hv)
  · rw [l0]
    simp only [sig2]
    rw [if_neg (by omega), if_neg (by omega), if_neg (by omega)]
    omega
  · rw [l0] at hi
    simp only [sig2]
    split
    · omega
    · split
      · exact hbl
      · split
        · exact hcl
        · omega
  · rw [l0] at hi hj
    simp only [sig2] at e
    have hi3 : i < Sg.length ∨ i = Sg.length ∨ i = Sg.length + 1 := by omega
    have hj3 : j < Sg.length ∨ j = Sg.length ∨ j = Sg.length + 1 := by omega
    rcases hi3 with h1 | h1 | h1 <;> rcases hj3 with h2 | h2 | h2 <;> simp only [h1, h2, if_true, if_neg (show ¬ Sg.length < Sg.length by omega), if_neg (show ¬ Sg.length + 1 < Sg.length by omega), if_neg (show ¬ Sg.length + 1 = Sg.length by omega)] at e <;> omega
  · rw [l0] at h2
    simp only [sig2]
    rw [if_neg (by omega)]
    split
    · exact hfb
    · split
      · exact hfc
      · omega
  · obtain ⟨e1, e2⟩ := sgk g k hk
    obtain ⟨cs, e, ro, ob⟩ := k
    simp only [renB, Blk.mk.injEq, and_true]
    exact (List.map_congr_left fun v hv => scalar_ren ((List.all_eq_true.1 e1) v hv)).trans (List.map_id' _)
  · rcases at0 k1 i k hk with ⟨h2, _⟩ | ⟨rfl, rfl⟩ | ⟨rfl, rfl⟩
    · omega
    · rw [sg]; exact hb
    · rw [sg1]; exact hc
  · rw [l0]
    rcases at0 k1 i k hk with ⟨h2, h3⟩ | ⟨rfl, rfl⟩ | ⟨rfl, rfl⟩
    · exact shg i k h3
    · exact s1
    · exact s2
  · rw [l0]
    rcases at0 k1' i k hk with ⟨h2, h3⟩ | ⟨rfl, rfl⟩ | ⟨rfl, rfl⟩
    · exact shg i k h3
    · exact s3
    · exact s2
  · rcases at0 k1' i k hk with ⟨h2, _⟩ | ⟨rfl, rfl⟩ | ⟨rfl, rfl⟩
    · omega
    · rw [sg, List.getElem?_set_self hbl]
    · rw [sg1, List.getElem?_set_ne hbc]; exact hc
  · have : b ≠ x := by
      intro e
      exact hno Sg.length (Nat.le_refl _) (by simp) (by rw [sg]; exact e)
    rw [List.getElem?_set_ne this]
/-- One block, which may be written. -/
def sig1 (g b n : Nat) (i : Nat) : Nat := if i < g then i else if i = g then b else n + (i - (g + 1))
theorem callAt1 {P : Program} {Sg : List Blk} (hsg : SgOk Sg) {fl b : Nat} {S : List Blk} {k1 k1' : Blk} {f : FuncId} {args0 : List Value} {v0 : Value}
    (h : CallAt P Sg Sg.length f args0 (Sg ++ [k1]) v0 (Sg ++ [k1']))
    (hb : S[b]? = some (renB (sig1 Sg.length b S.length) k1)) (hgb : Sg.length ≤ b) (hfb : fl ≤ b)
    (hargs : args0.all (sh2 (Sg.length + 1)) = true) (hv : sh3 (Sg.length + 1) v0 = true) (s1 : shB (Sg.length + 1) k1 = true) (s3 : shB (Sg.length + 1) k1' = true) :
    CallAt P Sg fl f (args0.map (ren2 (sig1 Sg.length b S.length))) S (ren3 (sig1 Sg.length b S.length) v0) (S.set b (renB (sig1 Sg.length b S.length) k1')) := by
  have hbl : b < S.length := (List.getElem?_eq_some_iff.1 hb).1
  have sgk : ∀ (g : Nat) k, Sg[g]? = some k → k.cells.all scalar = true ∧ k.obj = none := by
    intro g k hk
    have := (List.all_eq_true.1 hsg) k (List.mem_of_getElem? hk)
    simpa using this
  have sg : sig1 Sg.length b S.length Sg.length = b := by simp [sig1]
  have l0 : ∀ k : Blk, (Sg ++ [k]).length = Sg.length + 1 := by intro k; simp
  have at0 : ∀ (k : Blk) (i : Nat) (y : Blk), (Sg ++ [k])[i]? = some y → (i < Sg.length ∧ Sg[i]? = some y) ∨ (i = Sg.length ∧ y = k) := by
    intro k i y hy
    by_cases h1 : i < Sg.length
    · rw [List.getElem?_append_left h1] at hy; exact .inl ⟨h1, hy⟩
    · rw [List.getElem?_append_right (by omega)] at hy
      have h2 : i - Sg.length = 0 ∨ 1 ≤ i - Sg.length := by omega
      rcases h2 with h2 | h2
      · rw [h2] at hy; cases hy; exact .inr ⟨by omega, rfl⟩
      · rw [List.getElem?_eq_none (by simpa using h2)] at hy; cases hy
  have shg : ∀ (g : Nat) k, Sg[g]? = some k → shB (Sg.length + 1) k = true := by
    intro g k hk
    obtain ⟨e1, e2⟩ := sgk g k hk
    simp only [shB, e2, Bool.and_true, List.all_eq_true] at e1 ⊢
    intro v hv
    exact scalar_sh (e1 v hv) _
  refine callAt_of h ⟨fun g hg => by simp [sig1, hg], fun g hg => by rw [List.getElem?_append_left hg], fun j => ?_, fun i hi => ?_, fun i j hi hj e => ?_, fun i h1 h2 => ?_, Nat.le_refl _, by simp, by simp, fun g k hk => ?_, fun i k h1 hk => ?_, fun i k hk => ?_, fun i k hk => ?_, by simp, by simp, fun i k h1 hk => ?_, fun x hx hno => ?_⟩ (by rw [l0]; exact hargs) (by rw [l0]; exact hv)
  · rw [l0]
    simp only [sig1]
    rw [if_neg (by omega), if_neg (by omega)]
    omega
  · rw [l0] at hi
    simp only [sig1]
    split
    · omega
    · split
      · exact hbl
      · omega
  · rw [l0] at hi hj
    simp only [sig1] at e
    have hi3 : i < Sg.length ∨ i = Sg.length := by omega
    have hj3 : j < Sg.length ∨ j = Sg.length := by omega
    rcases hi3 with h1 | h1 <;> rcases hj3 with h2 | h2 <;> simp only [h1, h2, if_true, if_neg (show ¬ Sg.length < Sg.length by omega)] at e <;> omega
  · rw [l0] at h2
    simp only [sig1]
    rw [if_neg (by omega)]
    split
    · exact hfb
    · omega
  · obtain ⟨e1, e2⟩ := sgk g k hk
    obtain ⟨cs, e, ro, ob⟩ := k
    simp only [renB, Blk.mk.injEq, and_true]
    exact (List.map_congr_left fun v hv => scalar_ren ((List.all_eq_true.1 e1) v hv)).trans (List.map_id' _)
  · rcases at0 k1 i k hk with ⟨h2, _⟩ | ⟨rfl, rfl⟩
    · omega
    · rw [sg]; exact hb
  · rw [l0]
    rcases at0 k1 i k hk with ⟨h2, h3⟩ | ⟨rfl, rfl⟩
    · exact shg i k h3
    · exact s1
  · rw [l0]
    rcases at0 k1' i k hk with ⟨h2, h3⟩ | ⟨rfl, rfl⟩
    · exact shg i k h3
    · exact s3
  · rcases at0 k1' i k hk with ⟨h2, _⟩ | ⟨rfl, rfl⟩
    · omega
    · rw [sg, List.getElem?_set_self hbl]
  · have : b ≠ x := by
      intro e
      exact hno Sg.length (Nat.le_refl _) (by simp) (by rw [sg]; exact e)
    rw [List.getElem?_set_ne this]
theorem renA_id (v : Value) : renA (fun b => b) v = v := by
  cases v
  case pointer a => cases a <;> rfl
  case slice a n c => cases a <;> rfl
  case map a => cases a <;> rfl
  all_goals rfl
theorem renS_id (v : Value) : renS (fun b => b) v = v := by
  cases v
  case pointer a => cases a <;> rfl
  case slice a n c => cases a <;> rfl
  case map a => cases a <;> rfl
  case func fn x c =>
    cases fn
    case func f =>
      have : renA (fun b => b) = id := funext renA_id
      simp [renS, this]
    all_goals rfl
  all_goals rfl
theorem ren2_id (v : Value) : ren2 (fun b => b) v = v := by
  by_cases ha : ∃ x, v = .agg x
  · obtain ⟨x, rfl⟩ := ha
    have : renS (fun b => b) = id := funext renS_id
    simp [ren2, this]
  · rw [ren2_of fun x e => ha ⟨x, e⟩, renS_id]
theorem ren3_id (v : Value) : ren3 (fun b => b) v = v := by
  by_cases ha : ∃ x, v = .tuple x
  · obtain ⟨x, rfl⟩ := ha
    have : ren2 (fun b => b) = id := funext ren2_id
    simp [ren3, this]
  · rw [ren3_of fun x e => ha ⟨x, e⟩, ren2_id]
theorem renB_id (k : Blk) : renB (fun b => b) k = k := by
  obtain ⟨cs, e, ro, ob⟩ := k
  have : renS (fun b => b) = id := funext renS_id
  simp [renB, this]
/-- New blocks that nobody knows of are left out. -/
theorem callAt_drop {P : Program} {Sg : List Blk} {fl : Nat} {f : FuncId} {args : List Value} {S S' N : List Blk} {v : Value} (h : CallAt P Sg fl f args S v (S' ++ N)) (hl : S'.length = S.length)
    (ha : args.all (sh2 S.length) = true) (hv : sh3 S.length v = true) (hs : ∀ (b : Nat) k, S[b]? = some k → shB S.length k = true) (hs' : ∀ (b : Nat) k, S'[b]? = some k → shB S.length k = true) : CallAt P Sg fl f args S v S' := by
  obtain ⟨hx, hc⟩ := h
  have hk : ∀ b, b < S.length → (S' ++ N)[b]? = S'[b]? := fun b hb => List.getElem?_append_left (by omega)
  refine ⟨⟨by omega, fun b h1 h2 => by rw [← hk b h2]; exact hx.2 b h1 h2⟩, ?_⟩
  intro φ w args' inv hr hf
  let φc : Ren := ⟨fun b => if b < S.length then φ b else none, φ.cap⟩
  have hback : ∀ i r, i < S.length → φ i = some r → φc i = some r ∧ φc.cap r = φ.cap r := fun i r hi e => by refine ⟨?_, rfl⟩; simp only [φc, hi, if_true]; exact e
  have hfw : ∀ i r, φc i = some r → φ i = some r := by
    intro i r hi
    by_cases hl : i < S.length
    · simp only [φc, hl, if_true] at hi; exact hi
    · simp only [φc, hl, if_false] at hi; cases hi
  have goodc : Good φc S w := by
    refine ⟨fun b k r hb hr => ?_, fun b r hb => inv.ok.good.low b r (hfw b r hb), fun b c r hb hc => inv.ok.good.inj b c r (hfw b r hb) (hfw c r hc), inv.ok.good.zero, fun b k r hb hr => inv.ok.good.room b k r hb (hfw b r hr)⟩
    obtain ⟨o, h1, h2⟩ := inv.ok.good.blk b k r hb (hfw b r hr)
    exact ⟨o, h1, shB_from (σ := fun b => b) (n := S.length) hback (hs b k hb) (by rw [renB_id]; exact h2)⟩
  have invc : Inv Sg φc S w := ⟨⟨goodc, fun g hg => (hback g g (by have := inv.len; omega) (inv.ok.glob g hg)).1⟩, inv.base, inv.len⟩
  have hargs : LRel φc args args' := by
    have := shL_from (φ := φc) (ψ := φ) (sh2 S.length) (ren2 fun b => b) (fun _ _ => sh2_from (n := S.length) hback) ha (l' := args') (by
      rw [show args.map (ren2 fun b => b) = args from by rw [show (ren2 fun b => b) = id from funext ren2_id]; simp]
      exact hr)
    exact this
  refine Calls.mono (hc φc w args' invc hargs fun b h1 _ => by simp only [φc, show ¬ b < S.length by omega, if_false]) ?_
  rintro e w' ⟨v', ψ0, rfl, hv', good', st⟩
  have hto : ∀ i r, i < S.length → ψ0 i = some r → φ i = some r ∧ φ.cap r = ψ0.cap r := by
    intro i r hi hr
    have key : φ i = some r := by
      rcases st.dom i r hr with h1 | ⟨h1, _, _⟩
      · exact hfw i r h1
      · omega
    exact ⟨key, (st.caps r (inv.ok.good.low i r key)).symm⟩
  have hdd : ∀ b, b < S.length → Dead S b → Dead S' b := fun b hb d => (st.dead b hb d).pre fun k hk' => by rw [hk b hb]; exact hk'
  have hdx : ∀ b r, φ b = some r → Dead S b → Dead S' b := fun b r _ d => by
    by_cases hb : b < S.length
    · exact hdd b hb d
    · intro k hk'
      have := (List.getElem?_eq_some_iff.1 hk').1
      omega
  have hv2 : VRel φ v v' := by
    have := sh3_to (σ := fun b => b) hto hv hv'
    rwa [ren3_id] at this
  refine ⟨v', φ, rfl, hv2, ⟨fun b k r hb hr => ?_, fun b r hb => Nat.lt_of_lt_of_le (inv.ok.good.low b r hb) st.size, fun b c r hb hc => (inv.ok.good.inj b c r hb hc).imp id fun d => d.imp (hdx b r hb) (hdx c r hc), fun r hr => inv.ok.good.zero r (Nat.le_trans st.size hr), fun b k r hb hr => ?_⟩, ⟨RExt.refl φ, fun _ _ => rfl, fun _ _ e => .inl e, by omega, hdd, fun b h1 h2 => by rw [← hk b h2]; exact st.keep b h1 h2, fun r h1 h2 => st.frame r h1 fun b e1 e2 e3 e4 => h2 b e1 e2 e3 (hfw b r e4), st.size, st.os, st.tape, st.output⟩⟩
  · have hbl : b < S.length := by rw [← hl]; exact (List.getElem?_eq_some_iff.1 hb).1
    obtain ⟨o, o1, o2⟩ := good'.blk b k r (by rw [hk b hbl]; exact hb) (st.ext b r (hback b r hbl hr).1)
    refine ⟨o, o1, ?_⟩
    have := shB_to (σ := fun b => b) hto (hs' b k hb) o2
    rwa [renB_id] at this
  · have hbl : b < S.length := by rw [← hl]; exact (List.getElem?_eq_some_iff.1 hb).1
    exact (good'.room b k r (by rw [hk b hbl]; exact hb) (st.ext b r (hback b r hbl hr).1)).ext (st.caps r (inv.ok.good.low b r hr)).symm rfl
end Go.Proofs.XX.Vm
/- A small evaluator over a shadow heap, part 26: calls in a heap, without their fuel; ranges over functions; rounds one by one. -/
namespace Go.Proofs.XX.Vm
open Go Go.RowKit

section
variable {P : Program} {α : Type} {orc : Orc} {Sg : List Blk}

/-- With fuel enough a call in a heap comes to what meets Q. -/
def EvM (P : Program) (orc : Orc) (Sg : List Blk) (α : Type) (fl : Nat) (f : FuncId) (args : List Value) (S : List Blk) (Q : Value → List Blk → Prop) : Prop :=
  ∃ n v S', Q v S' ∧ ∀ m, n ≤ m → ∀ k : Value → List Blk → Option α, callInK P (evCodeK P orc Sg m) fl f args S k = k v S'
theorem EvM.of_eq {fl : Nat} {f : FuncId} {args : List Value} {S S' : List Blk} {v : Value} {Q : Value → List Blk → Prop} (d : Nat)
    (h : ∀ m (k : Value → List Blk → Option α), callInK P (evCodeK P orc Sg (m + d)) fl f args S k = k v S') (q : Q v S') : EvM P orc Sg α fl f args S Q := by
  refine ⟨d, v, S', q, fun m hm k => ?_⟩
  have := h (m - d) k
  rwa [Nat.sub_add_cancel hm] at this
theorem EvM.mono {fl : Nat} {f : FuncId} {args : List Value} {S : List Blk} {Q R : Value → List Blk → Prop} (h : EvM P orc Sg α fl f args S Q) (hq : ∀ v S', Q v S' → R v S') : EvM P orc Sg α fl f args S R := by
  obtain ⟨n, v, S', q, e⟩ := h
  exact ⟨n, v, S', hq _ _ q, e⟩
theorem EvM.of_body {fl : Nat} {f : FuncId} {args : List Value} {S : List Blk} {Q : Value → List Blk → Prop}
    (h : Ev P orc Sg α fl (bodyOf P f) (tmps0Of P f args) S fun x T' S' => (match x with | .exit _ => False | _ => True) ∧ ∃ v, outOf P f T' S' = some v ∧ Q v S') : EvM P orc Sg α fl f args S Q := by
  obtain ⟨n, x, T', S', ⟨hx, v, ho, q⟩, e⟩ := h
  refine ⟨n, v, S', q, fun m hm k => ?_⟩
  unfold callInK
  unfold outOf at ho
  cases hf : P.funcs[f]? with
  | none => rw [hf] at ho; cases ho
  | some fn =>
    rw [hf] at ho
    simp only at ho ⊢
    cases hb : fn.body with
    | none => rw [hb] at ho; cases ho
    | some c =>
      rw [hb] at ho
      simp only at ho
      have e' := e m hm
      unfold bodyOf tmps0Of at e'
      rw [hf] at e'
      simp only [hb] at e'
      simp only [appG_eq, padR_eq, lenR_eq]
      rw [e']
      cases hr : resVals P T' S' fn.results.toList with
      | none => rw [hr] at ho; cases ho
      | some vs =>
        rw [hr] at ho
        cases ho
        cases x with
        | exit id => exact hx.elim
        | normal => rfl
        | ret => rfl
/-- What a call with memory does in the world. -/
theorem EvM.callAt (hsg : SgOk Sg) (horc : OrcOk P Sg (orcOf orc)) {fl : Nat} {f : FuncId} {args : List Value} {S S' : List Blk} {v : Value}
    (h : EvM P orc Sg (Value × List Blk) fl f args S fun u U => u = v ∧ U = S') (hfl : Sg.length ≤ fl) (hS : Sg.length ≤ S.length) : CallAt P Sg fl f args S v S' := by
  obtain ⟨n, u, U, ⟨rfl, rfl⟩, e⟩ := h
  have e1 := e n (Nat.le_refl _) fun v S => some (v, S)
  obtain ⟨v1, S1, h1, h2⟩ := callInK_ok (P := P) (evCodeK_ok (orc := orc) (Sg := Sg) n) _ _ _ _ _ _ e1
  simp only [Option.some.injEq, Prod.mk.injEq] at h2
  obtain ⟨rfl, rfl⟩ := h2
  exact callIn_ok (evCode_ok hsg horc n).1 h1 hfl hS
/-- One round of a loop. -/
theorem Ev.unroll {fl : Nat} {b : Code} {T : List Value} {S : List Blk} {Q : Ex → List Value → List Blk → Prop}
    (h : Ev P orc Sg α fl b T S fun x T' S' => match x with
      | .normal => Ev P orc Sg α fl (.loop b) T' S' Q
      | .exit id => Q (.exit id) T' S'
      | .ret => Q .ret T' S') : Ev P orc Sg α fl (.loop b) T S Q := by
  obtain ⟨n, x, T', S', q, e⟩ := h
  cases x with
  | normal =>
    obtain ⟨n2, x2, T2, S2, q2, e2⟩ := q
    refine ⟨max n n2 + 1, x2, T2, S2, q2, fun m hm k => ?_⟩
    obtain ⟨m', rfl⟩ : ∃ m', m = m' + 1 := ⟨m - 1, by omega⟩
    show evCodeK P orc Sg m' fl b T S _ = _
    rw [e m' (by omega)]
    exact e2 m' (by omega) k
  | exit id =>
    refine ⟨n + 1, _, T', S', q, fun m hm k => ?_⟩
    obtain ⟨m', rfl⟩ : ∃ m', m = m' + 1 := ⟨m - 1, by omega⟩
    show evCodeK P orc Sg m' fl b T S _ = _
    rw [e m' (by omega)]
  | ret =>
    refine ⟨n + 1, _, T', S', q, fun m hm k => ?_⟩
    obtain ⟨m', rfl⟩ : ∃ m', m = m' + 1 := ⟨m - 1, by omega⟩
    show evCodeK P orc Sg m' fl b T S _ = _
    rw [e m' (by omega)]
/-- A range over a function that is gone through to its end. -/
theorem Ev.range {fl : Nat} {f : Operand} {params : Array Tmp} {assign body : Code} {T : List Value} {S : List Blk} {Q : Ex → List Value → List Blk → Prop} {g : Value} {h : FuncId} {args : List Value}
    (hfl : fl ≤ S.length) (hg : opd Sg.length T f = some g) (hc : callee P g [.func (.yield S.length) #[] #[]] = some (.call h args))
    (hin : EvM P orc Sg α fl h args (S ++ [loopBlk ⟨.ready, none, T, params, assign, body⟩]) fun _ S2 => ∃ L : LoopS, loopAt S2 S.length = some L ∧ L.state = .ready ∧ L.pending = none ∧ Q .normal T (S2.set S.length (loopBlk { L with state := .exhausted }))) :
    Ev P orc Sg α fl (.rangeFunc f params assign body) T S Q := by
  obtain ⟨n, v, S2, ⟨L, hL, hst, hp, q⟩, e⟩ := hin
  refine ⟨n + 1, .normal, T, _, q, fun m hm k => ?_⟩
  obtain ⟨m', rfl⟩ : ∃ m', m = m' + 1 := ⟨m - 1, by omega⟩
  show rangeK P Sg.length (evCodeK P orc Sg m') fl f params assign body T S k = _
  unfold rangeK
  simp only [forceK_eq, decide_eq_true hfl, if_true, hg, hc]
  rw [e m' (by omega)]
  simp only [hL, hst, hp]
end
section
variable {P : Program} {α : Type} {orc : Orc} {Sg : List Blk}
/-- A call in a heap, piece by piece. -/
theorem callInK_pieces {fl : Nat} {f : FuncId} {args : List Value} {S : List Blk} {k : Value → List Blk → Option α} (hb : (P.funcs[f]?).bind (·.body) ≠ none) (m : Nat) (hm : depthC (bodyOf P f) + 60 ≤ m) :
    ∃ fs : Nat → Nat, callInK P (evCodeK P orc Sg m) fl f args S k = evP P orc Sg fl fs 0 (pcs P f) (tmps0Of P f args) S fun x T' S' => match x with
      | .exit _ => none
      | _ => match outOf P f T' S' with
        | some v => k v S'
        | none => none := by
  obtain ⟨fs, _, h2⟩ := evCodeK_flat (P := P) (α := α) (orc := orc) (Sg := Sg) (fl := fl) (bodyOf P f) m hm
  refine ⟨fs, ?_⟩
  unfold pcs
  rw [← h2]
  unfold callInK bodyOf tmps0Of outOf
  cases hf : P.funcs[f]? with
  | none => rw [hf] at hb; exact absurd rfl hb
  | some fn =>
    cases hc : fn.body with
    | none => rw [hf] at hb; simp [hc] at hb
    | some c =>
      simp only [hc, appG_eq, padR_eq, lenR_eq]
      congr 1
      funext x T' S'
      cases x <;> simp only <;> cases resVals P T' S' fn.results.toList <;> rfl
/-- What a call whose value alone is known does in the world. -/
theorem callInK_world (hsg : SgOk Sg) (horc : OrcOk P Sg (orcOf orc)) {fl m : Nat} {f : FuncId} {args : List Value} {S : List Blk} {v : Value}
    (h : callInK P (evCodeK P orc Sg m) fl f args S (fun u _ => some u) = some v) (hfl : Sg.length ≤ fl) (hS : Sg.length ≤ S.length) : ∃ S', CallAt P Sg fl f args S v S' := by
  obtain ⟨v1, S1, h1, h2⟩ := callInK_ok (P := P) (evCodeK_ok (orc := orc) (Sg := Sg) m) _ _ _ _ _ _ h
  cases h2
  exact ⟨S1, callIn_ok (evCode_ok hsg horc m).1 h1 hfl hS⟩
end
noncomputable section
/-- The ranges over functions of a piece, in the order of the text. -/
def rangesOf : Code → List (Operand × Array Tmp × Code × Code)
  | .rangeFunc f p a b => (f, p, a, b) :: rangesOf b
  | .loop b => rangesOf b
  | .seq a b => rangesOf a ++ rangesOf b
  | .cond _ a b => rangesOf a ++ rangesOf b
  | .block _ b => rangesOf b
  | .scope b => rangesOf b
  | _ => []
def rangeOf (P : Program) (f i : Nat) : Operand × Array Tmp × Code × Code := match getR (rangesOf (bodyOf P f)) i with
  | some x => x
  | none => (.func 0, #[], .skip, .skip)
end
end Go.Proofs.XX.Vm
