/- A small evaluator over a shadow heap, part 6: regions, code and calls. -/
import Derived.Test.YtonjnnjnojmpjaaDoorV5
namespace Go.Proofs.XX.Vm
open Go Go.RowKit

noncomputable section
inductive Ex where
  | normal
  | exit (id : Nat)
  | ret

def Ex.to : Ex → Exit
  | .normal => .normal
  | .exit id => .exit id
  | .ret => .ret

def wantedS (ops : Array Oper) (T : List Value) (o : Oper) : Option Bool :=
  match o.guard with
  | none => some true
  | some (j, want) => match ops[j]? with
    | some p => match p.dst with
      | some d => match nthD T d with
        | .bool b => some (b == want)
        | .tuple xs => match xs.toList with
          | [] => bif Nat.blt d T.length then some false else none
          | _ => none
        | _ => none
      | none => none
    | none => none

def putL (T : List Value) (d : Option Tmp) (v : Value) : List Value :=
  match d with
  | some d => T.set d v
  | none => T
def putK {β : Type} (T : List Value) (d : Option Tmp) (v : Value) (k : List Value → β) : β :=
  match d with
  | some d => setK T d v k
  | none => k T
theorem putK_eq {β : Type} (T : List Value) (d : Option Tmp) (v : Value) (k : List Value → β) : putK T d v k = k (putL T d v) := by
  cases d with
  | none => rfl
  | some d => exact setK_eq T d v k

/-- How calls are evaluated, and rounds of a range over a function. -/
structure Caller where
  call : Nat → FuncId → List Value → List Blk → Option (Value × List Blk)
  round : Nat → Nat → List Value → List Blk → Option (Value × List Blk)

/-- What an operation of a region gives, and what becomes of the heap. -/
def opRes (P : Program) (gl : Nat) (cl : Caller) (fl : Nat) (ops : Array Oper) (o : Oper) (T : List Value) (S : List Blk) : Option (Value × List Blk) :=
  match wantedS ops T o with
  | some true => match evOp P gl fl o T S with
    | some (.val v S') => some (v, S')
    | some (.call f args) => cl.call fl f args S
    | some (.round l args) => cl.round fl l args S
    | none => none
  | some false => some (undef, S)
  | none => none

def evOps (P : Program) (gl : Nat) (cl : Caller) (fl : Nat) (ops : Array Oper) : List Oper → List Value → List Blk → Option (List Value × List Blk)
  | [], T, S => some (T, S)
  | o :: l, T, S => match opRes P gl cl fl ops o T S with
    | some (v, S') => putK T o.dst v fun T' => evOps P gl cl fl ops l T' S'
    | none => none

def resVals (P : Program) (T : List Value) (S : List Blk) : List ResultVar → Option (List Value)
  | [] => some []
  | .tmp t :: l => match resVals P T S l with
    | some vs => some (nthD T t :: vs)
    | none => none
  | .cell a t :: l => match load P t S (nthD T a), resVals P T S l with
    | some v, some vs => some (v :: vs)
    | _, _ => none
def oneVal : List Value → Value
  | [v] => v
  | vs => .tuple vs.toArray

def callIn (P : Program) (rec : Bool → Nat → Code → List Value → List Blk → Option (Ex × List Value × List Blk)) (fl : Nat) (f : FuncId) (args : List Value) (S : List Blk) : Option (Value × List Blk) :=
  match P.funcs[f]? with
  | some fn => match fn.body with
    | some c => match forceK (args ++ List.replicate (fn.ntmps - args.length) undef) fun T => rec false fl c T S with
      | some (.exit _, _, _) => none
      | some (_, T', S') => match resVals P T' S' fn.results.toList with
        | some vs => some (oneVal vs, S')
        | none => none
      | none => none
    | none => none
  | none => none

def dataV : Value → Bool
  | .bool _ | .int _ _ | .string _ => true
  | _ => false
/-- No result of the function can bear an address. -/
def isoOk (P : Program) (f : FuncId) : Bool :=
  match P.funcs[f]? with
  | some fn => fn.resultTypes.toList.all fun t => match zeroT P t with
    | some z => z.cells.toList.all dataV
    | none => false
  | none => false

/-- A call: by an oracle; apart from all else, where neither its arguments nor its results bear an address; else in place. -/
def callS (P : Program) (orc : FuncId → List Value → Option Value) (Sg : List Blk) (rec : Bool → Nat → Code → List Value → List Blk → Option (Ex × List Value × List Blk)) (fl : Nat) (f : FuncId) (args : List Value) (S : List Blk) : Option (Value × List Blk) :=
  if args.all plain && isoOk P f then
    match orc f args with
    | some v => if plain v then some (v, S) else none
    | none => match callIn P rec Sg.length f args Sg with
      | some (v, _) => if plain v then some (v, S) else none
      | none => none
  else callIn P rec fl f args S

/-- The record of a loop, at a block of the shadow. -/
def loopAt (S : List Blk) (l : Nat) : Option LoopS :=
  match S[l]? with
  | some ⟨_, _, _, some (.loop L)⟩ => some L
  | _ => none
def loopBlk (L : LoopS) : Blk := ⟨[], 0, true, some (.loop L)⟩
def setParams (T : List Value) : List Tmp → List Value → List Value
  | t :: ts, v :: vs => setParams (T.set t v) ts vs
  | _, _ => T
def jumpOf : Ex → Option Code
  | .normal => none
  | .exit id => some (.exit id)
  | .ret => some .ret
def goesOn : Ex → Bool
  | .normal => true
  | _ => false
/-- One round of a range over a function. -/
def roundS (rec : Bool → Nat → Code → List Value → List Blk → Option (Ex × List Value × List Blk)) (fl l : Nat) (args : List Value) (S : List Blk) : Option (Value × List Blk) :=
  match loopAt S l with
  | some L => if decide (fl ≤ l) && args.length == L.params.toList.length then
      forceK (setParams L.tmps L.params.toList args) fun T => match rec true fl L.assign T S with
      | some (.normal, T1, S1) => match loopAt S1 l with
        | some ⟨.ready, p1, t1, q1, a1, b1⟩ => forceK (S1.set l (loopBlk ⟨.busy, p1, t1, q1, a1, b1⟩)) fun S2 =>
          match rec true fl L.body T1 S2 with
          | some (x, _, S3) => match loopAt S3 l with
            | some L3 => forceK (S3.set l (loopBlk { L3 with state := if goesOn x then .ready else .done, pending := jumpOf x })) fun S4 => some (.bool (goesOn x), S4)
            | none => none
          | none => none
        | _ => none
      | _ => none
    else none
  | none => none
def callerS (P : Program) (orc : FuncId → List Value → Option Value) (Sg : List Blk) (rec : Bool → Nat → Code → List Value → List Blk → Option (Ex × List Value × List Blk)) : Caller := ⟨callS P orc Sg rec, roundS rec⟩
/-- A range over a function, outside of rounds. -/
def rangeS (P : Program) (gl : Nat) (rec : Bool → Nat → Code → List Value → List Blk → Option (Ex × List Value × List Blk)) (fl : Nat) (f : Operand) (params : Array Tmp) (assign body : Code) (T : List Value) (S : List Blk) : Option (Ex × List Value × List Blk) :=
  if decide (fl ≤ S.length) then match opd gl T f with
  | some g => forceK (S ++ [loopBlk ⟨.ready, none, T, params, assign, body⟩]) fun S1 => match callee P g [.func (.yield S.length) #[] #[]] with
    | some (.call h args) => match callIn P rec fl h args S1 with
      | some (_, S2) => match loopAt S2 S.length with
        | some L => match L.state with
          | .busy => none
          | _ => forceK (S2.set S.length (loopBlk { L with state := .exhausted })) fun S3 => match L.pending with
            | none => some (.normal, T, S3)
            | some .ret => some (.ret, T, S3)
            | some (.exit id) => some (.exit id, T, S3)
            | _ => none
        | none => none
      | none => none
    | _ => none
  | none => none
  else none

def beforeM (md : Region.Mode) (o : Oper) (j : Nat) : Bool := anyR (fun e => Nat.beq e.on j && Region.binds md e) o.after.toList
def tmpsOf (o : Oper) : List Tmp := o.op.operands.toList.filterMap fun | .tmp t => some t | _ => none
/-- Every operation that writes t, with its number, meets p. -/
def writersR (p : Oper → Nat → Bool) (t : Tmp) (l : List Oper) : Nat → Bool :=
  List.rec (fun _ => true) (fun o _ ih j => match o.dst with
    | some d => (match Nat.beq d t with
      | true => p o j && ih (j + 1)
      | false => ih (j + 1))
    | none => ih (j + 1)) l
/-- Whoever writes t is i itself, or comes before i in every order, or behind it in every order. -/
def apartFrom (md : Region.Mode) (ops : Array Oper) (o : Oper) (i : Nat) (t : Tmp) : Bool :=
  writersR (fun p j => Nat.beq j i || beforeM md o j || beforeM md p i) t ops.toList 0
/-- The guard's operation comes before in every order, and so does whoever else writes its temporary. -/
def guardOk (md : Region.Mode) (ops : Array Oper) (o : Oper) : Bool :=
  match o.guard with
  | some (j, _) => beforeM md o j && (match getR ops.toList j with
    | some p => p.dst.isSome
    | none => false)
  | none => true
def soleDst (ops : Array Oper) (o : Oper) (i : Nat) : Bool :=
  match o.dst with
  | some d => writersR (fun _ j => Nat.beq j i) d ops.toList 0
  | none => true
def edgesIn (md : Region.Mode) (o : Oper) (done : List Nat) : Bool := allR (fun e => !Region.binds md e || anyR (Nat.beq e.on) done) o.after.toList
def notSelect : Op → Bool
  | .select .. => false
  | _ => true
def drawOk (md : Region.Mode) (ops : Array Oper) (o : Oper) (i : Nat) : Bool :=
  allR (apartFrom md ops o i) (tmpsOf o) && guardOk md ops o && soleDst ops o i && notSelect o.op

/-- Operations that may come in whatever order their edges allow. -/
def preOk (md : Region.Mode) (ops : Array Oper) : List Nat → List Nat → Bool
  | _, [] => true
  | done, i :: l => match getR ops.toList i with
    | some o => drawOk md ops o i && edgesIn md o done && !anyR (Nat.beq i) done && preOk md ops (i :: done) l
    | none => false
/-- They write to no block there is. -/
def evPre (P : Program) (gl : Nat) (cl : Caller) (ops : Array Oper) : List Nat → List Value → List Blk → Option (List Value × List Blk)
  | [], T, S => some (T, S)
  | i :: l, T, S => match getR ops.toList i with
    | some o => match opRes P gl cl S.length ops o T S with
      | some (v, S') => putK T o.dst v fun T' => evPre P gl cl ops l T' S'
      | none => none
    | none => none

/-- j comes before o, or before one that does. -/
def behind (md : Region.Mode) (ops : Array Oper) (o : Oper) (done : List Nat) (j : Nat) : Bool :=
  beforeM md o j || anyR (fun k => beforeM md o k && (match getR ops.toList k with
    | some p => beforeM md p j
    | none => false)) done
def aheadOk (md : Region.Mode) (ops : Array Oper) (o : Oper) (done : List Nat) : Option Nat → Bool
  | some j => beforeM md o j
  | none => allR (behind md ops o done) done
/-- Operations each of which comes, in every order, behind the one ahead of it. -/
def tailOk (md : Region.Mode) (ops : Array Oper) : Option Nat → List Nat → List Nat → Bool
  | _, _, [] => true
  | ahead, done, i :: l => match getR ops.toList i with
    | some o => edgesIn md o done && !anyR (Nat.beq i) done && aheadOk md ops o done ahead && tailOk md ops (some i) (i :: done) l
    | none => false
def evTail (P : Program) (gl : Nat) (cl : Caller) (fl : Nat) (ops : Array Oper) : List Nat → List Value → List Blk → Option (List Value × List Blk)
  | [], T, S => some (T, S)
  | i :: l, T, S => match getR ops.toList i with
    | some o => match opRes P gl cl fl ops o T S with
      | some (v, S') => putK T o.dst v fun T' => evTail P gl cl fl ops l T' S'
      | none => none
    | none => none

def chained (md : Region.Mode) (ops : Array Oper) : Nat → List Nat → Bool
  | _, [] => true
  | j, i :: l => match getR ops.toList i with
    | some o => beforeM md o j && chained md ops i l
    | none => false
/-- Where the forced end begins. -/
def splitTail (md : Region.Mode) (ops : Array Oper) : List Nat → List Nat → List Nat × List Nat
  | _, [] => ([], [])
  | done, i :: l => match getR ops.toList i with
    | some o => if allR (behind md ops o done) done && chained md ops i l then ([], i :: l) else
        match splitTail md ops (i :: done) l with
        | (p, q) => (i :: p, q)
    | none => ([], i :: l)
def storeless (ops : Array Oper) (i : Nat) : Bool :=
  match getR ops.toList i with
  | some o => match o.op with
    | .store .. => false
    | .next .. => false
    | .mapUpdate .. => false
    | _ => true
  | none => true
/-- All that hangs on the region's own text alone. -/
def regionStatic (md : Region.Mode) (ops : Array Oper) (σ : List Nat) : Option (List Nat × List Nat) :=
  if allR (fun i => anyR (Nat.beq i) σ) (List.range ops.size) then
    match splitTail md ops [] σ with
    | (pre, tl) => if allR (storeless ops) pre && (preOk md ops [] pre && tailOk md ops none pre.reverse tl) then forceK pre fun p => forceK tl fun q => some (p, q) else none
  else none

def evRegion (P : Program) (gl : Nat) (cl : Caller) (fl : Nat) (md : Region.Mode) (ops : Array Oper) (σ : List Nat) (T : List Value) (S : List Blk) : Option (List Value × List Blk) :=
  match regionStatic md ops σ with
  | some (pre, tl) => match evPre P gl cl ops pre T S with
    | some (T', S') => evTail P gl cl fl ops tl T' S'
    | none => none
  | none => none

/-- Operations that look at no block. -/
def regOnly : Op → Bool
  | .move _ | .assign _ | .pick .. | .fieldAddr .. | .indexAddr .. | .nilCheck _ => true
  | op => pureOp op
/-- A load whose address nobody writes behind it. -/
def loadOnly (md : Region.Mode) (ops : Array Oper) (o : Oper) : Bool :=
  match o.op with
  | .load _ (.tmp t) => writersR (fun _ j => beforeM md o j) t ops.toList 0
  | _ => false
/-- It may come before or behind what writes to blocks, if these are others. -/
def floatOk (md : Region.Mode) (ops : Array Oper) (j : Nat) : Bool :=
  match getR ops.toList j with
  | some o => match regOnly o.op with
    | true => true
    | false => loadOnly md ops o
  | none => false
def splitFloat (md : Region.Mode) (ops : Array Oper) : List Nat → List Nat → List Nat × List Nat
  | _, [] => ([], [])
  | done, i :: l => match getR ops.toList i with
    | some o => if allR (fun j => behind md ops o done j || floatOk md ops j) done && chained md ops i l then ([], i :: l) else
        match splitFloat md ops (i :: done) l with
        | (p, q) => (i :: p, q)
    | none => ([], i :: l)
/-- Those of the first part that need not come before the second. -/
def floatsOf (md : Region.Mode) (ops : Array Oper) (pre : List Nat) : List Nat → List Nat
  | y :: _ => match getR ops.toList y with
    | some o => pre.filter fun j => !behind md ops o pre.reverse j
    | none => []
  | [] => []
def chainedAll (md : Region.Mode) (ops : Array Oper) : List Nat → Bool
  | y :: l => chained md ops y l
  | [] => true
def floatStatic (md : Region.Mode) (ops : Array Oper) (σ : List Nat) : Option (List Nat × List Nat × List Nat) :=
  if allR (fun i => anyR (Nat.beq i) σ) (List.range ops.size) then
    match splitFloat md ops [] σ with
    | (pre, tl) => if preOk md ops [] pre && preOk md ops pre.reverse tl && chainedAll md ops tl && allR (floatOk md ops) (floatsOf md ops pre tl) then
        forceK pre fun p => forceK (floatsOf md ops pre tl) fun f => forceK tl fun q => some (p, f, q) else none
  else none
/-- The loads, and the blocks at which they look. -/
def floatBlks (ops : Array Oper) (T : List Value) : List Nat → Option (List (Nat × Nat))
  | [] => some []
  | j :: l => match getR ops.toList j, floatBlks ops T l with
    | some o, some B => match regOnly o.op with
      | true => some B
      | false => match o.op with
        | .load _ (.tmp t) => match nthD T t with
          | .pointer (some ⟨b, _, none⟩) => some ((j, b) :: B)
          | _ => none
        | _ => none
    | _, _ => none
def quietOp (gl : Nat) (B : List (Nat × Nat)) (o : Oper) (T : List Value) : Bool :=
  match B with
  | [] => true
  | _ => match o.op with
    | .store _ x _ => match opd gl T x with
      | some (.pointer (some ⟨b, _, none⟩)) => allR (fun p => !Nat.beq b p.2) B
      | _ => false
    | op => regOnly op
/-- Those that need not have come before o. -/
def openAt (md : Region.Mode) (o : Oper) (B : List (Nat × Nat)) : List (Nat × Nat) := B.filter fun p => !beforeM md o p.1
def evTailF (P : Program) (gl : Nat) (cl : Caller) (fl : Nat) (md : Region.Mode) (ops : Array Oper) : List Nat → List (Nat × Nat) → List Value → List Blk → Option (List Value × List Blk)
  | [], _, T, S => some (T, S)
  | i :: l, B, T, S => match getR ops.toList i with
    | some o => forceK (openAt md o B) fun B' => if quietOp gl B' o T then match opRes P gl cl fl ops o T S with
      | some (v, S') => putK T o.dst v fun T' => evTailF P gl cl fl md ops l B' T' S'
      | none => none
      else none
    | none => none
def evFloat (P : Program) (gl : Nat) (cl : Caller) (fl : Nat) (md : Region.Mode) (ops : Array Oper) (σ : List Nat) (T : List Value) (S : List Blk) : Option (List Value × List Blk) :=
  match floatStatic md ops σ with
  | some (pre, F, tl) => match evPre P gl cl ops pre T S with
    | some (T', S') => match floatBlks ops T' F with
      | some B => evTailF P gl cl fl md ops tl B T' S'
      | none => none
    | none => none
  | none => none

def seq1 : Value → Value → Bool
  | .bool a, .bool b => a == b
  | .int j a, .int k b => j == k && a == b
  | .string a, .string b => a.data.toList == b.data.toList
  | .pointer a, .pointer b => a == b
  | .slice a n c, .slice b m d => a == b && n == m && c == d
  | .map a, .map b => a == b
  | .nilFunc, .nilFunc => true
  | .func (.func f) x c, .func (.func g) y d => f == g && x.toList.isEmpty && y.toList.isEmpty && c.toList.isEmpty && d.toList.isEmpty
  | _, _ => false
def leq (p : Value → Value → Bool) : List Value → List Value → Bool
  | [], [] => true
  | v :: l, u :: m => p v u && leq p l m
  | _, _ => false
def seq2 : Value → Value → Bool
  | .agg x, .agg y => leq seq1 x.toList y.toList
  | v, u => seq1 v u
def seq3 : Value → Value → Bool
  | .tuple x, .tuple y => leq seq2 x.toList y.toList
  | v, u => seq2 v u
def heq1 : List Blk → List Blk → Bool
  | [], [] => true
  | k :: l, j :: m => leq seq1 k.cells j.cells && k.elem == j.elem && k.ro == j.ro && k.obj.isNone && j.obj.isNone && heq1 l m
  | _, _ => false

def evDraw (P : Program) (gl : Nat) (cl : Caller) (fl : Nat) (ops : Array Oper) (T : List Value) (S : List Blk) : Option (List Value × List Blk) :=
  if Region.departs ops && !P.follows .mixedOrders then
    match evRegion P gl cl fl .text ops (List.range ops.size) T S, evRegion P gl cl fl .gc ops (Region.linearise .gc ops 0) T S with
    | some (T1, S1), some (T2, S2) => if leq seq3 T1 T2 && heq1 S1 S2 then some (T1, S1) else none
    | _, _ => none
  else match regionStatic .any ops (List.range ops.size) with
  | some _ => evRegion P gl cl fl .any ops (List.range ops.size) T S
  | none => evFloat P gl cl fl .any ops (List.range ops.size) T S

def evCode (P : Program) (orc : FuncId → List Value → Option Value) (Sg : List Blk) : Nat → Bool → Nat → Code → List Value → List Blk → Option (Ex × List Value × List Blk)
  | 0, _, _, _, _, _ => none
  | n + 1, ro, fl, c, T, S =>
    match c with
    | .skip => some (.normal, T, S)
    | .seq a b => match evCode P orc Sg n ro fl a T S with
      | some (.normal, T', S') => evCode P orc Sg n ro fl b T' S'
      | r => r
    | .cond x a b => match opd Sg.length T x with
      | some (.bool β) => evCode P orc Sg n ro fl (bif β then a else b) T S
      | _ => none
    | .block id b => match evCode P orc Sg n ro fl b T S with
      | some (.exit id', T', S') => if id' = id then some (.normal, T', S') else some (.exit id', T', S')
      | r => r
    | .loop b => match evCode P orc Sg n ro fl b T S with
      | some (.normal, T', S') => evCode P orc Sg n ro fl (.loop b) T' S'
      | r => r
    | .label _ => some (.normal, T, S)
    | .scope b => evCode P orc Sg n ro fl b T S
    | .exit id => some (.exit id, T, S)
    | .ret => some (.ret, T, S)
    | .region _ ops false => match evOps P Sg.length (callerS P orc Sg (evCode P orc Sg n)) fl ops ops.toList T S with
      | some (T', S') => some (.normal, T', S')
      | none => none
    | .region _ ops true => match evDraw P Sg.length (callerS P orc Sg (evCode P orc Sg n)) fl ops T S with
      | some (T', S') => some (.normal, T', S')
      | none => none
    | .rangeFunc f params assign body => match ro with
      | true => none
      | false => rangeS P Sg.length (evCode P orc Sg n) fl f params assign body T S
    | _ => none

/-- A whole call, apart from all else. -/
def run (P : Program) (orc : FuncId → List Value → Option Value) (Sg : List Blk) (n : Nat) (f : FuncId) (args : List Value) : Option Value :=
  match callIn P (evCode P orc Sg n) Sg.length f args Sg with
  | some (v, _) => if plain v then some v else none
  | none => none
end
end Go.Proofs.XX.Vm
