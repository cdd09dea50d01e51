/- A small evaluator over a shadow heap, regions. -/
import Derived.Test.YtnmgahhceliphaaGreatDoorWb
/- A small evaluator over a shadow heap, part 6: regions, code and calls. -/
namespace Go.Proofs.XX.Vm
open Go Go.RowKit

noncomputable section
inductive Ex where
  | normal
  | exit (id : Nat)
  | ret

def Ex.to : Ex → Exit
  | .normal => .normal
  | .exit id => .exit id
  | .ret => .ret

def wantedS (ops : Array Oper) (T : List Value) (o : Oper) : Option Bool :=
  match o.guard with
  | none => some true
  | some (j, want) => match ops[j]? with
    | some p => match p.dst with
      | some d => match nthD T d with
        | .bool b => some (b == want)
        | .tuple xs => match xs.toList with
          | [] => bif Nat.blt d T.length then some false else none
          | _ => none
        | _ => none
      | none => none
    | none => none

def putL (T : List Value) (d : Option Tmp) (v : Value) : List Value :=
  match d with
  | some d => T.set d v
  | none => T
def putK {β : Type} (T : List Value) (d : Option Tmp) (v : Value) (k : List Value → β) : β :=
  match d with
  | some d => setK T d v k
  | none => k T
theorem putK_eq {β : Type} (T : List Value) (d : Option Tmp) (v : Value) (k : List Value → β) : putK T d v k = k (putL T d v) := by
  cases d with
  | none => rfl
  | some d => exact setK_eq T d v k

/-- How calls are evaluated, and rounds of a range over a function. -/
structure Caller where
  call : Nat → FuncId → List Value → List Blk → Option (Value × List Blk)
  round : Nat → Nat → List Value → List Blk → Option (Value × List Blk)

/-- What an operation of a region gives, and what becomes of the heap. -/
def opRes (P : Program) (gl : Nat) (cl : Caller) (fl : Nat) (ops : Array Oper) (o : Oper) (T : List Value) (S : List Blk) : Option (Value × List Blk) :=
  match wantedS ops T o with
  | some true => match evOp P gl fl o T S with
    | some (.val v S') => some (v, S')
    | some (.call f args) => cl.call fl f args S
    | some (.round l args) => cl.round fl l args S
    | none => none
  | some false => some (undef, S)
  | none => none

/-- The number of a map's entries. -/
def lenTag (P : Program) (o : Oper) : Option Operand :=
  match o.op, o.guard with
  | .call { callee := .builtin .len, args, argTypes }, none => match args.toList, argTypes[0]? with
    | [x], some t => match P.underlying t with
      | some (.map _ _) => some x
      | _ => none
    | _, _ => none
  | _, _ => none
def mapLen (S : List Blk) : Value → Option Nat
  | .map (some b) => match getR S b with
    | some ⟨_, _, _, some (.map es _)⟩ => some es.length
    | some ⟨_, _, _, some (.mapv es _)⟩ => some es.length
    | _ => none
  | _ => none
def lenMap (gl : Nat) (T : List Value) (S : List Blk) (x : Operand) : Option Nat := match opd gl T x with
  | some m => mapLen S m
  | none => none
def evOps (P : Program) (gl : Nat) (cl : Caller) (fl : Nat) (ops : Array Oper) : List Oper → List Value → List Blk → Option (List Value × List Blk)
  | [], T, S => some (T, S)
  | o :: l, T, S => match lenTag P o with
    | some x => match lenMap gl T S x with
      | some n => putK T o.dst (.int .i64 n) fun T' => evOps P gl cl fl ops l T' S
      | none => none
    | none => match opRes P gl cl fl ops o T S with
      | some (v, S') => putK T o.dst v fun T' => evOps P gl cl fl ops l T' S'
      | none => none

def resVals (P : Program) (T : List Value) (S : List Blk) : List ResultVar → Option (List Value)
  | [] => some []
  | .tmp t :: l => match resVals P T S l with
    | some vs => some (nthD T t :: vs)
    | none => none
  | .cell a t :: l => match load P t S (nthD T a), resVals P T S l with
    | some v, some vs => some (v :: vs)
    | _, _ => none
def oneVal : List Value → Value
  | [v] => v
  | vs => .tuple vs.toArray

def callIn (P : Program) (rec : Bool → Nat → Code → List Value → List Blk → Option (Ex × List Value × List Blk)) (fl : Nat) (f : FuncId) (args : List Value) (S : List Blk) : Option (Value × List Blk) :=
  match P.funcs[f]? with
  | some fn => match fn.body with
    | some c => match forceK (args ++ List.replicate (fn.ntmps - args.length) undef) fun T => rec false fl c T S with
      | some (.exit _, _, _) => none
      | some (_, T', S') => match resVals P T' S' fn.results.toList with
        | some vs => some (oneVal vs, S')
        | none => none
      | none => none
    | none => none
  | none => none

def dataV : Value → Bool
  | .bool _ | .int _ _ | .string _ => true
  | _ => false
/-- No result of the function can bear an address. -/
def isoOk (P : Program) (f : FuncId) : Bool :=
  match P.funcs[f]? with
  | some fn => fn.resultTypes.toList.all fun t => match zeroT P t with
    | some z => z.cells.toList.all dataV
    | none => false
  | none => false

/-- What is known of calls: of those with plain arguments, and of those with memory. -/
structure OrcF where
  val : FuncId → List Value → Option Value
  mem : Nat → FuncId → List Value → List Blk → Option (Value × List Blk)
/-- Values and blocks that name no block from n on. -/
def clA (n : Nat) : Value → Bool
  | .pointer (some a) => Nat.blt a.block n
  | .slice (some a) _ _ => Nat.blt a.block n
  | .map (some b) => Nat.blt b n
  | .func _ _ _ => false
  | .agg _ => false
  | .tuple _ => false
  | .iface _ _ => false
  | _ => true
def clS (n : Nat) : Value → Bool
  | .func (.func _) x c => allR (clA n) x.toList && allR (clA n) c.toList
  | .func (.yield l) x c => Nat.blt l n && x.toList.isEmpty && c.toList.isEmpty
  | v => clA n v
def cl2 (n : Nat) : Value → Bool
  | .agg x => allR (clS n) x.toList
  | v => clS n v
def cl3 (n : Nat) : Value → Bool
  | .tuple x => allR (cl2 n) x.toList
  | v => cl2 n v
def clB (n : Nat) (k : Blk) : Bool := match k.obj with
  | none => allR (clS n) k.cells
  | some (.bufc _) => allR (clS n) k.cells
  | some (.loop l) => allR (cl3 n) l.tmps
  | some (.mapv _ _) => false
  | _ => true
/-- Whether what a call has allocated can be forgotten: nothing that there was before names it. -/
def gcOk (S : List Blk) (args : List Value) (v : Value) (S' : List Blk) : Bool :=
  Nat.ble (lenR S + 4) (lenR S') && (plain v && (allR (clB (lenR S)) S && (allR (clB (lenR S)) (takeR S' (lenR S)) && allR (cl3 (lenR S)) args)))
def gcS (S : List Blk) (args : List Value) (v : Value) (S' : List Blk) : List Blk := bif gcOk S args v S' then takeR S' (lenR S) else S'
/-- A call: by an oracle; apart from all else, where neither its arguments nor its results bear an address; else in place. -/
def callS (P : Program) (orc : OrcF) (Sg : List Blk) (rec : Bool → Nat → Code → List Value → List Blk → Option (Ex × List Value × List Blk)) (fl : Nat) (f : FuncId) (args : List Value) (S : List Blk) : Option (Value × List Blk) :=
  if args.all plain && isoOk P f then
    match orc.val f args with
    | some v => if plain v then some (v, S) else none
    | none => match callIn P rec Sg.length f args Sg with
      | some (v, _) => if plain v then some (v, S) else none
      | none => none
  else match orc.mem fl f args S with
    | some r => some r
    | none => match callIn P rec fl f args S with
      | some (v, S') => some (v, gcS S args v S')
      | none => none

/-- The record of a loop, at a block of the shadow. -/
def loopAt (S : List Blk) (l : Nat) : Option LoopS :=
  match S[l]? with
  | some ⟨_, _, _, some (.loop L)⟩ => some L
  | _ => none
def loopBlk (L : LoopS) : Blk := ⟨[], 0, true, some (.loop L)⟩
def setParams (T : List Value) : List Tmp → List Value → List Value
  | t :: ts, v :: vs => setParams (T.set t v) ts vs
  | _, _ => T
def jumpOf : Ex → Option Code
  | .normal => none
  | .exit id => some (.exit id)
  | .ret => some .ret
def goesOn : Ex → Bool
  | .normal => true
  | _ => false
/-- One round of a range over a function. -/
def roundS (rec : Bool → Nat → Code → List Value → List Blk → Option (Ex × List Value × List Blk)) (fl l : Nat) (args : List Value) (S : List Blk) : Option (Value × List Blk) :=
  match loopAt S l with
  | some L => if decide (fl ≤ l) && args.length == L.params.toList.length then
      forceK (setParams L.tmps L.params.toList args) fun T => match rec true fl L.assign T S with
      | some (.normal, T1, S1) => match loopAt S1 l with
        | some ⟨.ready, p1, t1, q1, a1, b1⟩ => forceK (S1.set l (loopBlk ⟨.busy, p1, t1, q1, a1, b1⟩)) fun S2 =>
          match rec true fl L.body T1 S2 with
          | some (x, _, S3) => match loopAt S3 l with
            | some L3 => forceK (S3.set l (loopBlk { L3 with state := if goesOn x then .ready else .done, pending := jumpOf x })) fun S4 => some (.bool (goesOn x), S4)
            | none => none
          | none => none
        | _ => none
      | _ => none
    else none
  | none => none
def callerS (P : Program) (orc : OrcF) (Sg : List Blk) (rec : Bool → Nat → Code → List Value → List Blk → Option (Ex × List Value × List Blk)) : Caller := ⟨callS P orc Sg rec, roundS rec⟩
/-- A range over a function, outside of rounds. -/
def rangeS (P : Program) (gl : Nat) (rec : Bool → Nat → Code → List Value → List Blk → Option (Ex × List Value × List Blk)) (fl : Nat) (f : Operand) (params : Array Tmp) (assign body : Code) (T : List Value) (S : List Blk) : Option (Ex × List Value × List Blk) :=
  if decide (fl ≤ S.length) then match opd gl T f with
  | some g => forceK (S ++ [loopBlk ⟨.ready, none, T, params, assign, body⟩]) fun S1 => match callee P g [.func (.yield S.length) #[] #[]] with
    | some (.call h args) => match callIn P rec fl h args S1 with
      | some (_, S2) => match loopAt S2 S.length with
        | some L => match L.state with
          | .busy => none
          | _ => forceK (S2.set S.length (loopBlk { L with state := .exhausted })) fun S3 => match L.pending with
            | none => some (.normal, T, S3)
            | some .ret => some (.ret, T, S3)
            | some (.exit id) => some (.exit id, T, S3)
            | _ => none
        | none => none
      | none => none
    | _ => none
  | none => none
  else none

def beforeM (md : Region.Mode) (o : Oper) (j : Nat) : Bool := anyR (fun e => Nat.beq e.on j && Region.binds md e) o.after.toList
def tmpsOf (o : Oper) : List Tmp := o.op.operands.toList.filterMap fun | .tmp t => some t | _ => none
/-- Every operation that writes t, with its number, meets p. -/
def writersR (p : Oper → Nat → Bool) (t : Tmp) (l : List Oper) : Nat → Bool :=
  List.rec (fun _ => true) (fun o _ ih j => match o.dst with
    | some d => (match Nat.beq d t with
      | true => p o j && ih (j + 1)
      | false => ih (j + 1))
    | none => ih (j + 1)) l
/-- Whoever writes t is i itself, or comes before i in every order, or behind it in every order. -/
def apartFrom (md : Region.Mode) (ops : Array Oper) (o : Oper) (i : Nat) (t : Tmp) : Bool :=
  writersR (fun p j => Nat.beq j i || beforeM md o j || beforeM md p i) t ops.toList 0
/-- The guard's operation comes before in every order, and so does whoever else writes its temporary. -/
def guardOk (md : Region.Mode) (ops : Array Oper) (o : Oper) : Bool :=
  match o.guard with
  | some (j, _) => beforeM md o j && (match getR ops.toList j with
    | some p => p.dst.isSome
    | none => false)
  | none => true
def soleDst (ops : Array Oper) (o : Oper) (i : Nat) : Bool :=
  match o.dst with
  | some d => writersR (fun _ j => Nat.beq j i) d ops.toList 0
  | none => true
def edgesIn (md : Region.Mode) (o : Oper) (done : List Nat) : Bool := allR (fun e => !Region.binds md e || anyR (Nat.beq e.on) done) o.after.toList
def notSelect : Op → Bool
  | .select .. => false
  | _ => true
def drawOk (md : Region.Mode) (ops : Array Oper) (o : Oper) (i : Nat) : Bool :=
  allR (apartFrom md ops o i) (tmpsOf o) && guardOk md ops o && soleDst ops o i && notSelect o.op

/-- Operations that may come in whatever order their edges allow. -/
def preOk (md : Region.Mode) (ops : Array Oper) : List Nat → List Nat → Bool
  | _, [] => true
  | done, i :: l => match getR ops.toList i with
    | some o => drawOk md ops o i && edgesIn md o done && !anyR (Nat.beq i) done && preOk md ops (i :: done) l
    | none => false
/-- They write to no block there is. -/
def evPre (P : Program) (gl : Nat) (cl : Caller) (ops : Array Oper) : List Nat → List Value → List Blk → Option (List Value × List Blk)
  | [], T, S => some (T, S)
  | i :: l, T, S => match getR ops.toList i with
    | some o => match opRes P gl cl S.length ops o T S with
      | some (v, S') => putK T o.dst v fun T' => evPre P gl cl ops l T' S'
      | none => none
    | none => none

/-- j comes before o, by so many edges and one. -/
def reach (md : Region.Mode) (ops : Array Oper) : Nat → Oper → Nat → Bool
  | 0, o, j => beforeM md o j
  | n + 1, o, j => beforeM md o j || anyR (fun e => Region.binds md e && (match getR ops.toList e.on with
    | some p => reach md ops n p j
    | none => false)) o.after.toList
/-- j comes before o, or before one that does. -/
def behind (md : Region.Mode) (ops : Array Oper) (o : Oper) (done : List Nat) (j : Nat) : Bool :=
  beforeM md o j || anyR (fun k => beforeM md o k && (match getR ops.toList k with
    | some p => beforeM md p j
    | none => false)) done || reach md ops 7 o j
def aheadOk (md : Region.Mode) (ops : Array Oper) (o : Oper) (done : List Nat) : Option Nat → Bool
  | some j => beforeM md o j
  | none => allR (behind md ops o done) done
/-- Operations each of which comes, in every order, behind the one ahead of it. -/
def tailOk (md : Region.Mode) (ops : Array Oper) : Option Nat → List Nat → List Nat → Bool
  | _, _, [] => true
  | ahead, done, i :: l => match getR ops.toList i with
    | some o => edgesIn md o done && !anyR (Nat.beq i) done && aheadOk md ops o done ahead && tailOk md ops (some i) (i :: done) l
    | none => false
def evTail (P : Program) (gl : Nat) (cl : Caller) (fl : Nat) (ops : Array Oper) : List Nat → List Value → List Blk → Option (List Value × List Blk)
  | [], T, S => some (T, S)
  | i :: l, T, S => match getR ops.toList i with
    | some o => match opRes P gl cl fl ops o T S with
      | some (v, S') => putK T o.dst v fun T' => evTail P gl cl fl ops l T' S'
      | none => none
    | none => none

def chained (md : Region.Mode) (ops : Array Oper) : Nat → List Nat → Bool
  | _, [] => true
  | j, i :: l => match getR ops.toList i with
    | some o => beforeM md o j && chained md ops i l
    | none => false
/-- Where the forced end begins. -/
def splitTail (md : Region.Mode) (ops : Array Oper) : List Nat → List Nat → List Nat × List Nat
  | _, [] => ([], [])
  | done, i :: l => match getR ops.toList i with
    | some o => if allR (behind md ops o done) done && chained md ops i l then ([], i :: l) else
        match splitTail md ops (i :: done) l with
        | (p, q) => (i :: p, q)
    | none => ([], i :: l)
def storeless (ops : Array Oper) (i : Nat) : Bool :=
  match getR ops.toList i with
  | some o => match o.op with
    | .store .. => false
    | .next .. => false
    | .mapUpdate .. => false
    | _ => true
  | none => true
/-- All that hangs on the region's own text alone. -/
def regionStatic (md : Region.Mode) (ops : Array Oper) (σ : List Nat) : Option (List Nat × List Nat) :=
  if allR (fun i => anyR (Nat.beq i) σ) (List.range ops.size) then
    match splitTail md ops [] σ with
    | (pre, tl) => if allR (storeless ops) pre && (preOk md ops [] pre && tailOk md ops none pre.reverse tl) then forceK pre fun p => forceK tl fun q => some (p, q) else none
  else none

def evRegion (P : Program) (gl : Nat) (cl : Caller) (fl : Nat) (md : Region.Mode) (ops : Array Oper) (σ : List Nat) (T : List Value) (S : List Blk) : Option (List Value × List Blk) :=
  match regionStatic md ops σ with
  | some (pre, tl) => match evPre P gl cl ops pre T S with
    | some (T', S') => evTail P gl cl fl ops tl T' S'
    | none => none
  | none => none

/-- Operations that look at no block. -/
def regOnly : Op → Bool
  | .move _ | .assign _ | .pick .. | .fieldAddr .. | .indexAddr .. | .nilCheck _ => true
  | op => pureOp op
/-- A load whose address nobody writes behind it. -/
def loadOnly (md : Region.Mode) (ops : Array Oper) (o : Oper) : Bool :=
  match o.op with
  | .load _ (.tmp t) => writersR (fun _ j => beforeM md o j) t ops.toList 0
  | _ => false
/-- It may come before or behind what writes to blocks, if these are others. -/
def floatOk (md : Region.Mode) (ops : Array Oper) (j : Nat) : Bool :=
  match getR ops.toList j with
  | some o => match regOnly o.op with
    | true => true
    | false => loadOnly md ops o
  | none => false
def splitFloat (md : Region.Mode) (ops : Array Oper) : List Nat → List Nat → List Nat × List Nat
  | _, [] => ([], [])
  | done, i :: l => match getR ops.toList i with
    | some o => if allR (fun j => behind md ops o done j || floatOk md ops j) done && chained md ops i l then ([], i :: l) else
        match splitFloat md ops (i :: done) l with
        | (p, q) => (i :: p, q)
    | none => ([], i :: l)
/-- Those of the first part that need not come before the second. -/
def floatsOf (md : Region.Mode) (ops : Array Oper) (pre : List Nat) : List Nat → List Nat
  | y :: _ => match getR ops.toList y with
    | some o => pre.filter fun j => !behind md ops o pre.reverse j
    | none => []
  | [] => []
def chainedAll (md : Region.Mode) (ops : Array Oper) : List Nat → Bool
  | y :: l => chained md ops y l
  | [] => true
def floatStatic (md : Region.Mode) (ops : Array Oper) (σ : List Nat) : Option (List Nat × List Nat × List Nat) :=
  if allR (fun i => anyR (Nat.beq i) σ) (List.range ops.size) then
    match splitFloat md ops [] σ with
    | (pre, tl) => if preOk md ops [] pre && preOk md ops pre.reverse tl && chainedAll md ops tl && allR (floatOk md ops) (floatsOf md ops pre tl) then
        forceK pre fun p => forceK (floatsOf md ops pre tl) fun f => forceK tl fun q => some (p, f, q) else none
  else none
/-- The loads, and the blocks at which they look. -/
def floatBlks (ops : Array Oper) (T : List Value) : List Nat → Option (List (Nat × Nat))
  | [] => some []
  | j :: l => match getR ops.toList j, floatBlks ops T l with
    | some o, some B => match regOnly o.op with
      | true => some B
      | false => match o.op with
        | .load _ (.tmp t) => match nthD T t with
          | .pointer (some ⟨b, _, none⟩) => some ((j, b) :: B)
          | _ => none
        | _ => none
    | _, _ => none
/-- What makes a new block, whatever the heap holds. -/
def isNew : Op → Bool
  | .alloc _ => true
  | .box _ _ => true
  | .buildSlice _ _ _ => true
  | .makeSlice _ _ _ => true
  | _ => false
def addrB : Value → Option Nat
  | .pointer (some ⟨b, _, none⟩) => some b
  | .slice (some ⟨b, _, none⟩) _ _ => some b
  | .map (some b) => some b
  | _ => none
def allocB (ops : Array Oper) (j : Nat) : Bool := match getR ops.toList j with
  | some o => isNew o.op
  | none => false
/-- Operations in a row; between them may stand such as look at no block. -/
def chainG (md : Region.Mode) (ops : Array Oper) : Nat → List Nat → Bool
  | _, [] => true
  | j, i :: l => match getR ops.toList i with
    | some o => (match regOnly o.op with
      | true => chainG md ops j l
      | false => reach md ops 5 o j && chainG md ops i l)
    | none => false
def splitG (md : Region.Mode) (ops : Array Oper) : List Nat → List Nat → List Nat × List Nat
  | _, [] => ([], [])
  | done, i :: l => match getR ops.toList i with
    | some o => if !regOnly o.op && (allR (fun j => behind md ops o done j || floatOk md ops j || allocB ops j) done && chainG md ops i l) then ([], i :: l) else
        match splitG md ops (i :: done) l with
        | (p, q) => (i :: p, q)
    | none => ([], i :: l)
def chainR (md : Region.Mode) (ops : Array Oper) : Nat → List Nat → Bool
  | _, [] => true
  | j, i :: l => match getR ops.toList i with
    | some o => reach md ops 5 o j && chainR md ops i l
    | none => false
def chainRAll (md : Region.Mode) (ops : Array Oper) : List Nat → Bool
  | y :: l => chainR md ops y l
  | [] => true
def headG (md : Region.Mode) (ops : Array Oper) : List Nat → Bool
  | y :: l => (match getR ops.toList y with
    | some o => !regOnly o.op
    | none => false) && chainG md ops y l
  | [] => true
/-- Such as look at no block, in the forced end: each comes behind one of that end. -/
def lateG (md : Region.Mode) (ops : Array Oper) (tl : List Nat) : Bool := allR (fun i => match getR ops.toList i with
  | some o => !regOnly o.op || anyR (beforeM md o) tl
  | none => false) tl
def staticG (md : Region.Mode) (ops : Array Oper) (σ : List Nat) : Option (List Nat × List Nat × List Nat) :=
  if allR (fun i => anyR (Nat.beq i) σ) (List.range ops.size) then
    match splitG md ops [] σ with
    | (pre, tl) => if preOk md ops [] pre && (preOk md ops pre.reverse tl && (headG md ops tl && (lateG md ops tl && allR (fun j => floatOk md ops j || allocB ops j) (floatsOf md ops pre tl)))) then
        forceK pre fun p => forceK (floatsOf md ops pre tl) fun f => forceK tl fun q => some (p, f, q) else none
  else none
def blksG (ops : Array Oper) (T : List Value) : List Nat → Option (List (Nat × Nat))
  | [] => some []
  | j :: l => match getR ops.toList j, blksG ops T l with
    | some o, some B => match regOnly o.op with
      | true => some B
      | false => match o.op with
        | .load _ (.tmp t) => match nthD T t with
          | .pointer (some ⟨b, _, none⟩) => some ((j, b) :: B)
          | _ => none
        | op => match isNew op with
          | true => match o.dst with
            | some d => match addrB (nthD T d) with
              | some b => some ((j, b) :: B)
              | none => none
            | none => none
          | false => none
    | _, _ => none
def quietOp (gl : Nat) (B : List (Nat × Nat)) (o : Oper) (T : List Value) : Bool :=
  match B with
  | [] => true
  | _ => match o.op with
    | .store _ x _ => match opd gl T x with
      | some (.pointer (some ⟨b, _, none⟩)) => allR (fun p => !Nat.beq b p.2) B
      | _ => false
    | .load _ _ => true
    | op => regOnly op
/-- Those that need not have come before o. -/
def openAt (md : Region.Mode) (o : Oper) (B : List (Nat × Nat)) : List (Nat × Nat) := B.filter fun p => !beforeM md o p.1
def leq (p : Value → Value → Bool) : List Value → List Value → Bool
  | [], [] => true
  | v :: l, u :: m => p v u && leq p l m
  | _, _ => false
def seq0 : Value → Value → Bool
  | .bool a, .bool b => a == b
  | .int j a, .int k b => j == k && a == b
  | .string a, .string b => a.data.toList == b.data.toList
  | .pointer a, .pointer b => a == b
  | .slice a n c, .slice b m d => a == b && n == m && c == d
  | .map a, .map b => a == b
  | .nilFunc, .nilFunc => true
  | _, _ => false
def seq1 : Value → Value → Bool
  | .func (.func f) x c, .func (.func g) y d => f == g && leq seq0 x.toList y.toList && leq seq0 c.toList d.toList
  | .func (.yield l) x c, .func (.yield m) y d => Nat.beq l m && leq seq0 x.toList y.toList && leq seq0 c.toList d.toList
  | v, u => seq0 v u
def seq2 : Value → Value → Bool
  | .agg x, .agg y => leq seq1 x.toList y.toList
  | v, u => seq1 v u
def seq3 : Value → Value → Bool
  | .tuple x, .tuple y => leq seq2 x.toList y.toList
  | v, u => seq2 v u
def sameObj : Option SObj → Option SObj → Bool
  | none, none => true
  | some (.buf j m L), some (.buf k n M) => j == k && m == n && L == M
  | some (.bufc m), some (.bufc n) => m == n
  | _, _ => false
theorem sameObj_eq {a b : Option SObj} (h : sameObj a b = true) : a = b := by
  unfold sameObj at h
  split at h
  · rfl
  · simp only [Bool.and_eq_true, beq_iff_eq] at h
    obtain ⟨⟨rfl, rfl⟩, rfl⟩ := h
    rfl
  · rw [beq_iff_eq] at h; subst h; rfl
  · cases h
def heq1 : List Blk → List Blk → Bool
  | [], [] => true
  | k :: l, j :: m => leq seq1 k.cells j.cells && k.elem == j.elem && k.ro == j.ro && sameObj k.obj j.obj && heq1 l m
  | _, _ => false

/-- These blocks have not turned. -/
def sameBlks (S S' : List Blk) (B : List (Nat × Nat)) : Bool := allR (fun p => match S[p.2]? with
  | some k => (match S'[p.2]? with
    | some k' => heq1 [k] [k']
    | none => false)
  | none => false) B
def evTailF (P : Program) (gl : Nat) (cl : Caller) (fl : Nat) (md : Region.Mode) (ops : Array Oper) : List Nat → List (Nat × Nat) → List Value → List Blk → Option (List Value × List Blk)
  | [], _, T, S => some (T, S)
  | i :: l, B, T, S => match getR ops.toList i with
    | some o => forceK (openAt md o B) fun B' => match opRes P gl cl fl ops o T S with
      | some (v, S') => if quietOp gl B' o T || sameBlks S S' B' then putK T o.dst v fun T' => evTailF P gl cl fl md ops l B' T' S' else none
      | none => none
    | none => none
def evFloat (P : Program) (gl : Nat) (cl : Caller) (fl : Nat) (md : Region.Mode) (ops : Array Oper) (σ : List Nat) (T : List Value) (S : List Blk) : Option (List Value × List Blk) :=
  match floatStatic md ops σ with
  | some (pre, F, tl) => match evPre P gl cl ops pre T S with
    | some (T', S') => match floatBlks ops T' F with
      | some B => evTailF P gl cl fl md ops tl B T' S'
      | none => none
    | none => none
  | none => none

def evTailG (P : Program) (gl : Nat) (cl : Caller) (fl : Nat) (md : Region.Mode) (ops : Array Oper) : List Nat → List (Nat × Nat) → List Value → List Blk → Option (List Value × List Blk)
  | [], _, T, S => some (T, S)
  | i :: l, B, T, S => match getR ops.toList i with
    | some o => match regOnly o.op with
      | true => match opRes P gl cl fl ops o T S with
        | some (v, S') => putK T o.dst v fun T' => evTailG P gl cl fl md ops l B T' S'
        | none => none
      | false => forceK (openAt md o B) fun B' => match opRes P gl cl fl ops o T S with
        | some (v, S') => if quietOp gl B' o T || sameBlks S S' B' then putK T o.dst v fun T' => evTailG P gl cl fl md ops l B' T' S' else none
        | none => none
    | none => none
def evFloatG (P : Program) (gl : Nat) (cl : Caller) (fl : Nat) (md : Region.Mode) (ops : Array Oper) (σ : List Nat) (T : List Value) (S : List Blk) : Option (List Value × List Blk) :=
  match staticG md ops σ with
  | some (pre, F, tl) => match evPre P gl cl ops pre T S with
    | some (T', S') => match blksG ops T' F with
      | some B => evTailG P gl cl fl md ops tl B T' S'
      | none => none
    | none => none
  | none => none
/-- What may float, new variables too, and hangs on nothing else, comes first. -/
def firstG (md : Region.Mode) (ops : Array Oper) : List Nat → List Nat → List Nat → List Nat
  | [], p, q => p.reverse ++ q.reverse
  | j :: l, p, q => match getR ops.toList j with
    | some o => if (floatOk md ops j || allocB ops j) && edgesIn md o p then firstG md ops l (j :: p) q else firstG md ops l p (j :: q)
    | none => []

/-- What may float, and hangs on nothing else, comes first. -/
def floatsFirst (md : Region.Mode) (ops : Array Oper) : List Nat → List Nat → List Nat → List Nat
  | [], p, q => p.reverse ++ q.reverse
  | j :: l, p, q => match getR ops.toList j with
    | some o => if floatOk md ops j && edgesIn md o p then floatsFirst md ops l (j :: p) q else floatsFirst md ops l p (j :: q)
    | none => []
/-- All calls of the region are of functions by their names, without addresses. -/
def dataFn (P : Program) (g : Nat) : Bool := match P.funcs[g]? with
  | some fn => fn.params.toList.all (fun t => match zeroT P t with
    | some z => z.cells.toList.all dataV
    | none => false) && isoOk P g
  | none => false
def plainCalls (P : Program) (ops : Array Oper) : Bool := allR (fun o => match o.op with
  | .call c => (match c.callee with
    | .value (.func g) => dataFn P g
    | .value _ => false
    | _ => true)
  | _ => true) ops.toList
def firstStatic (P : Program) (ops : Array Oper) : Option (List Nat × List Nat × List Nat) :=
  bif plainCalls P ops then none else floatStatic .any ops (floatsFirst .any ops (List.range ops.size) [] [])
/-- No call with addresses stands in the first part. -/
def plainPre (P : Program) (ops : Array Oper) (pre : List Nat) : Bool := allR (fun i => match getR ops.toList i with
  | some o => (match o.op with
    | .call c => (match c.callee with
      | .value (.func g) => dataFn P g
      | _ => true)
    | _ => true)
  | none => true) pre
/-- A call with addresses stands in the first part, but need not. -/
def laterG (P : Program) (ops : Array Oper) (pre : List Nat) : Bool := match plainPre P ops pre with
  | true => false
  | false => match staticG .any ops (firstG .any ops (List.range ops.size) [] []) with
    | some (p, _, _) => plainPre P ops p
    | none => false
def evDraw (P : Program) (gl : Nat) (cl : Caller) (fl : Nat) (ops : Array Oper) (T : List Value) (S : List Blk) : Option (List Value × List Blk) :=
  if Region.departs ops && !P.follows .mixedOrders then
    match evRegion P gl cl fl .text ops (List.range ops.size) T S, evRegion P gl cl fl .gc ops (Region.linearise .gc ops 0) T S with
    | some (T1, S1), some (T2, S2) => if leq seq3 T1 T2 && heq1 S1 S2 then some (T1, S1) else none
    | _, _ => none
  else match firstStatic P ops with
  | some st => match laterG P ops st.1 with
    | true => evFloatG P gl cl fl .any ops (firstG .any ops (List.range ops.size) [] []) T S
    | false => evFloat P gl cl fl .any ops (floatsFirst .any ops (List.range ops.size) [] []) T S
  | none => match regionStatic .any ops (List.range ops.size) with
  | some _ => evRegion P gl cl fl .any ops (List.range ops.size) T S
  | none => match floatStatic .any ops (List.range ops.size) with
    | some _ => evFloat P gl cl fl .any ops (List.range ops.size) T S
    | none => match floatStatic .any ops (floatsFirst .any ops (List.range ops.size) [] []) with
      | some _ => evFloat P gl cl fl .any ops (floatsFirst .any ops (List.range ops.size) [] []) T S
      | none => evFloatG P gl cl fl .any ops (firstG .any ops (List.range ops.size) [] []) T S

def evCode (P : Program) (orc : OrcF) (Sg : List Blk) : Nat → Bool → Nat → Code → List Value → List Blk → Option (Ex × List Value × List Blk)
  | 0, _, _, _, _, _ => none
  | n + 1, ro, fl, c, T, S =>
    match c with
    | .skip => some (.normal, T, S)
    | .seq a b => match evCode P orc Sg n ro fl a T S with
      | some (.normal, T', S') => evCode P orc Sg n ro fl b T' S'
      | r => r
    | .cond x a b => match opd Sg.length T x with
      | some (.bool β) => evCode P orc Sg n ro fl (bif β then a else b) T S
      | _ => none
    | .block id b => match evCode P orc Sg n ro fl b T S with
      | some (.exit id', T', S') => if id' = id then some (.normal, T', S') else some (.exit id', T', S')
      | r => r
    | .loop b => match evCode P orc Sg n ro fl b T S with
      | some (.normal, T', S') => evCode P orc Sg n ro fl (.loop b) T' S'
      | r => r
    | .label _ => some (.normal, T, S)
    | .scope b => evCode P orc Sg n ro fl b T S
    | .exit id => some (.exit id, T, S)
    | .ret => some (.ret, T, S)
    | .region _ ops false => match evOps P Sg.length (callerS P orc Sg (evCode P orc Sg n)) fl ops ops.toList T S with
      | some (T', S') => some (.normal, T', S')
      | none => none
    | .region _ ops true => match evDraw P Sg.length (callerS P orc Sg (evCode P orc Sg n)) fl ops T S with
      | some (T', S') => some (.normal, T', S')
      | none => none
    | .rangeFunc f params assign body => match ro with
      | true => none
      | false => rangeS P Sg.length (evCode P orc Sg n) fl f params assign body T S
    | _ => none

/-- A whole call, apart from all else. -/
def run (P : Program) (orc : OrcF) (Sg : List Blk) (n : Nat) (f : FuncId) (args : List Value) : Option Value :=
  match callIn P (evCode P orc Sg n) Sg.length f args Sg with
  | some (v, _) => if plain v then some v else none
  | none => none
end
end Go.Proofs.XX.Vm
/- A small evaluator over a shadow heap, part 7: an operation in a region. -/
namespace Go.Proofs.XX.Vm
open Go Go.RowKit

/-- All that is asked of renaming, shadow and world: the first blocks are the package-level variables. -/
structure Inv (Sg : List Blk) (φ : Ren) (S : List Blk) (w : World) : Prop where
  ok : Ok Sg.length φ S w
  base : ∀ g, g < Sg.length → S[g]? = Sg[g]?
  len : Sg.length ≤ S.length

theorem Inv.step {Sg : List Blk} {fl : Nat} {φ ψ : Ren} {S S' : List Blk} {w w' : World} (h : Inv Sg φ S w) (hfl : Sg.length ≤ fl) (s : Step fl φ S w ψ S' w') (g : Good ψ S' w') : Inv Sg ψ S' w' :=
  ⟨⟨g, fun x hx => s.ext _ _ (h.ok.glob x hx)⟩, fun x hx => by rw [s.keep x (by omega) (by have := h.len; omega), h.base x hx], Nat.le_trans h.len s.len⟩

/-- The shadow heap has grown, and nothing below fl has turned. -/
def Ext (fl : Nat) (S S' : List Blk) : Prop := S.length ≤ S'.length ∧ ∀ b, b < fl → b < S.length → S'[b]? = S[b]?
theorem Ext.refl (fl : Nat) (S : List Blk) : Ext fl S S := ⟨Nat.le_refl _, fun _ _ _ => rfl⟩
theorem Ext.trans {fl : Nat} {S S' S'' : List Blk} (h : Ext fl S S') (k : Ext fl S' S'') : Ext fl S S'' :=
  ⟨Nat.le_trans h.1 k.1, fun b e1 e2 => by rw [k.2 b e1 (Nat.lt_of_lt_of_le e2 h.1), h.2 b e1 e2]⟩
theorem Ext.app (fl : Nat) (S T : List Blk) : Ext fl S (S ++ T) := ⟨by simp, fun b _ e2 => by rw [List.getElem?_append_left e2]⟩

/-- A caller that is right. -/
structure ClOk (P : Program) (Sg : List Blk) (cl : Caller) : Prop where
  call : ∀ (fl : Nat) (f : FuncId) (args : List Value) (S : List Blk) (v : Value) (S' : List Blk), cl.call fl f args S = some (v, S') → Sg.length ≤ fl → Sg.length ≤ S.length →
    Ext fl S S' ∧ ∀ (φ : Ren) (w : World) (args' : List Value), Inv Sg φ S w → LRel φ args args' → Fresh φ S.length S'.length →
      Calls P f args'.toArray w fun e w' => ∃ v' ψ, e = .returned v' ∧ VRel ψ v v' ∧ Good ψ S' w' ∧ Step fl φ S w ψ S' w'
  round : ∀ (fl l : Nat) (args : List Value) (S : List Blk) (v : Value) (S' : List Blk), cl.round fl l args S = some (v, S') → Sg.length ≤ fl → Sg.length ≤ S.length →
    Ext fl S S' ∧ ∀ (φ : Ren) (w : World) (r : Nat) (args' : List Value), Inv Sg φ S w → φ l = some r → LRel φ args args' → Fresh φ S.length S'.length →
      ∃ fn tmps assign body, (Instr.yield r args'.toArray).run P w = .ok (.round r fn tmps assign body) w ∧
        RoundIn Fence.wide 0 P r fn tmps assign body w fun e w' => ∃ v' ψ, e = .returned v' ∧ VRel ψ v v' ∧ Good ψ S' w' ∧ Step fl φ S w ψ S' w'

/-- A fence that lets all by, in a round or not. -/
def wideAt (ro : Option Nat) : Fence := { Fence.wide with round := ro }
theorem callsIn_wideAt {ro : Option Nat} {n : Nat} {P : Program} {f : FuncId} {args : Array Value} {w : World} {R : Ending → World → Prop} : CallsIn (wideAt ro) n P f args w R ↔ Calls P f args w R :=
  callsIn_wide (n := n)

section
variable {P : Program} {ro : Option Nat}

theorem writeAt_length : ∀ (vs : List Value) (l : List Value) (o : Nat), (writeAtO l o vs).length = l.length := by
  intro vs
  induction vs with
  | nil => intro l o; rfl
  | cons v vs ih => intro l o; simp [writeAtO, ih]

theorem store_ext {fl : Nat} {t : TypeId} {S S' : List Blk} {p v : Value} (h : store P fl t S p v = some S') : Ext fl S S' := by
  rw [store_eqO] at h; unfold storeO at h
  simp only [forceK_eq] at h
  repeat' split at h
  all_goals first
    | (cases h; done)
    | (rename_i hc; cases h; simp only [Bool.and_eq_true, decide_eq_true_eq] at hc
       exact ⟨by simp, fun x e1 _ => by rw [List.getElem?_set_ne (by omega)]⟩)

theorem pureTry_heap {gl : Nat} {S S' : List Blk} {T : List Value} {o : Oper} {v : Value} (h : pureTry P gl o T S = some (.val v S')) : S' = S := by
  unfold pureTry at h
  repeat' split at h
  all_goals first | (cases h; done) | (cases h; rfl)

theorem evOp_ext {gl fl : Nat} {S S' : List Blk} {T : List Value} {o : Oper} {v : Value} (h : evOp P gl fl o T S = some (.val v S')) : Ext fl S S' := by
  rw [evOp_eqO] at h; unfold evOpO at h
  simp only [forceK_eq] at h
  repeat' split at h
  all_goals first
    | (cases h; done)
    | (cases h; exact Ext.refl _ _)
    | (cases h; exact Ext.app _ _ _)
    | (rename_i hs; cases h; exact store_ext hs)
    | (rename_i hs; cases h; rcases appendP_app hs with rfl | ⟨k, rfl⟩; exact Ext.refl _ _; exact Ext.app _ _ _)
    | (rename_i hs; cases h; rcases appendD_ext hs with rfl | ⟨b, k, h1, rfl⟩; exact Ext.refl _ _; exact ⟨by simp, fun x e1 e2 => by rw [List.getElem?_append_left (by simpa using e2), List.getElem?_set_ne (by omega)]⟩)
    | (rename_i hs; cases h; obtain ⟨k, rfl⟩ := appendZ_app hs; exact Ext.app _ _ _)
    | (rename_i hs; cases h; obtain ⟨k, rfl⟩ := appendF_app hs; exact Ext.app _ _ _)
    | (rename_i hs; cases h; rcases clearP_ext hs with rfl | ⟨b, K, h1, rfl⟩; exact Ext.refl _ _; exact ⟨by simp, fun x e1 _ => by rw [List.getElem?_set_ne (by omega)]⟩)
    | (rename_i hs; cases h; rcases copyP_ext hs with rfl | ⟨b, K, h1, rfl⟩; exact Ext.refl _ _; exact ⟨by simp, fun x e1 _ => by rw [List.getElem?_set_ne (by omega)]⟩)
    | (rename_i hs; cases h; rcases appendE_ext hs with ⟨k, rfl⟩ | ⟨b, k, h1, rfl⟩; exact Ext.app _ _ _; exact ⟨by simp, fun x e1 e2 => by rw [List.getElem?_append_left (by simpa using e2), List.getElem?_set_ne (by omega)]⟩)
    | (rename_i hs; cases h; obtain ⟨b, k, h1, rfl⟩ := appendQ_ext hs; exact ⟨by simp, fun x e1 e2 => by rw [List.getElem?_append_left (by simpa using e2), List.getElem?_set_ne (by omega)]⟩)
    | (rename_i hs; cases h; rcases nextP_set hs with rfl | ⟨b, K, h1, rfl⟩; exact Ext.refl _ _; exact ⟨by simp, fun x e1 _ => by rw [List.getElem?_set_ne (by omega)]⟩)
    | (rename_i hs; cases h; obtain ⟨b, K, h1, rfl⟩ := updateP_set hs; exact ⟨by simp, fun x e1 _ => by rw [List.getElem?_set_ne (by omega)]⟩)
    | (rename_i hs; cases h; obtain ⟨b, K, h1, rfl⟩ := updateV_set hs; exact ⟨by simp, fun x e1 _ => by rw [List.getElem?_set_ne (by omega)]⟩)
    | (rw [pureTry_heap h]; exact Ext.refl _ _)
    | exact (callee_call h).elim

theorem opRes_ext {Sg : List Blk} {cl : Caller} (hcl : ClOk P Sg cl) {gl fl : Nat} (hfl : Sg.length ≤ fl) {ops : Array Oper} {o : Oper} {T : List Value} {S S' : List Blk} {v : Value} (hS : Sg.length ≤ S.length)
    (h : opRes P gl cl fl ops o T S = some (v, S')) : Ext fl S S' := by
  unfold opRes at h
  split at h
  · split at h
    · rename_i hv; cases h; exact evOp_ext hv
    · exact (hcl.call _ _ _ _ _ _ h hfl hS).1
    · exact (hcl.round _ _ _ _ _ _ h hfl hS).1
    · cases h
  · cases h; exact Ext.refl _ _
  · cases h

theorem wantedS_rel {φ : Ren} {T : List Value} {a : Act} {ops : Array Oper} {o : Oper} {b : Bool} (h : wantedS ops T o = some b)
    (hT : ∀ j want p d v, o.guard = some (j, want) → ops[j]? = some p → p.dst = some d → T[d]? = some v → ∃ v', a.tmps[d]? = some v' ∧ VRel φ v v') :
    Region.wanted o (yielded ops a.tmps) = b := by
  unfold wantedS at h
  unfold Region.wanted
  split at h
  · rename_i hg; cases h; simp [hg]
  · rename_i j want hg
    split at h
    · rename_i p hp
      split at h
      · rename_i d hd
        split at h
        · rename_i β hβ
          cases h
          have hβ' : T[d]? = some (.bool β) := by
            rw [nthD_eq] at hβ
            cases ht : T[d]? with
            | none => rw [ht] at hβ; cases hβ
            | some u => rw [ht] at hβ; exact congrArg some hβ
          obtain ⟨v', h1, h2⟩ := hT j want p d _ hg hp hd hβ'
          cases h2
          simp [hg, yielded, hp, hd, h1]
        · rename_i xs hβ
          split at h
          · cases hl : Nat.blt d T.length with
            | false => rw [hl] at h; cases h
            | true =>
              rw [hl] at h
              cases h
              have hlt : d < T.length := by simpa [Nat.blt_eq] using hl
              have hβ' : T[d]? = some (.tuple xs) := by
                rw [nthD_eq] at hβ
                rw [List.getElem?_eq_getElem hlt] at hβ ⊢
                exact congrArg some hβ
              obtain ⟨v', h1, h2⟩ := hT j want p d _ hg hp hd hβ'
              cases h2
              simp [hg, yielded, hp, hd, h1]
          · cases h
        · cases h
      · cases h
    · cases h

/-- An operation of a region and what follows it. -/
theorem opRes_wp {Sg : List Blk} {cl : Caller} (hcl : ClOk P Sg cl) {fl : Nat} (hfl : Sg.length ≤ fl) {ops : Array Oper} {i : Nat} {o : Oper} (hi : ops[i]? = some o) {T T2 : List Value} {S S' : List Blk} {v : Value}
    (h : opRes P Sg.length cl fl ops o T S = some (v, S')) {φ : Ren} {w : World} {a a2 : Act} (inv : Inv Sg φ S w) (hT : LRel φ T2 a2.tmps.toList) (hev2 : evOp P Sg.length fl o T2 S = evOp P Sg.length fl o T S) (he : execOp a2.eval o = execOp a.eval o)
    (hw : ∀ b, wantedS ops T o = some b → Region.wanted o (yielded ops a.tmps) = b)
    (hf : Fresh φ S.length S'.length) {Q : Exit → Act → World → Prop} {K : Act → World → Prop}
    (hK : ∀ (v' : Value) (ψ : Ren) (w' : World), VRel ψ v v' → Good ψ S' w' → Step fl φ S w ψ S' w' → K (a.put o.dst v') w') : wpOpIn (wideAt ro) 0 P ops Q i K a w := by
  unfold wpOpIn
  simp only [hi]
  unfold opRes at h
  split at h
  · rename_i hwt
    rw [hw _ hwt, if_pos rfl]
    refine ⟨fun _ _ => trivial, ?_⟩
    have hnd : ∀ c, o.op ≠ .defer c := by
      intro c hc
      have := evOp_defer (P := P) (gl := Sg.length) (fl := fl) (S := S) (T := T) hc
      rw [this] at h
      cases h
    rw [Oper.semAt_eq _ _ _ hnd, ← he]
    split at h
    · rename_i u S2 hev
      cases h
      obtain ⟨v', w', ψ, hr, hv, hg, hs⟩ := evOp_val (P := P) inv.ok hT (hev2.trans hev) hf
      rcases hr with hr | ⟨hr, rfl⟩
      · rw [hr]; exact hK v' ψ w' hv hg hs
      · rw [hr]; exact hK undef ψ w' hv hg hs
    · rename_i f args hev
      obtain ⟨args', hr, hargs⟩ := evOp_call (P := P) inv.ok hT (hev2.trans hev)
      rw [hr]
      refine ⟨(fun hd => by cases hd), callsIn_wideAt.2 (Calls.mono ((hcl.call _ _ _ _ _ _ h hfl inv.len).2 φ w args' inv hargs hf) ?_)⟩
      rintro e w' ⟨v', ψ, rfl, hv, hg, hs⟩
      exact hK v' ψ w' hv hg hs
    · rename_i l args hev
      obtain ⟨r, args', hl, hr, hargs, _⟩ := evOp_round (P := P) inv.ok hT (hev2.trans hev)
      obtain ⟨fn, tmps, assign, body, hy, hround⟩ := (hcl.round _ _ _ _ _ _ h hfl inv.len).2 φ w r args' inv hl hargs hf
      rw [hr, hy]
      refine ⟨(fun hd => by cases hd), RoundIn.mono (show RoundIn (wideAt ro) 0 P r fn tmps assign body w _ from hround) ?_⟩
      rintro e w' ⟨v', ψ, rfl, hv, hg, hs⟩
      exact hK v' ψ w' hv hg hs
    · cases h
  · rename_i hwt
    cases h
    rw [hw _ hwt, if_neg (by simp)]
    exact ⟨fun _ _ => trivial, hK undef φ w (undef_refl _) inv.ok.good (Step.refl _ _ _ _)⟩
  · cases h

theorem LRel.put {φ : Ren} {T : List Value} {a : Act} (h : LRel φ T a.tmps.toList) (d : Option Tmp) {v v' : Value} (hv : VRel φ v v') : LRel φ (putL T d v) (a.put d v').tmps.toList := by
  cases d with
  | none => exact h
  | some d => simpa [putL, Act.put] using h.set hv d
theorem put_defers (a : Act) (d : Option Tmp) (v : Value) : (a.put d v).defers = a.defers := by cases d <;> rfl

theorem LRel.guard {φ : Ren} {T : List Value} {a : Act} (h : LRel φ T a.tmps.toList) {d : Nat} {v : Value} (hv : T[d]? = some v) : ∃ v', a.tmps[d]? = some v' ∧ VRel φ v v' := by
  obtain ⟨v', h1, h2⟩ := h.get hv
  exact ⟨v', by simpa using h1, h2⟩

theorem evOps_ext {Sg : List Blk} {cl : Caller} (hcl : ClOk P Sg cl) {gl fl : Nat} (hfl : Sg.length ≤ fl) {ops : Array Oper} : ∀ {l : List Oper} {T T' : List Value} {S S' : List Blk}, Sg.length ≤ S.length →
    evOps P gl cl fl ops l T S = some (T', S') → Ext fl S S' := by
  intro l
  induction l with
  | nil => intro T T' S S' _ h; cases h; exact Ext.refl _ _
  | cons o l ih =>
    intro T T' S S' hS h
    simp only [evOps, putK_eq] at h
    split at h
    · split at h
      · exact ih hS h
      · cases h
    · split at h
      · rename_i v S1 h1
        have hx := opRes_ext hcl hfl hS h1
        exact hx.trans (ih (Nat.le_trans hS hx.1) h)
      · cases h

theorem lenMap_wp {gl : Nat} {ops : Array Oper} {i : Nat} {o : Oper} (hi : ops[i]? = some o) {T : List Value} {S : List Blk} {x : Operand} {n : Nat} (h1 : lenTag P o = some x) (h2 : lenMap gl T S x = some n) {φ : Ren} {w : World} {a : Act} (ok : Ok gl φ S w) (hT : LRel φ T a.tmps.toList)
    {Q : Exit → Act → World → Prop} {K : Act → World → Prop} (hK : K (a.put o.dst (.int .i64 n)) w) : wpOpIn (wideAt ro) 0 P ops Q i K a w := by
  unfold lenTag at h1
  split at h1
  · rename_i x0 args argTypes ho hg
    split at h1
    · rename_i y t hx ht
      split at h1
      · rename_i kt et hu
        cases h1
        have hargs : args = #[x] := Array.toList_inj.1 hx
        subst hargs
        unfold lenMap at h2
        split at h2
        · rename_i m hm
          have hr : (execOp a.eval o).run P w = .ok (.value (.int .i64 n)) w := by
            have hrel := opd_rel ok hT hm
            generalize hce : a.eval x = xv at hrel
            unfold mapLen at h2
            split at h2
            · rename_i b
              rw [getR_eq] at h2
              cases hrel with
              | map hb =>
                split at h2
                · rename_i hk
                  cases h2
                  obtain ⟨q, q1, q2⟩ := ok.good.blk _ _ _ hk hb
                  have q3 := q1.trans (congrArg some (show q = _ from q2))
                  simp [execOp, ho, hce, resolve, invoke, builtin, Builtin.len_, ht, run_underlying hu, goInt, run_getMap q3]
                · rename_i hk
                  cases h2
                  obtain ⟨q, q1, es', q2, q4⟩ := ok.good.blk _ _ _ hk hb
                  have q3 := q1.trans (congrArg some q2)
                  simp [execOp, ho, hce, resolve, invoke, builtin, Builtin.len_, ht, run_underlying hu, goInt, run_getMap q3, q4.len]
                · cases h2
            · cases h2
          have hnd : ∀ c, o.op ≠ .defer c := by intro c hc; rw [hc] at ho; cases ho
          unfold wpOpIn
          simp only [hi]
          rw [show Region.wanted o (yielded ops a.tmps) = true by simp [Region.wanted, hg], if_pos rfl]
          refine ⟨fun _ _ => trivial, ?_⟩
          rw [Oper.semAt_eq _ _ _ hnd, hr]
          exact hK
        · cases h2
      · cases h1
    · cases h1
  · cases h1
/-- A region in the text's order. -/
theorem evOps_wp {Sg : List Blk} {cl : Caller} (hcl : ClOk P Sg cl) {fl : Nat} (hfl : Sg.length ≤ fl) {ops : Array Oper} {Q : Exit → Act → World → Prop} :
    ∀ (l : List Oper) (n : Nat) (T T' : List Value) (S S' : List Blk), ops.toList.drop n = l → evOps P Sg.length cl fl ops l T S = some (T', S') →
    ∀ (φ : Ren) (a : Act) (w : World), Inv Sg φ S w → LRel φ T a.tmps.toList → Fresh φ S.length S'.length →
    (∀ (ψ : Ren) (a' : Act) (w' : World), Good ψ S' w' → LRel ψ T' a'.tmps.toList → a'.defers = a.defers → Step fl φ S w ψ S' w' → Q .normal a' w') →
    wpOpsIn (wideAt ro) 0 P ops Q (List.range' n l.length) a w := by
  intro l
  induction l with
  | nil =>
    intro n T T' S S' _ h φ a w inv hT _ hQ
    cases h
    exact hQ φ a w inv.ok.good hT rfl (Step.refl _ _ _ _)
  | cons o l ih =>
    intro n T T' S S' hn h φ a w inv hT hf hQ
    simp only [evOps, putK_eq] at h
    have hi : ops[n]? = some o := by
      have : ops.toList[n]? = some o := by
        have := congrArg (·[0]?) hn
        simpa using this
      simpa using this
    split at h
    · rename_i x hx
      split at h
      · rename_i m hm
        simp only [List.length_cons, List.range'_succ, wpOpsIn_cons]
        refine lenMap_wp hi hx hm inv.ok hT ?_
        refine ih (n + 1) _ _ _ _ ?_ h φ (a.put o.dst (.int .i64 m)) w inv (hT.put o.dst (.int _ _)) hf ?_
        · rw [← List.drop_drop, hn]; rfl
        · intro χ a' w'' g1 g2 g3 g4
          exact hQ χ a' w'' g1 g2 (by rw [g3, put_defers]) g4
      · cases h
    · split at h
      · rename_i v S1 h1
        have hl1 := (opRes_ext hcl hfl inv.len h1).1
        have hl2 := (evOps_ext hcl hfl (Nat.le_trans inv.len hl1) h).1
        simp only [List.length_cons, List.range'_succ, wpOpsIn_cons]
        refine opRes_wp hcl hfl hi h1 inv hT rfl rfl (fun b hb => wantedS_rel (φ := φ) hb fun j want p d u _ _ _ hu => hT.guard hu) (fun b e1 e2 => hf b e1 (by omega)) ?_
        intro v' ψ w' hv hg hs
        refine ih (n + 1) _ _ _ _ ?_ h ψ (a.put o.dst v') w' (inv.step hfl hs hg) ((hT.mono hs.ext).put o.dst hv) (hs.fresh hf) ?_
        · rw [← List.drop_drop, hn]; rfl
        · intro χ a' w'' g1 g2 g3 g4
          exact hQ χ a' w'' g1 g2 (by rw [g3, put_defers]) (hs.trans g4 hf)
      · cases h
end
end Go.Proofs.XX.Vm
/- A small evaluator over a shadow heap, part 8: a region that draws its order: the operations that write to no block there is. -/
namespace Go.Proofs.XX.Vm
open Go Go.RowKit

/-- One operation of the region, as it was evaluated. -/
structure Rec where
  i : Nat
  o : Oper
  T : List Value
  S : List Blk
  v : Value
  S' : List Blk
  done : List Nat

section
variable {P : Program}

structure RecOk (P : Program) (Sg : List Blk) (cl : Caller) (md : Region.Mode) (ops : Array Oper) (T : List Value) (S Sm : List Blk) (c : Rec) : Prop where
  op : ops[c.i]? = some c.o
  draw : drawOk md ops c.o c.i = true
  edges : edgesIn md c.o c.done = true
  new : c.i ∉ c.done
  res : opRes P Sg.length cl c.S.length ops c.o c.T c.S = some (c.v, c.S')
  lo : Ext S.length S c.S
  mid : Ext c.S.length c.S c.S'
  hi : Ext c.S'.length c.S' Sm
  len : c.T.length = T.length

/-- What stands in a list of temporaries when the operations of 'recs' for which 'd' holds have been carried out. -/
def Holds (recs : List Rec) (d : Rec → Prop) (T T' : List Value) : Prop :=
  (∀ c ∈ recs, d c → ∀ t, c.o.dst = some t → t < T.length → T'[t]? = some c.v) ∧
  (∀ t, (∀ c ∈ recs, d c → c.o.dst ≠ some t) → T'[t]? = T[t]?)

theorem putL_len (T : List Value) (d : Option Tmp) (v : Value) : (putL T d v).length = T.length := by cases d <;> simp [putL]
theorem putL_get (T : List Value) {d : Option Tmp} {t : Nat} (v : Value) (h : d ≠ some t) : (putL T d v)[t]? = T[t]? := by
  cases d with
  | none => rfl
  | some d => simp only [putL]; rw [List.getElem?_set_ne (fun e => h (by rw [e]))]

theorem writersR_spec {p : Oper → Nat → Bool} {t : Tmp} : ∀ (l : List Oper) (n : Nat), writersR p t l n = true → ∀ j o, l[j]? = some o → o.dst = some t → p o (n + j) = true := by
  intro l
  induction l with
  | nil => intro n _ j o hj; simp at hj
  | cons x l ih =>
    intro n h j o hj hd
    have h' : (match x.dst with
      | some d => (match Nat.beq d t with
        | true => p x n && writersR p t l (n + 1)
        | false => writersR p t l (n + 1))
      | none => writersR p t l (n + 1)) = true := h
    cases j with
    | zero =>
      simp at hj; subst hj
      rw [hd] at h'
      have hb : Nat.beq t t = true := by simp
      simp only [hb, Bool.and_eq_true] at h'
      exact h'.1
    | succ j =>
      have hr : writersR p t l (n + 1) = true := by
        split at h'
        · split at h'
          · simp only [Bool.and_eq_true] at h'; exact h'.2
          · exact h'
        · exact h'
      have := ih (n + 1) hr j o (by simpa using hj) hd
      rw [show n + (j + 1) = n + 1 + j by omega]; exact this
theorem soleDst_spec {ops : Array Oper} {o : Oper} {i : Nat} (h : soleDst ops o i = true) {t : Nat} (hd : o.dst = some t) {j : Nat} {p : Oper} (hp : ops[j]? = some p) (hpd : p.dst = some t) : j = i := by
  unfold soleDst at h
  simp only [hd] at h
  have := writersR_spec _ _ h j p (by simpa using hp) hpd
  simpa using this
theorem beforeM_eq (md : Region.Mode) (o : Oper) (j : Nat) : beforeM md o j = o.after.toList.any fun e => e.on == j && Region.binds md e := by
  simp only [beforeM, anyR_eq]
  congr 1
  funext e
  rw [show Nat.beq e.on j = (e.on == j) from by rw [Bool.eq_iff_iff]; simp]
theorem getR_arr {ops : Array Oper} {i : Nat} : getR ops.toList i = ops[i]? := by rw [getR_eq]; simp
theorem anyR_mem {i : Nat} {l : List Nat} : anyR (Nat.beq i) l = true ↔ i ∈ l := by
  rw [anyR_eq]; simp

theorem drawOk_sole {md : Region.Mode} {ops : Array Oper} {o : Oper} {i : Nat} (h : drawOk md ops o i = true) : soleDst ops o i = true := by
  simp only [drawOk, Bool.and_eq_true] at h; exact h.1.2

theorem evPre_recs {Sg : List Blk} {cl : Caller} (hcl : ClOk P Sg cl) {md : Region.Mode} {ops : Array Oper} : ∀ (l done : List Nat) (T Tm : List Value) (S Sm : List Blk), Sg.length ≤ S.length → preOk md ops done l = true →
    evPre P Sg.length cl ops l T S = some (Tm, Sm) →
    ∃ recs : List Rec, recs.map (·.i) = l ∧ Ext S.length S Sm ∧ Tm.length = T.length ∧ (∀ c ∈ recs, RecOk P Sg cl md ops T S Sm c) ∧
      recs.Pairwise (fun c d => c.S'.length ≤ d.S.length ∧ c.i ∈ d.done ∧ ∀ x ∈ c.done, x ∈ d.done) ∧ (∀ c ∈ recs, ∀ x ∈ done, x ∈ c.done) ∧
      (∀ c ∈ recs, ∀ x ∈ c.done, x ∈ done ∨ ∃ d ∈ recs, d.i = x) ∧
      (∀ c ∈ recs, Holds recs (fun d => d.i ∈ c.done) T c.T) ∧ Holds recs (fun _ => True) T Tm := by
  intro l
  induction l with
  | nil =>
    intro done T Tm S Sm _ _ h
    cases h
    exact ⟨[], rfl, Ext.refl _ _, rfl, by simp, by simp, by simp, by simp, by simp, by simp [Holds]⟩
  | cons i l ih =>
    intro done T Tm S Sm hS hok h
    simp only [evPre, putK_eq] at h
    simp only [preOk] at hok
    split at h
    · rename_i o ho
      rw [ho] at hok
      rw [getR_arr] at ho
      · have hc := hok
        simp only [Bool.and_eq_true] at hc
        obtain ⟨⟨⟨c1, c2⟩, c3⟩, c4⟩ := hc
        split at h
        · rename_i v S1 hr
          have hx := opRes_ext hcl hS hS hr
          obtain ⟨recs, r1, r2, r3, r4, r5, r6, r7, r8, r9⟩ := ih (i :: done) (putL T o.dst v) Tm S1 Sm (Nat.le_trans hS hx.1) c4 h
          have hS1 : Ext S.length S Sm := ⟨Nat.le_trans hx.1 r2.1, fun b e1 e2 => by rw [r2.2 b (Nat.lt_of_lt_of_le e2 hx.1) (Nat.lt_of_lt_of_le e2 hx.1), hx.2 b e1 e2]⟩
          have hnd : i ∉ done := fun e => by rw [anyR_mem.2 e] at c3; cases c3
          let c0 : Rec := ⟨i, o, T, S, v, S1, done⟩
          have hsole := drawOk_sole c1
          have hne : ∀ c ∈ recs, c.i ≠ i := fun c hc e => (r4 c hc).new (by rw [e]; exact r6 c hc i (by simp))
          have lift : ∀ (d : Rec → Prop) (T' : List Value), d c0 → Holds recs d (putL T o.dst v) T' → Holds (c0 :: recs) d T T' := by
            intro d T' hd0 hh
            refine ⟨fun c hc hdc t hdst ht => ?_, fun t hall => ?_⟩
            · cases hc with
              | head =>
                have hother : ∀ c ∈ recs, d c → c.o.dst ≠ some t := fun c hc _ e => hne c hc (soleDst_spec hsole (show o.dst = some t from hdst) (r4 c hc).op e)
                rw [hh.2 t hother]
                have hdst' : o.dst = some t := hdst
                simp only [hdst', putL]
                rw [List.getElem?_set_self ht]
              | tail _ hm => exact hh.1 c hm hdc t hdst (by rw [putL_len]; exact ht)
            · rw [hh.2 t fun c hc hdc => hall c (List.mem_cons_of_mem _ hc) hdc, putL_get _ _ (hall c0 (List.mem_cons_self ..) hd0)]
          refine ⟨c0 :: recs, by simp [r1, c0], hS1, by rw [r3, putL_len], ?_, ?_, ?_, ?_, ?_, ?_⟩
          · intro c hc
            cases hc with
            | head => exact ⟨ho, c1, c2, hnd, hr, Ext.refl _ _, hx, r2, rfl⟩
            | tail _ hm =>
              have k := r4 c hm
              exact ⟨k.op, k.draw, k.edges, k.new, k.res, ⟨Nat.le_trans hx.1 k.lo.1, fun b e1 e2 => by rw [k.lo.2 b (Nat.lt_of_lt_of_le e2 hx.1) (Nat.lt_of_lt_of_le e2 hx.1), hx.2 b e1 e2]⟩, k.mid, k.hi, by rw [k.len, putL_len]⟩
          · refine List.Pairwise.cons (fun d hd => ⟨(r4 d hd).lo.1, r6 d hd i (by simp), fun x hx => r6 d hd x (List.mem_cons_of_mem _ hx)⟩) r5
          · intro c hc x hx
            cases hc with
            | head => exact hx
            | tail _ hm => exact r6 c hm x (List.mem_cons_of_mem _ hx)
          · intro c hc x hx
            cases hc with
            | head => exact .inl hx
            | tail _ hm =>
              rcases r7 c hm x hx with h1 | ⟨d, h1, h2⟩
              · cases h1 with
                | head => exact .inr ⟨c0, by simp, rfl⟩
                | tail _ h1 => exact .inl h1
              · exact .inr ⟨d, List.mem_cons_of_mem _ h1, h2⟩
          · intro c hc
            cases hc with
            | head =>
              refine ⟨fun d hd hdd t _ _ => ?_, fun t _ => rfl⟩
              exfalso
              cases hd with
              | head => exact hnd hdd
              | tail _ hm => exact (r4 d hm).new (r6 d hm d.i (List.mem_cons_of_mem _ hdd))
            | tail _ hm => exact lift _ _ (r6 c hm i (by simp)) (r8 c hm)
          · exact lift _ _ trivial r9
        · cases h
    · cases h
end
end Go.Proofs.XX.Vm
/- A small evaluator over a shadow heap, part 9: a region that draws its order, in every order. -/
namespace Go.Proofs.XX.Vm
open Go Go.RowKit

def On (listed : Array Bool) (i : Nat) : Prop := listed[i]? = some true
theorem On.getD {listed : Array Bool} {i : Nat} (h : On listed i) (b : Bool) : listed.getD i b = true := by
  have := Array.getElem?_eq_some_iff.1 h; obtain ⟨h1, h2⟩ := this; simp [Array.getD, h1, h2]
theorem on_of_getD {listed : Array Bool} {i : Nat} (h : listed.getD i false = true) : On listed i := by
  unfold On
  by_cases hi : i < listed.size
  · simp [Array.getD, hi] at h; simp [hi, h]
  · simp [Array.getD, hi] at h
theorem off_of_getD {listed : Array Bool} {i : Nat} (h : listed.getD i true = false) : listed[i]? = some false := by
  by_cases hi : i < listed.size
  · simp [Array.getD, hi] at h; simp [hi, h]
  · simp [Array.getD, hi] at h
theorem on_set {listed : Array Bool} {i j : Nat} (hi : i < listed.size) : On (listed.setIfInBounds i true) j ↔ j = i ∨ On listed j := by
  unfold On
  by_cases h : i = j
  · subst h; simp [hi]
  · rw [Array.getElem?_setIfInBounds_ne h]; constructor
    · exact .inr
    · rintro (e | e)
      · exact absurd e.symm h
      · exact e

def left (n : Nat) (listed : Array Bool) : Nat := (List.range n).countP fun i => !listed.getD i true
theorem countP_one {l : List Nat} (hl : l.Nodup) (p q : Nat → Bool) (i : Nat) (hi : i ∈ l) (hp : p i = true) (hq : q i = false) (h : ∀ j ∈ l, j ≠ i → q j = p j) : l.countP q + 1 = l.countP p := by
  induction l with
  | nil => cases hi
  | cons x l ih =>
    rw [List.nodup_cons] at hl
    by_cases hx : x = i
    · subst hx
      have : l.countP q = l.countP p := List.countP_congr fun j hj => by
        rw [h j (List.mem_cons_of_mem _ hj) (fun e => hl.1 (e ▸ hj))]
      simp [hp, hq, this]
    · have hi' : i ∈ l := by cases hi with
        | head => exact absurd rfl hx
        | tail _ hm => exact hm
      have := ih hl.2 hi' fun j hj => h j (List.mem_cons_of_mem _ hj)
      have hxq := h x (List.mem_cons_self ..) hx
      by_cases hpx : p x = true <;> simp [hpx, hxq] <;> omega
theorem left_set {n : Nat} {listed : Array Bool} {i : Nat} (hn : listed.size = n) (hi : i < n) (h : listed.getD i true = false) : left n (listed.setIfInBounds i true) + 1 = left n listed := by
  refine countP_one List.nodup_range _ _ i (by simp [hi]) (by simp [h]) (by simp [Array.getD, hn, hi]) fun j hj hne => ?_
  simp only [List.mem_range] at hj
  have e1 : j < listed.size := by omega
  simp [Array.getD, e1, Ne.symm hne]
theorem left_zero {n : Nat} {listed : Array Bool} (h : left n listed = 0) : ∀ i, i < n → listed.getD i true = true := by
  intro i hi
  have := List.countP_eq_zero.1 h i (by simp [hi])
  simpa using this

section
variable {P : Program} {ro : Option Nat} {ops : Array Oper} {Q : Exit → Act → World → Prop} {md : Region.Mode}

/-- All operations that must come before i have been. -/
def EdgesOn (md : Region.Mode) (listed : Array Bool) (o : Oper) : Prop := ∀ j, beforeM md o j = true → On listed j
theorem mem_ready {listed : Array Bool} {i : Nat} : i ∈ Region.ready md ops listed ↔ ∃ o, ops[i]? = some o ∧ listed[i]? = some false ∧ EdgesOn md listed o := by
  unfold Region.ready
  simp only [List.mem_filter, List.mem_range, Bool.and_eq_true, Bool.not_eq_true']
  constructor
  · rintro ⟨h1, h2, h3⟩
    obtain ⟨o, ho⟩ : ∃ o, ops[i]? = some o := ⟨ops[i], by simp [h1]⟩
    refine ⟨o, ho, off_of_getD h2, fun j hj => ?_⟩
    simp only [ho, Option.map_some, Option.getD_some, Array.all_eq_true'] at h3
    simp only [beforeM_eq, List.any_eq_true, Bool.and_eq_true, beq_iff_eq] at hj
    obtain ⟨e, he, rfl, hb⟩ := hj
    have := h3 e (by simpa using he)
    simp [hb] at this
    exact on_of_getD (by simpa using this)
  · rintro ⟨o, ho, h2, h3⟩
    have hi : i < ops.size := (Array.getElem?_eq_some_iff.1 ho).1
    refine ⟨hi, by simp [Array.getD_eq_getD_getElem?, h2], ?_⟩
    simp only [ho, Option.map_some, Option.getD_some, Array.all_eq_true']
    intro e he
    by_cases hb : Region.binds md e = true
    · have := h3 e.on (by simp only [beforeM_eq, List.any_eq_true, Bool.and_eq_true, beq_iff_eq]; exact ⟨e, by simpa using he, rfl, hb⟩)
      simp [this.getD]
    · simp [hb]

theorem edgesIn_spec {o : Oper} {done : List Nat} (h : edgesIn md o done = true) {j : Nat} (hj : beforeM md o j = true) : j ∈ done := by
  simp only [edgesIn, allR_eq, anyR_eq, List.all_eq_true] at h
  simp only [beforeM_eq, List.any_eq_true, Bool.and_eq_true, beq_iff_eq] at hj
  obtain ⟨e, he, rfl, hb⟩ := hj
  have := h e he
  simpa [hb] using this

/-- A list of operations in an order that the edges allow. -/
def Topo (md : Region.Mode) (ops : Array Oper) : List Nat → List Nat → Prop
  | _, [] => True
  | done, i :: l => (∃ o, ops[i]? = some o ∧ edgesIn md o done = true) ∧ Topo md ops (i :: done) l
theorem Topo.first {listed : Array Bool} (hn : listed.size = ops.size) : ∀ (l done : List Nat), Topo md ops done l → (∀ j ∈ done, On listed j) → (∃ i ∈ l, ¬ On listed i) → Region.ready md ops listed ≠ [] := by
  intro l
  induction l with
  | nil => intro done _ _ ⟨i, h, _⟩; cases h
  | cons i l ih =>
    intro done ht hd ⟨j, hj, hoff⟩
    by_cases hi : On listed i
    · refine ih (i :: done) ht.2 (fun x hx => ?_) ⟨j, ?_, hoff⟩
      · cases hx with
        | head => exact hi
        | tail _ hm => exact hd x hm
      · cases hj with
        | head => exact absurd hi hoff
        | tail _ hm => exact hm
    · obtain ⟨⟨o, ho, he⟩, _⟩ := ht
      have hlt : i < listed.size := by have := (Array.getElem?_eq_some_iff.1 ho).1; omega
      have hfalse : listed[i]? = some false := by
        unfold On at hi
        rw [Array.getElem?_eq_getElem hlt] at hi ⊢
        cases h : listed[i] <;> simp_all
      have : i ∈ Region.ready md ops listed := mem_ready.2 ⟨o, ho, hfalse, fun j hj => hd j (edgesIn_spec he hj)⟩
      intro e
      rw [e] at this
      cases this

/-- Whoever stands behind j in the list has, step by step, j's successor ahead of it. -/
theorem tailOk_key : ∀ (l : List Nat) (j : Nat) (done : List Nat), tailOk md ops (some j) done l = true → ∀ k ∈ l, ∃ p x, ops[k]? = some p ∧ beforeM md p x = true ∧ (x = j ∨ (x ∈ l ∧ x ∉ done)) := by
  intro l
  induction l with
  | nil => intro j done _ k hk; cases hk
  | cons y l ih =>
    intro j done h k hk
    simp only [tailOk] at h
    split at h
    · rename_i o2 ho2
      rw [getR_arr] at ho2
      simp only [Bool.and_eq_true] at h
      obtain ⟨⟨⟨_, c2⟩, c3⟩, c4⟩ := h
      cases hk with
      | head => exact ⟨o2, j, ho2, c3, .inl rfl⟩
      | tail _ hm =>
        obtain ⟨p, x, q1, q2, q3⟩ := ih y (y :: done) c4 k hm
        refine ⟨p, x, q1, q2, .inr ?_⟩
        rcases q3 with rfl | ⟨q3, q4⟩
        · exact ⟨List.mem_cons_self .., fun e => by rw [anyR_mem.2 e] at c2; cases c2⟩
        · exact ⟨List.mem_cons_of_mem _ q3, fun e => q4 (List.mem_cons_of_mem _ e)⟩
    · cases h

/-- The end of a region, in its one order. -/
theorem evTail_wp {Sg : List Blk} {cl : Caller} (hcl : ClOk P Sg cl) {fl : Nat} (hfl : Sg.length ≤ fl) : ∀ (l : List Nat) (ahead : Option Nat) (done : List Nat) (T T' : List Value) (S S' : List Blk), Sg.length ≤ S.length → tailOk md ops ahead done l = true →
    evTail P Sg.length cl fl ops l T S = some (T', S') → Ext fl S S' ∧ Topo md ops done l ∧
    ∀ (fuel : Nat) (listed : Array Bool) (φ : Ren) (a : Act) (w : World), listed.size = ops.size → (∀ i, On listed i ↔ i ∈ done) → (∀ i, i < ops.size → i ∈ done ∨ i ∈ l) → (∀ j, ahead = some j → j ∈ done) →
      left ops.size listed ≤ fuel →
      Inv Sg φ S w → LRel φ T a.tmps.toList → Fresh φ S.length S'.length →
      (∀ (ψ : Ren) (a' : Act) (w' : World), Good ψ S' w' → LRel ψ T' a'.tmps.toList → a'.defers = a.defers → Step fl φ S w ψ S' w' → Q .normal a' w') →
      wpAnyIn (wideAt ro) 0 P md ops Q fuel listed a w := by
  intro l
  induction l with
  | nil =>
    intro ahead done T T' S S' _ _ h
    cases h
    refine ⟨Ext.refl _ _, trivial, ?_⟩
    intro fuel listed φ a w hn hon hcov _ _ inv hT _ hQ
    have hq : Q .normal a w := hQ φ a w inv.ok.good hT rfl (Step.refl _ _ _ _)
    have hready : Region.ready md ops listed = [] := by
      cases hr : Region.ready md ops listed with
      | nil => rfl
      | cons i r =>
        have hi : i ∈ Region.ready md ops listed := by rw [hr]; exact List.mem_cons_self ..
        obtain ⟨o, ho, hoff, _⟩ := mem_ready.1 hi
        have : On listed i := (hon i).2 ((hcov i (Array.getElem?_eq_some_iff.1 ho).1).resolve_right (by simp))
        unfold On at this
        rw [hoff] at this
        cases this
    cases fuel with
    | zero => exact ⟨hready, hq⟩
    | succ fuel => exact ⟨fun _ => hq, by rw [hready]; simp⟩
  | cons i l ih =>
    intro ahead done T T' S S' hS hok h
    simp only [evTail, putK_eq] at h
    simp only [tailOk] at hok
    split at h
    · rename_i o ho
      rw [ho] at hok
      rw [getR_arr] at ho
      · have hc := hok
        simp only [Bool.and_eq_true] at hc
        obtain ⟨⟨⟨c1, c2⟩, c3⟩, c4⟩ := hc
        split at h
        · rename_i v S1 hr
          have hx := opRes_ext hcl hfl hS hr
          obtain ⟨e1, e2, e3⟩ := ih (some i) (i :: done) (putL T o.dst v) T' S1 S' (Nat.le_trans hS hx.1) c4 h
          refine ⟨hx.trans e1, ⟨⟨o, ho, c1⟩, e2⟩, ?_⟩
          intro fuel listed φ a w hn hon hcov hah hleft inv hT hf hQ
          have hnd : i ∉ done := fun e => by rw [anyR_mem.2 e] at c2; cases c2
          have hi : i < ops.size := (Array.getElem?_eq_some_iff.1 ho).1
          have hoff : listed.getD i true = false := by
            have : ¬ On listed i := fun e => hnd ((hon i).1 e)
            unfold On at this
            have hlt : i < listed.size := by omega
            rw [Array.getElem?_eq_getElem hlt] at this
            simp [Array.getD, hlt]
            simpa using this
          have hpos : 0 < left ops.size listed := by have := left_set hn hi hoff; omega
          cases fuel with
          | zero => omega
          | succ fuel =>
            refine ⟨fun hempty => ?_, fun k hk => ?_⟩
            · exact absurd hempty (Topo.first hn (i :: l) done ⟨⟨o, ho, c1⟩, e2⟩ (fun j hj => (hon j).2 hj) ⟨i, List.mem_cons_self .., fun e => hnd ((hon i).1 e)⟩)
            · obtain ⟨p, hp, hpoff, hpe⟩ := mem_ready.1 hk
              have hknd : k ∉ done := fun e => by
                have := (hon k).2 e
                unfold On at this
                rw [hpoff] at this
                cases this
              have hki : k = i := by
                rcases hcov k (Array.getElem?_eq_some_iff.1 hp).1 with h1 | h1
                · exact absurd h1 hknd
                · cases h1 with
                  | head => rfl
                  | tail _ h1 =>
                    exfalso
                    obtain ⟨p2, x, q1, q2, q3⟩ := tailOk_key l i (i :: done) c4 k h1
                    rw [hp] at q1; cases q1
                    have hxd := (hon x).1 (hpe x q2)
                    rcases q3 with rfl | ⟨_, q4⟩
                    · exact hnd hxd
                    · exact q4 (List.mem_cons_of_mem _ hxd)
              subst hki
              refine opRes_wp hcl hfl ho hr inv hT rfl rfl (fun b hb => wantedS_rel (φ := φ) hb fun j want p d u _ _ _ hu => hT.guard hu) (fun b f1 f2 => hf b f1 (Nat.lt_of_lt_of_le f2 e1.1)) ?_
              intro v' ψ w' hv hg hs
              refine e3 fuel (listed.setIfInBounds k true) ψ (a.put o.dst v') w' (by simpa using hn) (fun j => ?_) (fun j hj => ?_) (fun j hj => by cases hj; exact List.mem_cons_self ..) ?_ (inv.step hfl hs hg) ((hT.mono hs.ext).put o.dst hv) (hs.fresh hf) ?_
              · rw [on_set (by omega), hon]; simp
              · rcases hcov j hj with h1 | h1
                · exact .inl (List.mem_cons_of_mem _ h1)
                · cases h1 with
                  | head => exact .inl (List.mem_cons_self ..)
                  | tail _ h1 => exact .inr h1
              · have := left_set hn hi hoff; omega
              · intro χ a' w'' g1 g2 g3 g4
                exact hQ χ a' w'' g1 g2 (by rw [g3, put_defers]) (hs.trans g4 hf)
        · cases h
    · cases h
end
end Go.Proofs.XX.Vm
/- A small evaluator over a shadow heap, part 10: an operation looks at its operands alone. -/
namespace Go.Proofs.XX.Vm
open Go Go.RowKit
section
variable {P : Program}

theorem opds_congr {gl : Nat} {T T2 : List Value} : ∀ {l : List Operand}, (∀ x ∈ l, opd gl T2 x = opd gl T x) → opds gl T2 l = opds gl T l := by
  intro l
  induction l with
  | nil => intro _; rfl
  | cons x l ih =>
    intro h
    simp only [opds]
    rw [h x (List.mem_cons_self ..), ih fun y hy => h y (List.mem_cons_of_mem _ hy)]

theorem pureTry_congr {gl : Nat} {T T2 : List Value} {o : Oper} {S : List Blk} (h : ∀ x ∈ o.op.operands.toList, opd gl T2 x = opd gl T x) : pureTry P gl o T2 S = pureTry P gl o T S := by
  unfold pureTry
  rw [opds_congr h]
  split
  · split
    · rename_i hc
      simp only [Bool.and_eq_true] at hc
      rw [execOp_congr (ρ := fun x => (opd gl T2 x).getD undef) (ρ' := fun x => (opd gl T x).getD undef) o (pureOp_select hc.1) fun x hx => by rw [h x (by simpa using hx)]]
    · rfl
  · rfl

theorem evOp_congr {gl fl : Nat} {T T2 : List Value} {o : Oper} {S : List Blk} (h : ∀ x ∈ o.op.operands.toList, opd gl T2 x = opd gl T x) : evOp P gl fl o T2 S = evOp P gl fl o T S := by
  have hp := pureTry_congr (P := P) (S := S) h
  obtain ⟨dst, op, ty, pos, after, guard⟩ := o
  simp only at h
  cases op
  case call c =>
    obtain ⟨callee, args, argTypes⟩ := c
    cases callee
    case value f =>
      simp only [evOp_eqO, evOpO]
      have h1 := h f (by simp [Op.operands, Call.operands])
      have h2 := opds_congr (l := args.toList) fun x hx => h x (by simp [Op.operands, Call.operands]; right; simpa using hx)
      rw [h1, h2]
    case builtin b =>
      have h2 := opds_congr (l := args.toList) fun x hx => h x (by simp [Op.operands, Call.operands]; simpa using hx)
      cases b
      case len => simp only [evOp_eqO, evOpO]; rw [h2, hp]
      case cap => simp only [evOp_eqO, evOpO]; rw [h2, hp]
      case clear => simp only [evOp_eqO, evOpO]; rw [h2]
      case copy => simp only [evOp_eqO, evOpO]; rw [h2]
      case append => simp only [evOp_eqO, evOpO]; rw [h2]
      all_goals exact hp
    case invoke r m => exact hp
  case makeFunc fn first captured =>
    cases fn
    case func f =>
      simp only [evOp_eqO, evOpO]
      have h1 := opds_congr (l := first.toList) fun x hx => h x (by simp [Op.operands]; left; simpa using hx)
      have h2 := opds_congr (l := captured.toList) fun x hx => h x (by simp [Op.operands]; right; simpa using hx)
      rw [h1, h2]
    all_goals exact hp
  case build t parts =>
    simp only [evOp_eqO, evOpO]
    rw [opds_congr (l := parts.toList.map (·.2)) fun x hx => h x (by simpa [Op.operands] using hx), hp]
  case buildSlice t len parts =>
    simp only [evOp_eqO, evOpO]
    rw [opds_congr (l := parts.toList.map (·.2)) fun x hx => h x (by simpa [Op.operands] using hx)]
  case next x isString =>
    cases isString
    · rfl
    · simp only [evOp_eqO, evOpO]; rw [h x (by simp [Op.operands])]
  case makeMap t r =>
    cases r
    · rfl
    · exact hp
  case slice t x lo hi mx =>
    have hx := h x (by simp [Op.operands])
    have hl : optV gl T2 lo = optV gl T lo := by
      cases lo with
      | none => rfl
      | some y => simp only [optV]; rw [h y (by simp [Op.operands])]
    have hh : optV gl T2 hi = optV gl T hi := by
      cases hi with
      | none => rfl
      | some y => simp only [optV]; rw [h y (by simp [Op.operands])]
    have hm : optV gl T2 mx = optV gl T mx := by
      cases mx with
      | none => rfl
      | some y => simp only [optV]; rw [h y (by simp [Op.operands])]
    have hq : sliceQO P gl T2 t x lo hi mx = sliceQO P gl T t x lo hi mx := by
      unfold sliceQO
      rw [hx, hl, hh, hm]
    cases lo <;> cases hi <;> cases mx
    case none.none.none => simp only [evOp_eqO, evOpO]; rw [hx, hp]
    all_goals simp only [evOp_eqO, evOpO, hq, hx, hl, hh, hm, hp]
  all_goals first
    | exact hp
    | (simp only [evOp_eqO, evOpO, hp]; simp only [Op.operands] at h; simp only [h _ (List.mem_cons_self ..)]; done)
    | (simp only [evOp_eqO, evOpO]; simp only [Op.operands] at h; rw [h _ (List.mem_cons_self ..), h _ (List.mem_cons_of_mem _ (List.mem_cons_self ..)), hp]; done)
    | (simp only [evOp_eqO, evOpO]; simp only [Op.operands] at h; simp only [h _ (List.mem_cons_self ..), h _ (List.mem_cons_of_mem _ (List.mem_cons_self ..))]; done)
    | (simp only [evOp_eqO, evOpO]; simp only [Op.operands] at h; simp only [h _ (List.mem_cons_self ..), h _ (List.mem_cons_of_mem _ (List.mem_cons_self ..)), h _ (List.mem_cons_of_mem _ (List.mem_cons_of_mem _ (List.mem_cons_self ..)))]; done)
    | rfl

def maskL (o : Oper) (l : List Value) : List Value := l.mapIdx fun t v => if (tmpsOf o).contains t then v else undef
theorem mask_opd {gl : Nat} {T : List Value} {o : Oper} : ∀ x ∈ o.op.operands.toList, opd gl (maskL o T) x = opd gl T x := by
  intro x hx
  cases x with
  | tmp t =>
    have : (tmpsOf o).contains t = true := by
      simp only [List.contains_iff_mem, tmpsOf, List.mem_filterMap]
      exact ⟨.tmp t, hx, rfl⟩
    simp only [opd, nthD_eq, maskL, List.getElem?_mapIdx]
    have this' : t ∈ tmpsOf o := by simpa using this
    cases T[t]? <;> simp [this']
  | _ => rfl
theorem mask_eval {a : Act} {o : Oper} : ∀ x ∈ o.op.operands, ({ a with tmps := (maskL o a.tmps.toList).toArray } : Act).eval x = a.eval x := by
  intro x hx
  cases x with
  | tmp t =>
    have : (tmpsOf o).contains t = true := by
      simp only [List.contains_iff_mem, tmpsOf, List.mem_filterMap]
      exact ⟨.tmp t, by simpa using hx, rfl⟩
    simp only [Act.eval, maskL, Array.getD_eq_getD_getElem?]
    simp only [List.getElem?_toArray, List.getElem?_mapIdx, Array.getElem?_toList]
    have this' : t ∈ tmpsOf o := by simpa using this
    cases a.tmps[t]? <;> simp [this']
  | _ => rfl
theorem mask_rel {φ : Ren} {o : Oper} {T : List Value} {a : Act} (hlen : T.length = a.tmps.size) (h : ∀ t ∈ tmpsOf o, ∀ v v', T[t]? = some v → a.tmps[t]? = some v' → VRel φ v v') :
    LRel φ (maskL o T) (maskL o a.tmps.toList) := by
  refine ⟨by simp [maskL, hlen], fun i v v' hv hv' => ?_⟩
  simp only [maskL, List.getElem?_mapIdx] at hv hv'
  cases h1 : T[i]? with
  | none => simp [h1] at hv
  | some u => cases h2 : a.tmps.toList[i]? with
    | none => simp [h2] at hv'
    | some u' =>
      simp only [h1, h2, Option.map_some, Option.some.injEq] at hv hv'
      subst hv; subst hv'
      by_cases hc : (tmpsOf o).contains i = true
      · simp only [hc, if_true]
        exact h i (by simpa using hc) u u' h1 (by simpa using h2)
      · simp only [hc]
        exact undef_refl φ
end
end Go.Proofs.XX.Vm
/- A small evaluator over a shadow heap, part 11: the operations of a region that write to no block there is, in every order. -/
namespace Go.Proofs.XX.Vm
open Go Go.RowKit
section
variable {P : Program} {ro : Option Nat}

theorem reach_on {md : Region.Mode} {ops : Array Oper} {listed : Array Bool} (hcl : ∀ (i : Nat) (p : Oper), ops[i]? = some p → On listed i → EdgesOn md listed p) : ∀ (n : Nat) (o : Oper) (j : Nat), reach md ops n o j = true → EdgesOn md listed o → On listed j := by
  intro n
  induction n with
  | zero => intro o j h he; exact he j h
  | succ n ih =>
    intro o j h he
    simp only [reach, Bool.or_eq_true, anyR_eq, List.any_eq_true, Bool.and_eq_true] at h
    rcases h with h | ⟨e, hm, hb, hp⟩
    · exact he j h
    · split at hp
      · rename_i p ho
        rw [getR_arr] at ho
        have h1 : beforeM md o e.on = true := by
          simp only [beforeM, anyR_eq, List.any_eq_true, Bool.and_eq_true]
          exact ⟨e, hm, Nat.beq_refl _, hb⟩
        exact ih p j hp (hcl e.on p ho (he _ h1))
      · cases hp

/-- Where the region stands, some of its operations having been carried out. -/
structure PreInv (md : Region.Mode) (ops : Array Oper) (recs : List Rec) (T : List Value) (S Sm : List Blk) (φ0 : Ren) (a0 : Act) (w0 : World) (listed : Array Bool) (a : Act) (φ : Ren) (w : World) : Prop where
  size : listed.size = ops.size
  sub : ∀ i, On listed i → ∃ c ∈ recs, c.i = i
  closed : ∀ c ∈ recs, On listed c.i → EdgesOn md listed c.o
  good : Good φ Sm w
  ext : RExt φ0 φ
  caps : ∀ r, r < w0.heap.size → φ.cap r = φ0.cap r
  dom : ∀ b r, φ b = some r → φ0 b = some r ∨ ∃ c ∈ recs, On listed c.i ∧ c.S.length ≤ b ∧ b < c.S'.length ∧ w0.heap.size ≤ r
  hsize : w0.heap.size ≤ w.heap.size
  frame : ∀ r, r < w0.heap.size → w.heap[r]? = w0.heap[r]?
  os : w.os = w0.os
  tape : w.tape = w0.tape
  output : w.output = w0.output
  tsize : T.length = a.tmps.size
  defers : a.defers = a0.defers
  tmp : ∀ t v', a.tmps[t]? = some v' → (∀ c ∈ recs, On listed c.i → c.o.dst = some t → VRel φ c.v v') ∧ ((∀ c ∈ recs, On listed c.i → c.o.dst ≠ some t) → ∀ v, T[t]? = some v → VRel φ v v')

theorem put_get (a : Act) {d : Option Tmp} {t : Nat} (v : Value) (h : d ≠ some t) : (a.put d v).tmps[t]? = a.tmps[t]? := by
  cases d with
  | none => rfl
  | some d => simp only [Act.put]; rw [Array.getElem?_setIfInBounds_ne (fun e => h (by rw [e]))]
theorem put_size (a : Act) (d : Option Tmp) (v : Value) : (a.put d v).tmps.size = a.tmps.size := by cases d <;> simp [Act.put]

structure Recs (P : Program) (Sg : List Blk) (cl : Caller) (md : Region.Mode) (ops : Array Oper) (T Tm : List Value) (S Sm : List Blk) (recs : List Rec) : Prop where
  pre : Ext S.length S Sm
  len : Tm.length = T.length
  all : ∀ c ∈ recs, RecOk P Sg cl md ops T S Sm c
  pair : recs.Pairwise fun c d => c.S'.length ≤ d.S.length ∧ c.i ∈ d.done ∧ ∀ x ∈ c.done, x ∈ d.done
  done : ∀ c ∈ recs, ∀ x ∈ c.done, ∃ d ∈ recs, d.i = x
  at_ : ∀ c ∈ recs, Holds recs (fun d => d.i ∈ c.done) T c.T
  end_ : Holds recs (fun _ => True) T Tm

theorem Recs.two {Sg : List Blk} {cl : Caller} {md : Region.Mode} {ops : Array Oper} {T Tm : List Value} {S Sm : List Blk} {recs : List Rec} (h : Recs P Sg cl md ops T Tm S Sm recs) {c d : Rec} (hc : c ∈ recs) (hd : d ∈ recs)
    (hne : c.i ≠ d.i) : (c.S'.length ≤ d.S.length ∧ c.i ∈ d.done ∧ d.i ∉ c.done) ∨ (d.S'.length ≤ c.S.length ∧ d.i ∈ c.done ∧ c.i ∉ d.done) := by
  have key : ∀ (l : List Rec), (∀ c ∈ l, c ∈ recs) → l.Pairwise (fun c d => c.S'.length ≤ d.S.length ∧ c.i ∈ d.done ∧ ∀ x ∈ c.done, x ∈ d.done) → c ∈ l → d ∈ l →
      (c.S'.length ≤ d.S.length ∧ c.i ∈ d.done ∧ d.i ∉ c.done) ∨ (d.S'.length ≤ c.S.length ∧ d.i ∈ c.done ∧ c.i ∉ d.done) := by
    intro l
    induction l with
    | nil => intro _ _ hc; cases hc
    | cons x l ih =>
      intro hsub hp hc hd
      rw [List.pairwise_cons] at hp
      cases hc with
      | head =>
        cases hd with
        | head => exact absurd rfl hne
        | tail _ hd' =>
          obtain ⟨p1, p2, p3⟩ := hp.1 d hd'
          exact .inl ⟨p1, p2, fun e => (h.all d hd).new (p3 _ e)⟩
      | tail _ hc' =>
        cases hd with
        | head =>
          obtain ⟨p1, p2, p3⟩ := hp.1 c hc'
          exact .inr ⟨p1, p2, fun e => (h.all c hc).new (p3 _ e)⟩
        | tail _ hd' => exact ih (fun y hy => hsub y (List.mem_cons_of_mem _ hy)) hp.2 hc' hd'
  exact key recs (fun _ h => h) h.pair hc hd

theorem Recs.same {Sg : List Blk} {cl : Caller} {md : Region.Mode} {ops : Array Oper} {T Tm : List Value} {S Sm : List Blk} {recs : List Rec} (h : Recs P Sg cl md ops T Tm S Sm recs) {c d : Rec} (hc : c ∈ recs) (hd : d ∈ recs)
    (he : c.i = d.i) : c = d := by
  have key : ∀ (l : List Rec), (∀ c ∈ l, c ∈ recs) → l.Pairwise (fun c d => c.S'.length ≤ d.S.length ∧ c.i ∈ d.done ∧ ∀ x ∈ c.done, x ∈ d.done) → c ∈ l → d ∈ l → c = d := by
    intro l
    induction l with
    | nil => intro _ _ hc; cases hc
    | cons x l ih =>
      intro hsub hp hc hd
      rw [List.pairwise_cons] at hp
      cases hc with
      | head =>
        cases hd with
        | head => rfl
        | tail _ hd' =>
          obtain ⟨_, p2, _⟩ := hp.1 d hd'
          exact absurd (he ▸ p2) (h.all d hd).new
      | tail _ hc' =>
        cases hd with
        | head =>
          obtain ⟨_, p2, _⟩ := hp.1 c hc'
          exact absurd (he ▸ p2) (h.all c hc).new
        | tail _ hd' => exact ih (fun y hy => hsub y (List.mem_cons_of_mem _ hy)) hp.2 hc' hd'
  exact key recs (fun _ h => h) h.pair hc hd

/-- What an operation of the region reads is there. -/
theorem pre_reads {Sg : List Blk} {cl : Caller} {md : Region.Mode} {ops : Array Oper} {T Tm : List Value} {S Sm : List Blk} {recs : List Rec} (R : Recs P Sg cl md ops T Tm S Sm recs)
    {φ0 φ : Ren} {a0 a : Act} {w0 w : World} {listed : Array Bool} (I : PreInv md ops recs T S Sm φ0 a0 w0 listed a φ w) {c : Rec} (hc : c ∈ recs) (hoff : ¬ On listed c.i) (he : EdgesOn md listed c.o)
    {t : Nat} (ht : apartFrom md ops c.o c.i t = true) {v v' : Value} (hv : c.T[t]? = some v) (hv' : a.tmps[t]? = some v') : VRel φ v v' := by
  have rc := R.all c hc
  have hlt : t < T.length := by have := (List.getElem?_eq_some_iff.1 hv).1; rw [rc.len] at this; exact this
  obtain ⟨i1, i2⟩ := I.tmp t v' hv'
  by_cases hex : ∃ d ∈ recs, d.o.dst = some t
  · obtain ⟨d, hd, hdst⟩ := hex
    have rd := R.all d hd
    have hap : d.i = c.i ∨ beforeM md c.o d.i = true ∨ beforeM md d.o c.i = true := by
      have := writersR_spec _ _ ht d.i d.o (by simpa using rd.op) hdst
      simp only [Nat.zero_add, Bool.or_eq_true] at this
      rcases this with (h1 | h1) | h1
      · exact .inl (by simpa using h1)
      · exact .inr (.inl h1)
      · exact .inr (.inr h1)
    have only : ∀ x ∈ recs, x.o.dst = some t → x = d := fun x hx hxd => R.same hx hd (soleDst_spec (drawOk_sole rd.draw) hdst (R.all x hx).op hxd)
    have later : d.i ∉ c.done → ¬ On listed d.i → VRel φ v v' := by
      intro h1 h2
      have e1 : c.T[t]? = T[t]? := (R.at_ c hc).2 t fun x hx hxd e => by rw [only x hx e] at hxd; exact h1 hxd
      exact i2 (fun x hx hxo e => by rw [only x hx e] at hxo; exact h2 hxo) v (e1 ▸ hv)
    rcases hap with h1 | h1 | h1
    · have : d = c := R.same hd hc h1
      subst this
      exact later rd.new hoff
    · have hdon := he d.i h1
      have hdd := edgesIn_spec rc.edges h1
      have e1 := (R.at_ c hc).1 d hd hdd t hdst hlt
      rw [hv] at e1; cases e1
      exact i1 d hd hdon hdst
    · have hcd := edgesIn_spec rd.edges h1
      by_cases hne : c.i = d.i
      · have : c = d := R.same hc hd hne
        subst this
        exact later rc.new hoff
      · refine later ?_ fun hon => hoff (I.closed d hd hon c.i h1)
        rcases R.two hc hd hne with ⟨_, _, h3⟩ | ⟨_, _, h3⟩
        · exact h3
        · exact absurd hcd h3
  · have hno : ∀ d ∈ recs, d.o.dst ≠ some t := fun d hd e => hex ⟨d, hd, e⟩
    have e1 : c.T[t]? = T[t]? := (R.at_ c hc).2 t fun x hx _ => hno x hx
    exact i2 (fun x hx _ => hno x hx) v (e1 ▸ hv)

/-- One more operation of the region. -/
theorem pre_step {Sg : List Blk} {cl : Caller} (hcl : ClOk P Sg cl) {md : Region.Mode} {ops : Array Oper} {T Tm : List Value} {S Sm Sf : List Blk} {recs : List Rec} (R : Recs P Sg cl md ops T Tm S Sm recs)
    {φ0 φ : Ren} {a0 a : Act} {w0 w : World} {listed : Array Bool} (inv0 : Inv Sg φ0 S w0) (hf : Fresh φ0 S.length Sf.length) (hSf : Sm.length ≤ Sf.length)
    (I : PreInv md ops recs T S Sm φ0 a0 w0 listed a φ w) {c : Rec} (hc : c ∈ recs) (hoff : ¬ On listed c.i) (he : EdgesOn md listed c.o) {Q : Exit → Act → World → Prop} {K : Act → World → Prop}
    (hK : ∀ (a' : Act) (ψ : Ren) (w' : World), PreInv md ops recs T S Sm φ0 a0 w0 (listed.setIfInBounds c.i true) a' ψ w' → K a' w') : wpOpIn (wideAt ro) 0 P ops Q c.i K a w := by
  have rc := R.all c hc
  have hdraw := rc.draw
  simp only [drawOk, allR_eq, Bool.and_eq_true] at hdraw
  obtain ⟨⟨⟨d1, d2⟩, d3⟩, d4⟩ := hdraw
  have hlow : ∀ g, g < Sg.length → g < S.length := fun g hg => Nat.lt_of_lt_of_le hg inv0.len
  have hcm : ∀ b, b < c.S'.length → Sm[b]? = c.S'[b]? := fun b hb => rc.hi.2 b hb hb
  have hcs : ∀ b, b < c.S.length → Sm[b]? = c.S[b]? := fun b hb => by rw [hcm b (Nat.lt_of_lt_of_le hb rc.mid.1), rc.mid.2 b hb hb]
  have invc : Inv Sg φ c.S w := by
    refine ⟨⟨I.good.pre fun b k hk => ?_, fun g hg => I.ext _ _ (inv0.ok.glob g hg)⟩, fun g hg => ?_, Nat.le_trans inv0.len rc.lo.1⟩
    · rw [hcs b (List.getElem?_eq_some_iff.1 hk).1]; exact hk
    · rw [rc.lo.2 g (hlow g hg) (hlow g hg), inv0.base g hg]
  have hfc : Fresh φ c.S.length c.S'.length := by
    intro b h1 h2
    cases hb : φ b with
    | none => rfl
    | some r =>
      exfalso
      rcases I.dom b r hb with h3 | ⟨d, hd, h3, h4, h5, _⟩
      · have := hf b (Nat.le_trans rc.lo.1 h1) (Nat.lt_of_lt_of_le h2 (Nat.le_trans rc.hi.1 hSf)); rw [this] at h3; cases h3
      · have hne : c.i ≠ d.i := fun e => hoff (e ▸ h3)
        rcases R.two hc hd hne with ⟨h6, _⟩ | ⟨h6, _⟩ <;> omega
  have hmask : LRel φ (maskL c.o c.T) (maskL c.o a.tmps.toList) := by
    refine mask_rel (by rw [rc.len, I.tsize]) fun t ht v v' hv hv' => ?_
    exact pre_reads R I hc hoff he ((List.all_eq_true.1 d1) t ht) hv hv'
  have hgd : ∀ b, wantedS ops c.T c.o = some b → Region.wanted c.o (yielded ops a.tmps) = b := by
    intro b hb
    refine wantedS_rel (φ := φ) hb fun j want p d v hg hp hd hv => ?_
    simp only [guardOk, hg, getR_arr, hp, Bool.and_eq_true] at d2
    have hjd := edgesIn_spec rc.edges d2.1
    obtain ⟨x, hx, hxi⟩ := R.done c hc j hjd
    have hxo : x.o = p := by have := (R.all x hx).op; rw [hxi, hp] at this; cases this; rfl
    have hlt : d < T.length := by have := (List.getElem?_eq_some_iff.1 hv).1; rw [rc.len] at this; exact this
    have e1 := (R.at_ c hc).1 x hx (show x.i ∈ c.done by rw [hxi]; exact hjd) d (by rw [hxo]; exact hd) hlt
    rw [hv] at e1; cases e1
    have hlt' : d < a.tmps.size := by rw [← I.tsize]; exact hlt
    refine ⟨a.tmps[d], Array.getElem?_eq_getElem hlt', (I.tmp d _ (Array.getElem?_eq_getElem hlt')).1 x hx (show On listed x.i by rw [hxi]; exact he j d2.1) (by rw [hxo]; exact hd)⟩
  have hns : ∀ cs b, c.o.op ≠ .select cs b := by intro cs b e; rw [e] at d4; simp [notSelect] at d4
  refine opRes_wp (T2 := maskL c.o c.T) (a2 := { a with tmps := (maskL c.o a.tmps.toList).toArray }) hcl invc.len rc.op rc.res invc (by simpa using hmask) (evOp_congr mask_opd)
    (execOp_congr c.o hns mask_eval) hgd hfc ?_
  intro v' ψ w' hv hg hs
  have hfr : ∀ r, r < w.heap.size → w'.heap[r]? = w.heap[r]? := fun r hr => hs.frame r hr fun b h1 h2 => by omega
  have hci : c.i < listed.size := by rw [I.size]; exact (Array.getElem?_eq_some_iff.1 rc.op).1
  have hon : ∀ j, On (listed.setIfInBounds c.i true) j ↔ j = c.i ∨ On listed j := fun j => on_set hci
  refine hK (a.put c.o.dst v') ψ w' ⟨by simpa using I.size, fun i hi => ?_, fun d hd hdo j hj => ?_, I.good.glue hg hs (Nat.le_refl _) hcm, I.ext.trans hs.ext, fun r hr => (hs.caps r (Nat.lt_of_lt_of_le hr I.hsize)).trans (I.caps r hr), fun b r hb => ?_,
    Nat.le_trans I.hsize hs.size, fun r hr => by rw [hfr r (Nat.lt_of_lt_of_le hr I.hsize), I.frame r hr], hs.os.trans I.os, hs.tape.trans I.tape, hs.output.trans I.output, by rw [put_size]; exact I.tsize, by rw [put_defers]; exact I.defers,
    fun t u hu => ?_⟩
  · rcases (hon i).1 hi with rfl | h
    · exact ⟨c, hc, rfl⟩
    · exact I.sub i h
  · rcases (hon d.i).1 hdo with h | h
    · have : d = c := R.same hd hc h
      subst this
      exact (hon j).2 (.inr (he j hj))
    · exact (hon j).2 (.inr (I.closed d hd h j hj))
  · rcases hs.dom' (Nat.le_refl _) b r hb with h | ⟨h1, h2, h3⟩
    · rcases I.dom b r h with h | ⟨d, hd, e1, e2⟩
      · exact .inl h
      · exact .inr ⟨d, hd, (hon d.i).2 (.inr e1), e2⟩
    · exact .inr ⟨c, hc, (hon c.i).2 (.inl rfl), h1, h2, Nat.le_trans I.hsize h3⟩
  · by_cases hdst : c.o.dst = some t
    · have huv : u = v' := by
        have ht : t < a.tmps.size := by have := (Array.getElem?_eq_some_iff.1 hu).1; rwa [put_size] at this
        rw [hdst] at hu
        simp [Act.put, ht] at hu
        exact hu.symm
      subst huv
      refine ⟨fun d hd hdo hdd => ?_, fun hall => ?_⟩
      · have : d = c := R.same hd hc (soleDst_spec (drawOk_sole rc.draw) hdst (R.all d hd).op hdd)
        subst this
        exact hv
      · exact absurd hdst (hall c hc ((hon c.i).2 (.inl rfl)))
    · rw [put_get a v' hdst] at hu
      obtain ⟨i1, i2⟩ := I.tmp t u hu
      refine ⟨fun d hd hdo hdd => ?_, fun hall v hv => ?_⟩
      · rcases (hon d.i).1 hdo with h | h
        · have : d = c := R.same hd hc h
          subst this
          exact absurd hdd hdst
        · exact (i1 d hd h hdd).mono hs.ext
      · exact (i2 (fun d hd hdo => hall d hd ((hon d.i).2 (.inr hdo))) v hv).mono hs.ext
end
end Go.Proofs.XX.Vm
/- A small evaluator over a shadow heap, part 12: a region that draws its order. -/
namespace Go.Proofs.XX.Vm
open Go Go.RowKit

theorem leq_eq {p : Value → Value → Bool} (hp : ∀ a b, p a b = true → a = b) : ∀ {l m : List Value}, leq p l m = true → l = m := by
  intro l
  induction l with
  | nil => intro m h; cases m with
    | nil => rfl
    | cons _ _ => simp [leq] at h
  | cons v l ih => intro m h; cases m with
    | nil => simp [leq] at h
    | cons u m =>
      simp only [leq, Bool.and_eq_true] at h
      rw [hp _ _ h.1, ih h.2]
theorem seq0_eq {a b : Value} (h : seq0 a b = true) : a = b := by
  unfold seq0 at h
  split at h
  case h_3 a b =>
    simp only [beq_iff_eq, Array.toList_inj] at h
    rw [ByteArray.ext h]
  all_goals first | rfl | (simp_all; done) | cases h
theorem seq1_eq {a b : Value} (h : seq1 a b = true) : a = b := by
  unfold seq1 at h
  split at h
  · simp only [Bool.and_eq_true, beq_iff_eq] at h
    obtain ⟨⟨h1, h2⟩, h3⟩ := h
    rw [h1, Array.toList_inj.1 (leq_eq (fun _ _ => seq0_eq) h2), Array.toList_inj.1 (leq_eq (fun _ _ => seq0_eq) h3)]
  · simp only [Bool.and_eq_true, Nat.beq_eq] at h
    obtain ⟨⟨h1, h2⟩, h3⟩ := h
    rw [h1, Array.toList_inj.1 (leq_eq (fun _ _ => seq0_eq) h2), Array.toList_inj.1 (leq_eq (fun _ _ => seq0_eq) h3)]
  · exact seq0_eq h
theorem seq2_eq {a b : Value} (h : seq2 a b = true) : a = b := by
  unfold seq2 at h
  split at h
  · rw [Array.toList_inj.1 (leq_eq (fun _ _ => seq1_eq) h)]
  · exact seq1_eq h
theorem seq3_eq {a b : Value} (h : seq3 a b = true) : a = b := by
  unfold seq3 at h
  split at h
  · rw [Array.toList_inj.1 (leq_eq (fun _ _ => seq2_eq) h)]
  · exact seq2_eq h
theorem heq1_eq : ∀ {l m : List Blk}, heq1 l m = true → l = m := by
  intro l
  induction l with
  | nil => intro m h; cases m with
    | nil => rfl
    | cons _ _ => simp [heq1] at h
  | cons k l ih => intro m h; cases m with
    | nil => simp [heq1] at h
    | cons j m =>
      simp only [heq1, Bool.and_eq_true, beq_iff_eq] at h
      obtain ⟨⟨⟨⟨h1, h2⟩, h3⟩, h5⟩, h4⟩ := h
      rw [ih h4]
      obtain ⟨c1, e1, r1, o1⟩ := k
      obtain ⟨c2, e2, r2, o2⟩ := j
      simp only at h1 h2 h3 h5
      rw [leq_eq (fun _ _ => seq1_eq) h1, h2, h3, sameObj_eq h5]

section
variable {P : Program} {ro : Option Nat}

theorem splitTail_eq {md : Region.Mode} {ops : Array Oper} : ∀ (σ done : List Nat), (splitTail md ops done σ).1 ++ (splitTail md ops done σ).2 = σ := by
  intro σ
  induction σ with
  | nil => intro done; rfl
  | cons i l ih =>
    intro done
    simp only [splitTail]
    split
    · split
      · rfl
      · simp [ih (i :: done)]
    · rfl

theorem topo_pre {md : Region.Mode} {ops : Array Oper} : ∀ (l done : List Nat), preOk md ops done l = true → Topo md ops done l := by
  intro l
  induction l with
  | nil => intro _ _; exact trivial
  | cons i l ih =>
    intro done h
    simp only [preOk] at h
    split at h
    · rename_i o ho
      rw [getR_arr] at ho
      simp only [Bool.and_eq_true] at h
      exact ⟨⟨o, ho, h.1.1.2⟩, ih _ h.2⟩
    · cases h

/-- The region, in every order that the edges of this kind allow. -/
theorem evRegion_wp {Sg : List Blk} {cl : Caller} (hcl : ClOk P Sg cl) {fl : Nat} (hfl : Sg.length ≤ fl) {md : Region.Mode} {ops : Array Oper} {σ : List Nat} {T T' : List Value} {S S' : List Blk}
    (hS : Sg.length ≤ S.length) (h : evRegion P Sg.length cl fl md ops σ T S = some (T', S')) : Ext fl S S' ∧
    ∀ (Q : Exit → Act → World → Prop) (φ : Ren) (a : Act) (w : World), Inv Sg φ S w → LRel φ T a.tmps.toList → Fresh φ S.length S'.length →
      (∀ (ψ : Ren) (a' : Act) (w' : World), Good ψ S' w' → LRel ψ T' a'.tmps.toList → a'.defers = a.defers → Step fl φ S w ψ S' w' → Q .normal a' w') →
      wpAnyIn (wideAt ro) 0 P md ops Q ops.size (Array.replicate ops.size false) a w := by
  unfold evRegion at h
  split at h
  · rename_i pre tl hst
    obtain ⟨hcov, hsplit, hpreok, htailok⟩ : (List.range ops.size).all (fun i => σ.contains i) = true ∧ pre ++ tl = σ ∧ preOk md ops [] pre = true ∧ tailOk md ops none pre.reverse tl = true := by
      unfold regionStatic at hst
      simp only [forceK_eq, allR_eq] at hst
      split at hst
      · rename_i hc
        have hsplit := splitTail_eq (md := md) (ops := ops) σ []
        generalize splitTail md ops [] σ = st at hst hsplit
        obtain ⟨p, q⟩ := st
        simp only at hst hsplit
        split at hst
        · rename_i hc2
          simp only [Bool.and_eq_true] at hc2
          cases hst
          refine ⟨?_, hsplit, hc2.2.1, hc2.2.2⟩
          simp only [List.all_eq_true] at hc ⊢
          intro i hi
          simpa using anyR_mem.1 (hc i hi)
        · cases hst
      · cases hst
    split at h
    · rename_i Tm Sm hpre
      obtain ⟨recs, r1, r2, r3, r4, r5, _, r7, r8, r9⟩ := evPre_recs hcl pre [] T Tm S Sm hS hpreok hpre
      have R : Recs P Sg cl md ops T Tm S Sm recs := ⟨r2, r3, r4, r5, fun c hc x hx => (r7 c hc x hx).resolve_left (by simp), r8, r9⟩
      obtain ⟨t1, t2, t3⟩ := evTail_wp (ro := ro) (Q := fun _ _ _ => True) hcl hfl tl none pre.reverse Tm T' Sm S' (Nat.le_trans hS r2.1) htailok h
      have hcover : ∀ i, i < ops.size → i ∈ pre ∨ i ∈ tl := by
        intro i hi
        have := (List.all_eq_true.1 hcov) i (by simp [hi])
        rw [← hsplit] at this
        simpa using this
      refine ⟨⟨Nat.le_trans r2.1 t1.1, fun b e1 e2 => by rw [t1.2 b e1 (Nat.lt_of_lt_of_le e2 r2.1), r2.2 b e2 e2]⟩, ?_⟩
      intro Q φ0 a0 w0 inv0 hT hf hQ
      obtain ⟨_, _, t4⟩ := evTail_wp (ro := ro) (Q := Q) hcl hfl tl none pre.reverse Tm T' Sm S' (Nat.le_trans hS r2.1) htailok h
      have finish : ∀ (fuel : Nat) (listed : Array Bool) (a : Act) (φ : Ren) (w : World), PreInv md ops recs T S Sm φ0 a0 w0 listed a φ w → left ops.size listed ≤ fuel → (∀ c ∈ recs, On listed c.i) → wpAnyIn (wideAt ro) 0 P md ops Q fuel listed a w := by
        intro fuel listed a φ w I hl hall
        have hstep : Step fl φ0 S w0 φ Sm w := by
          refine ⟨I.ext, I.caps, fun b r hb => ?_, r2.1, fun b hb d k hk => d k (by rw [← r2.2 b hb hb]; exact hk), fun b e1 e2 => r2.2 b e2 e2, fun r e1 _ => I.frame r e1, I.hsize, I.os, I.tape, I.output⟩
          rcases I.dom b r hb with h1 | ⟨c, hc, _, h2, h3, h4⟩
          · exact .inl h1
          · exact .inr ⟨Nat.le_trans (r4 c hc).lo.1 h2, Nat.lt_of_lt_of_le h3 (r4 c hc).hi.1, .inl h4⟩
        have hrel : LRel φ Tm a.tmps.toList := by
          refine ⟨by rw [r3, I.tsize]; simp, fun i v v' hv hv' => ?_⟩
          obtain ⟨i1, i2⟩ := I.tmp i v' (by simpa using hv')
          by_cases hex : ∃ d ∈ recs, d.o.dst = some i
          · obtain ⟨d, hd, hdst⟩ := hex
            have hlt : i < T.length := by rw [← r3]; exact (List.getElem?_eq_some_iff.1 hv).1
            have := r9.1 d hd trivial i hdst hlt
            rw [hv] at this; cases this
            exact i1 d hd (hall d hd) hdst
          · have hno : ∀ d ∈ recs, d.o.dst ≠ some i := fun d hd e => hex ⟨d, hd, e⟩
            have := r9.2 i fun d hd _ => hno d hd
            exact i2 (fun d hd _ => hno d hd) v (this ▸ hv)
        have hinv : Inv Sg φ Sm w := ⟨⟨I.good, fun g hg => I.ext _ _ (inv0.ok.glob g hg)⟩, fun g hg => by
          have hgS : g < S.length := Nat.lt_of_lt_of_le hg hS
          rw [r2.2 g hgS hgS, inv0.base g hg], Nat.le_trans hS r2.1⟩
        refine t4 fuel listed φ a w I.size (fun i => ⟨fun hi => ?_, fun hi => ?_⟩) (fun i hi => ?_) (by simp) hl hinv hrel (hstep.fresh hf) ?_
        · obtain ⟨c, hc, rfl⟩ := I.sub i hi
          simp only [List.mem_reverse]
          rw [← r1]; exact List.mem_map_of_mem hc
        · simp only [List.mem_reverse] at hi
          rw [← r1] at hi
          obtain ⟨c, hc, rfl⟩ := List.mem_map.1 hi
          exact hall c hc
        · simpa using hcover i hi
        · intro ψ a' w' g1 g2 g3 g4
          exact hQ ψ a' w' g1 g2 (by rw [g3, I.defers]) (hstep.trans g4 hf)
      have main : ∀ (fuel : Nat) (listed : Array Bool) (a : Act) (φ : Ren) (w : World), PreInv md ops recs T S Sm φ0 a0 w0 listed a φ w → left ops.size listed ≤ fuel → wpAnyIn (wideAt ro) 0 P md ops Q fuel listed a w := by
        intro fuel
        induction fuel with
        | zero =>
          intro listed a φ w I hl
          exact finish 0 listed a φ w I hl (by
            intro c hc
            have hi : c.i < ops.size := (Array.getElem?_eq_some_iff.1 (r4 c hc).op).1
            have := left_zero (Nat.le_zero.1 hl) c.i hi
            have hsz := I.size
            unfold On
            simp [Array.getD, hsz, hi] at this
            simp [hsz, hi, this])
        | succ fuel ih =>
          intro listed a φ w I hl
          by_cases hall : ∀ c ∈ recs, On listed c.i
          · exact finish (fuel + 1) listed a φ w I hl hall
          · obtain ⟨c0, hc0, hoff0⟩ : ∃ c ∈ recs, ¬ On listed c.i := by
              apply Classical.byContradiction
              intro hno
              exact hall fun c hc => Classical.byContradiction fun hn => hno ⟨c, hc, hn⟩
            refine ⟨fun hempty => ?_, fun k hk => ?_⟩
            · exact absurd hempty (Topo.first I.size pre [] (topo_pre _ _ hpreok) (by simp) ⟨c0.i, by rw [← r1]; exact List.mem_map_of_mem hc0, hoff0⟩)
            · obtain ⟨p, hp, hpoff, hpe⟩ := mem_ready.1 hk
              have hkoff : ¬ On listed k := fun e => by unfold On at e; rw [hpoff] at e; cases e
              have hkpre : k ∈ pre := by
                rcases hcover k (Array.getElem?_eq_some_iff.1 hp).1 with h1 | h1
                · exact h1
                · exfalso
                  cases tl with
                  | nil => cases h1
                  | cons y tl =>
                    have hto := htailok
                    simp only [tailOk] at hto
                    split at hto
                    · rename_i o2 ho2
                      rw [getR_arr] at ho2
                      simp only [Bool.and_eq_true] at hto
                      obtain ⟨⟨⟨_, b2⟩, b3⟩, b4⟩ := hto
                      have hynd : y ∉ pre := fun e => by rw [anyR_mem.2 (List.mem_reverse.2 e)] at b2; cases b2
                      cases h1 with
                      | head =>
                        rw [hp] at ho2; cases ho2
                        simp only [aheadOk, allR_eq] at b3
                        have hb := (List.all_eq_true.1 b3) c0.i (by simp; rw [← r1]; exact List.mem_map_of_mem hc0)
                        simp only [behind, anyR_eq, Bool.or_eq_true, List.any_eq_true, Bool.and_eq_true] at hb
                        rcases hb with (hb | ⟨k2, _, hb1, hb2⟩) | hb3
                        rotate_right
                        · exact hoff0 (reach_on (fun i q hq hi => by
                            obtain ⟨c2, hc2, rfl⟩ := I.sub i hi
                            have := (r4 c2 hc2).op
                            rw [hq] at this; cases this
                            exact I.closed c2 hc2 hi) 7 p c0.i hb3 hpe)
                        · exact hoff0 (hpe _ hb)
                        · obtain ⟨c2, hc2, rfl⟩ := I.sub k2 (hpe _ hb1)
                          rw [getR_arr, (r4 c2 hc2).op] at hb2
                          exact hoff0 (I.closed c2 hc2 (hpe _ hb1) _ hb2)
                      | tail _ h1 =>
                        obtain ⟨p2, x, q1, q2, q3⟩ := tailOk_key _ _ _ b4 k h1
                        rw [hp] at q1; cases q1
                        obtain ⟨c, hc, hci⟩ := I.sub x (hpe x q2)
                        have hxpre : x ∈ pre := by rw [← hci, ← r1]; exact List.mem_map_of_mem hc
                        rcases q3 with rfl | ⟨_, q4⟩
                        · exact hynd hxpre
                        · exact q4 (List.mem_cons_of_mem _ (by simpa using hxpre))
                    · cases hto
              obtain ⟨c, hc, hci⟩ : ∃ c ∈ recs, c.i = k := by
                rw [← r1] at hkpre
                obtain ⟨c, hc, e⟩ := List.mem_map.1 hkpre
                exact ⟨c, hc, e⟩
              subst hci
              have hpo : p = c.o := by have := (r4 c hc).op; rw [hp] at this; cases this; rfl
              subst hpo
              refine pre_step hcl R inv0 hf t1.1 I hc hkoff hpe fun a' ψ w' I' => ih _ a' ψ w' I' ?_
              have := left_set I.size (Array.getElem?_eq_some_iff.1 hp).1 (show listed.getD c.i true = false by
                have hlt : c.i < listed.size := by rw [I.size]; exact (Array.getElem?_eq_some_iff.1 hp).1
                rw [Array.getElem?_eq_getElem hlt] at hpoff
                simp [Array.getD, hlt]
                simpa using hpoff)
              omega
      refine main ops.size _ a0 φ0 w0 ?_ ?_
      · have hoff : ∀ i, ¬ On (Array.replicate ops.size false) i := by
          intro i e
          unfold On at e
          rw [Array.getElem?_replicate] at e
          split at e <;> simp at e
        refine ⟨by simp, fun i hi => absurd hi (hoff i), fun c _ hi => absurd hi (hoff _), inv0.ok.good.grow (fun b hb => r2.2 b hb hb) (fun b e1 e2 => hf b e1 (Nat.lt_of_lt_of_le e2 t1.1)), RExt.refl _, fun _ _ => rfl, fun _ _ e => .inl e, Nat.le_refl _, fun _ _ => rfl, rfl, rfl, rfl, by simpa using hT.1, rfl,
          fun t v' hv' => ⟨fun c _ hi => absurd hi (hoff _), fun _ v hv => hT.2 t v v' hv (by simpa using hv')⟩⟩
      · have : left ops.size (Array.replicate ops.size false) ≤ (List.range ops.size).length := List.countP_le_length
        simpa using this
    · cases h
  · cases h
end
end Go.Proofs.XX.Vm
/- A small evaluator over a shadow heap, part 15: operations that may come before or behind what writes to other blocks. -/
namespace Go.Proofs.XX.Vm
open Go Go.RowKit

section
variable {P : Program}

theorem pureTry_fac {gl : Nat} {T : List Value} {o : Oper} : ∃ g : Option Value, ∀ S : List Blk, pureTry P gl o T S = g.map fun v => R.val v S := by
  unfold pureTry
  cases opds gl T o.op.operands.toList with
  | none => exact ⟨none, fun S => rfl⟩
  | some vs =>
    by_cases hc : (pureOp o.op && vs.all plain) = true
    · simp only [hc, if_true]
      cases pureSem P (execOp (fun x => (opd gl T x).getD undef) o) with
      | none => exact ⟨none, fun S => rfl⟩
      | some e =>
        cases e with
        | value v =>
          by_cases hp : plain v = true
          · exact ⟨some v, fun S => by simp [hp]⟩
          · exact ⟨none, fun S => by simp [hp]⟩
        | _ => exact ⟨none, fun S => rfl⟩
    · exact ⟨none, fun S => by simp [hc]⟩

theorem reg_fac {gl : Nat} {T : List Value} {o : Oper} (h : regOnly o.op = true) : ∃ g : Option Value, ∀ (fl : Nat) (S : List Blk), evOp P gl fl o T S = g.map fun v => R.val v S := by
  obtain ⟨gp, hp⟩ := pureTry_fac (P := P) (gl := gl) (T := T) (o := o)
  have hd : ∃ g : Option Value, ∀ (fl : Nat) (S : List Blk), pureTry P gl o T S = g.map fun v => R.val v S := ⟨gp, fun _ S => hp S⟩
  obtain ⟨dst, op, ty, pos, after, guard⟩ := o
  simp only at h
  cases op
  case move x => exact ⟨opd gl T x, fun fl S => by simp only [evOp_eqO, evOpO]; cases opd gl T x <;> rfl⟩
  case assign x => exact ⟨opd gl T x, fun fl S => by simp only [evOp_eqO, evOpO]; cases opd gl T x <;> rfl⟩
  case pick c a b =>
    simp only [evOp_eqO, evOpO]
    split
    · rename_i β v u _ _ _; exact ⟨some (bif β then v else u), fun fl S => rfl⟩
    · exact ⟨none, fun fl S => rfl⟩
  case nilCheck x =>
    simp only [evOp_eqO, evOpO]
    split
    · exact ⟨some _, fun fl S => rfl⟩
    · exact ⟨none, fun fl S => rfl⟩
  case fieldAddr t x f =>
    simp only [evOp_eqO, evOpO]
    split
    · split
      · exact ⟨some _, fun fl S => rfl⟩
      · exact ⟨none, fun fl S => rfl⟩
    · exact ⟨none, fun fl S => rfl⟩
  case indexAddr t x i =>
    simp only [evOp_eqO, evOpO]
    split
    · split
      · exact ⟨some _, fun fl S => rfl⟩
      · exact ⟨none, fun fl S => rfl⟩
    · exact ⟨none, fun fl S => rfl⟩
  case binOp op t x y s =>
    simp only [evOp_eqO, evOpO]
    split
    · split
      · exact ⟨some _, fun fl S => rfl⟩
      · exact hd
    · split
      · split
        · exact ⟨some _, fun fl S => rfl⟩
        · exact hd
      · exact hd
    · split
      · split
        · exact ⟨some _, fun fl S => rfl⟩
        · exact ⟨some _, fun fl S => rfl⟩
        · exact ⟨none, fun fl S => rfl⟩
      · exact ⟨none, fun fl S => rfl⟩
    · exact hd
  case call c =>
    obtain ⟨callee, args, argTypes⟩ := c
    cases callee
    case builtin b =>
      cases b
      case len =>
        simp only [evOp_eqO, evOpO]
        split
        · split
          · exact ⟨some _, fun fl S => rfl⟩
          · exact ⟨none, fun fl S => rfl⟩
        · split
          · exact ⟨some _, fun fl S => rfl⟩
          · exact ⟨none, fun fl S => rfl⟩
        · exact hd
      case cap =>
        simp only [evOp_eqO, evOpO]
        split
        · split
          · split
            · exact ⟨none, fun fl S => rfl⟩
            · exact ⟨some _, fun fl S => rfl⟩
          · exact ⟨none, fun fl S => rfl⟩
        · exact hd
      case append => cases h
      case clear => cases h
      case copy => cases h
      all_goals exact hd
    all_goals cases h
  case build t parts =>
    simp only [evOp_eqO, evOpO]
    split
    · split
      · exact ⟨none, fun fl S => rfl⟩
      · split
        · exact ⟨some _, fun fl S => rfl⟩
        · exact hd
    · exact ⟨none, fun fl S => rfl⟩
  case slice t x lo hi mx =>
    cases lo <;> cases hi <;> cases mx
    case none.none.none =>
      simp only [evOp_eqO, evOpO]
      split
      · split
        · split
          · exact ⟨some _, fun fl S => rfl⟩
          · exact ⟨none, fun fl S => rfl⟩
        · exact ⟨none, fun fl S => rfl⟩
      · exact hd
    all_goals
      simp only [evOp_eqO, evOpO]
      split
      · exact ⟨some _, fun fl S => rfl⟩
      · split
        · split
          · split
            · exact ⟨some _, fun fl S => rfl⟩
            · split
              · exact ⟨some _, fun fl S => rfl⟩
              · exact ⟨none, fun fl S => rfl⟩
          · exact ⟨none, fun fl S => rfl⟩
        · split
          · exact ⟨some _, fun fl S => rfl⟩
          · exact hd
        · exact hd
  case index t x i =>
    simp only [evOp_eqO, evOpO]
    split
    · split
      · exact ⟨some _, fun fl S => rfl⟩
      · exact ⟨none, fun fl S => rfl⟩
    · exact hd
  case convert s d x =>
    simp only [evOp_eqO, evOpO]
    split
    · split
      · exact ⟨some _, fun fl S => rfl⟩
      · exact hd
    · exact hd
  case extract x i =>
    simp only [evOp_eqO, evOpO]
    split
    · split
      · exact ⟨some _, fun fl S => rfl⟩
      · exact ⟨none, fun fl S => rfl⟩
    · exact hd
  case field t x f =>
    simp only [evOp_eqO, evOpO]
    split
    · split
      · exact ⟨some _, fun fl S => rfl⟩
      · exact ⟨none, fun fl S => rfl⟩
    · exact hd
  all_goals first
    | (cases h; done)
    | exact hd

theorem opRes_reg {gl fl : Nat} {cl : Caller} {ops : Array Oper} {o : Oper} {T : List Value} {S S1 : List Blk} {v : Value} (ho : regOnly o.op = true) (h : opRes P gl cl fl ops o T S = some (v, S1)) :
    S1 = S ∧ ∀ (fl2 : Nat) (S2 : List Blk), opRes P gl cl fl2 ops o T S2 = some (v, S2) := by
  obtain ⟨g, hg⟩ := reg_fac (P := P) (gl := gl) (T := T) ho
  unfold opRes at h ⊢
  split at h
  · rename_i hw
    rw [hg] at h
    cases g with
    | none => cases h
    | some u =>
      cases h
      exact ⟨rfl, fun fl2 S2 => by simp only [hg, Option.map_some]⟩
  · rename_i hw
    cases h
    exact ⟨rfl, fun fl2 S2 => by simp only⟩
  · cases h

theorem opRes_load {gl fl : Nat} {cl : Caller} {ops : Array Oper} {o : Oper} {T : List Value} {S S1 : List Blk} {v : Value} {ty : TypeId} {x : Operand} {b off : Nat} (ho : o.op = .load ty x) (hx : opd gl T x = some (.pointer (some ⟨b, off, none⟩)))
    (h : opRes P gl cl fl ops o T S = some (v, S1)) : S1 = S ∧ ∀ (fl2 : Nat) (S2 : List Blk), (b < S.length → S2[b]? = S[b]?) → opRes P gl cl fl2 ops o T S2 = some (v, S2) := by
  unfold opRes at h ⊢
  split at h
  · rename_i hw
    simp only [evOp_eqO, evOpO, ho, hx] at h ⊢
    cases hl : load P ty S (.pointer (some ⟨b, off, none⟩)) with
    | none => rw [hl] at h; cases h
    | some u =>
      rw [hl] at h
      cases h
      refine ⟨rfl, fun fl2 S2 e => ?_⟩
      have hb : b < S.length := by
        simp only [load_eqO, loadO] at hl
        split at hl
        · rename_i hk; exact (List.getElem?_eq_some_iff.1 hk).1
        · rename_i hk; exact (List.getElem?_eq_some_iff.1 hk).1
        · rename_i hk; exact (List.getElem?_eq_some_iff.1 hk).1
        · rename_i hk; exact (List.getElem?_eq_some_iff.1 hk).1
        · cases hl
      have : load P ty S2 (.pointer (some ⟨b, off, none⟩)) = some v := by
        simp only [load_eqO, loadO] at hl ⊢
        rw [e hb]; exact hl
      simp only [this]
  · rename_i hw
    cases h
    exact ⟨rfl, fun fl2 S2 _ => by simp only⟩
  · cases h

theorem floatBlks_spec {ops : Array Oper} {T : List Value} : ∀ (F : List Nat) (B : List (Nat × Nat)), floatBlks ops T F = some B → ∀ j ∈ F, ∃ o, ops[j]? = some o ∧
    (regOnly o.op = true ∨ ∃ ty t b off, o.op = .load ty (.tmp t) ∧ nthD T t = .pointer (some ⟨b, off, none⟩) ∧ (j, b) ∈ B) := by
  intro F
  induction F with
  | nil => intro B _ j hj; cases hj
  | cons i F ih =>
    intro B h j hj
    simp only [floatBlks] at h
    split at h
    · rename_i o B1 ho hB
      rw [getR_arr] at ho
      have tl : ∀ B2 : List (Nat × Nat), (∀ b ∈ B1, b ∈ B2) → j ∈ F → ∃ o, ops[j]? = some o ∧ (regOnly o.op = true ∨ ∃ ty t b off, o.op = .load ty (.tmp t) ∧ nthD T t = .pointer (some ⟨b, off, none⟩) ∧ (j, b) ∈ B2) := by
        intro B2 hs hm
        obtain ⟨o, h1, h2⟩ := ih B1 hB j hm
        refine ⟨o, h1, ?_⟩
        rcases h2 with h2 | ⟨ty, t, b, off, h2, h3, h4⟩
        · exact .inl h2
        · exact .inr ⟨ty, t, b, off, h2, h3, hs _ h4⟩
      split at h
      · rename_i hr
        cases h
        cases hj with
        | head => exact ⟨o, ho, .inl hr⟩
        | tail _ hm => exact tl _ (fun _ h => h) hm
      · split at h
        · rename_i ty t hop
          split at h
          · rename_i b off hn
            cases h
            cases hj with
            | head => exact ⟨o, ho, .inr ⟨ty, t, b, off, hop, hn, List.mem_cons_self ..⟩⟩
            | tail _ hm => exact tl _ (fun _ h => List.mem_cons_of_mem _ h) hm
          · cases h
        · cases h
    · cases h

theorem quiet_keeps {gl fl : Nat} {cl : Caller} {ops : Array Oper} {o : Oper} {T : List Value} {S S1 : List Blk} {v : Value} {B : List (Nat × Nat)} (hq : quietOp gl B o T = true) (h : opRes P gl cl fl ops o T S = some (v, S1)) :
    ∀ p ∈ B, S1[p.2]? = S[p.2]? := by
  intro p hb
  unfold quietOp at hq
  split at hq
  · cases hb
  · split at hq
    · rename_i t x y hop
      split at hq
      · rename_i b2 off hx
        have hne : b2 ≠ p.2 := by
          intro e
          rw [allR_eq, List.all_eq_true] at hq
          have := hq p hb
          simp [e] at this
        unfold opRes at h
        split at h
        · simp only [evOp_eqO, evOpO, hop, hx] at h
          cases hy : opd gl T y with
          | none => rw [hy] at h; cases h
          | some u =>
            rw [hy] at h
            simp only at h
            cases hs : store P fl t S (.pointer (some ⟨b2, off, none⟩)) u with
            | none => rw [hs] at h; cases h
            | some S2 =>
              rw [hs] at h
              cases h
              rw [store_eqO] at hs; unfold storeO at hs
              simp only [forceK_eq] at hs
              repeat' split at hs
              all_goals first
                | (cases hs; done)
                | (cases hs; rw [List.getElem?_set_ne hne])
        · cases h; rfl
        · cases h
      · cases hq
    · rename_i ty x hop
      have hS : S1 = S := by
        unfold opRes at h
        split at h
        · simp only [evOp_eqO, evOpO, hop] at h
          cases hx : opd gl T x with
          | none => rw [hx] at h; cases h
          | some p =>
            rw [hx] at h
            simp only at h
            cases hl : load P ty S p with
            | none => rw [hl] at h; cases h
            | some u => rw [hl] at h; cases h; rfl
        · cases h; rfl
        · cases h
      rw [hS]
    · rw [(opRes_reg hq h).1]
end
end Go.Proofs.XX.Vm
/- A small evaluator over a shadow heap, part 20: a region with such operations, in every order. -/
namespace Go.Proofs.XX.Vm
open Go Go.RowKit

/-- The registers' side of what was evaluated. -/
structure RegRec (md : Region.Mode) (ops : Array Oper) (T : List Value) (c : Rec) : Prop where
  op : ops[c.i]? = some c.o
  draw : drawOk md ops c.o c.i = true
  edges : edgesIn md c.o c.done = true
  new : c.i ∉ c.done
  len : c.T.length = T.length

structure RegRecs (md : Region.Mode) (ops : Array Oper) (T Tf : List Value) (recs : List Rec) : Prop where
  len : Tf.length = T.length
  all : ∀ c ∈ recs, RegRec md ops T c
  pair : recs.Pairwise fun c d => c.i ∈ d.done ∧ ∀ x ∈ c.done, x ∈ d.done
  done : ∀ c ∈ recs, ∀ x ∈ c.done, ∃ d ∈ recs, d.i = x
  at_ : ∀ c ∈ recs, Holds recs (fun d => d.i ∈ c.done) T c.T
  end_ : Holds recs (fun _ => True) T Tf

section
variable {P : Program} {md : Region.Mode} {ops : Array Oper} {T Tf : List Value} {recs : List Rec}

theorem RegRecs.two (h : RegRecs md ops T Tf recs) {c d : Rec} (hc : c ∈ recs) (hd : d ∈ recs) (hne : c.i ≠ d.i) : (c.i ∈ d.done ∧ d.i ∉ c.done) ∨ (d.i ∈ c.done ∧ c.i ∉ d.done) := by
  have key : ∀ (l : List Rec), (∀ c ∈ l, c ∈ recs) → l.Pairwise (fun c d => c.i ∈ d.done ∧ ∀ x ∈ c.done, x ∈ d.done) → c ∈ l → d ∈ l → (c.i ∈ d.done ∧ d.i ∉ c.done) ∨ (d.i ∈ c.done ∧ c.i ∉ d.done) := by
    intro l
    induction l with
    | nil => intro _ _ hc; cases hc
    | cons x l ih =>
      intro hsub hp hc hd
      rw [List.pairwise_cons] at hp
      cases hc with
      | head =>
        cases hd with
        | head => exact absurd rfl hne
        | tail _ hd' =>
          obtain ⟨p2, p3⟩ := hp.1 d hd'
          exact .inl ⟨p2, fun e => (h.all d hd).new (p3 _ e)⟩
      | tail _ hc' =>
        cases hd with
        | head =>
          obtain ⟨p2, p3⟩ := hp.1 c hc'
          exact .inr ⟨p2, fun e => (h.all c hc).new (p3 _ e)⟩
        | tail _ hd' => exact ih (fun y hy => hsub y (List.mem_cons_of_mem _ hy)) hp.2 hc' hd'
  exact key recs (fun _ h => h) h.pair hc hd

theorem RegRecs.same (h : RegRecs md ops T Tf recs) {c d : Rec} (hc : c ∈ recs) (hd : d ∈ recs) (he : c.i = d.i) : c = d := by
  have key : ∀ (l : List Rec), (∀ c ∈ l, c ∈ recs) → l.Pairwise (fun c d => c.i ∈ d.done ∧ ∀ x ∈ c.done, x ∈ d.done) → c ∈ l → d ∈ l → c = d := by
    intro l
    induction l with
    | nil => intro _ _ hc; cases hc
    | cons x l ih =>
      intro hsub hp hc hd
      rw [List.pairwise_cons] at hp
      cases hc with
      | head =>
        cases hd with
        | head => rfl
        | tail _ hd' =>
          obtain ⟨p2, _⟩ := hp.1 d hd'
          exact absurd (he ▸ p2) (h.all d hd).new
      | tail _ hc' =>
        cases hd with
        | head =>
          obtain ⟨p2, _⟩ := hp.1 c hc'
          exact absurd (he ▸ p2) (h.all c hc).new
        | tail _ hd' => exact ih (fun y hy => hsub y (List.mem_cons_of_mem _ hy)) hp.2 hc' hd'
  exact key recs (fun _ h => h) h.pair hc hd

/-- The registers, some operations having been carried out. -/
structure RegInv (md : Region.Mode) (ops : Array Oper) (recs : List Rec) (T : List Value) (a0 : Act) (listed : Array Bool) (a : Act) (φ : Ren) : Prop where
  size : listed.size = ops.size
  closed : ∀ c ∈ recs, On listed c.i → EdgesOn md listed c.o
  tsize : T.length = a.tmps.size
  defers : a.defers = a0.defers
  tmp : ∀ t v', a.tmps[t]? = some v' → (∀ c ∈ recs, On listed c.i → c.o.dst = some t → VRel φ c.v v') ∧ ((∀ c ∈ recs, On listed c.i → c.o.dst ≠ some t) → ∀ v, T[t]? = some v → VRel φ v v')

theorem reg_reads (R : RegRecs md ops T Tf recs) {φ : Ren} {a0 a : Act} {listed : Array Bool} (I : RegInv md ops recs T a0 listed a φ) {c : Rec} (hc : c ∈ recs) (hoff : ¬ On listed c.i) (he : EdgesOn md listed c.o)
    {t : Nat} (ht : apartFrom md ops c.o c.i t = true) {v v' : Value} (hv : c.T[t]? = some v) (hv' : a.tmps[t]? = some v') : VRel φ v v' := by
  have rc := R.all c hc
  have hlt : t < T.length := by have := (List.getElem?_eq_some_iff.1 hv).1; rw [rc.len] at this; exact this
  obtain ⟨i1, i2⟩ := I.tmp t v' hv'
  by_cases hex : ∃ d ∈ recs, d.o.dst = some t
  · obtain ⟨d, hd, hdst⟩ := hex
    have rd := R.all d hd
    have hap : d.i = c.i ∨ beforeM md c.o d.i = true ∨ beforeM md d.o c.i = true := by
      have := writersR_spec _ _ ht d.i d.o (by simpa using rd.op) hdst
      simp only [Nat.zero_add, Bool.or_eq_true] at this
      rcases this with (h1 | h1) | h1
      · exact .inl (by simpa using h1)
      · exact .inr (.inl h1)
      · exact .inr (.inr h1)
    have only : ∀ x ∈ recs, x.o.dst = some t → x = d := fun x hx hxd => R.same hx hd (soleDst_spec (drawOk_sole rd.draw) hdst (R.all x hx).op hxd)
    have later : d.i ∉ c.done → ¬ On listed d.i → VRel φ v v' := by
      intro h1 h2
      have e1 : c.T[t]? = T[t]? := (R.at_ c hc).2 t fun x hx hxd e => by rw [only x hx e] at hxd; exact h1 hxd
      exact i2 (fun x hx hxo e => by rw [only x hx e] at hxo; exact h2 hxo) v (e1 ▸ hv)
    rcases hap with h1 | h1 | h1
    · have : d = c := R.same hd hc h1
      subst this
      exact later rd.new hoff
    · have hdon := he d.i h1
      have hdd := edgesIn_spec rc.edges h1
      have e1 := (R.at_ c hc).1 d hd hdd t hdst hlt
      rw [hv] at e1; cases e1
      exact i1 d hd hdon hdst
    · have hcd := edgesIn_spec rd.edges h1
      by_cases hne : c.i = d.i
      · have : c = d := R.same hc hd hne
        subst this
        exact later rc.new hoff
      · refine later ?_ fun hon => hoff (I.closed d hd hon c.i h1)
        rcases R.two hc hd hne with ⟨_, h3⟩ | ⟨_, h3⟩
        · exact h3
        · exact absurd hcd h3
  · have hno : ∀ d ∈ recs, d.o.dst ≠ some t := fun d hd e => hex ⟨d, hd, e⟩
    have e1 : c.T[t]? = T[t]? := (R.at_ c hc).2 t fun x hx _ => hno x hx
    exact i2 (fun x hx _ => hno x hx) v (e1 ▸ hv)

/-- One more operation, at whatever heap its value is the one that was evaluated. -/
theorem reg_step {ro : Option Nat} {Sg : List Blk} {cl : Caller} (hcl : ClOk P Sg cl) (R : RegRecs md ops T Tf recs) {φ : Ren} {a0 a : Act} {w : World} {listed : Array Bool}
    (I : RegInv md ops recs T a0 listed a φ) {c : Rec} (hc : c ∈ recs) (hoff : ¬ On listed c.i) (he : EdgesOn md listed c.o) {fl : Nat} (hfl : Sg.length ≤ fl) {S S' : List Blk} (inv : Inv Sg φ S w) (hf : Fresh φ S.length S'.length)
    (hr : opRes P Sg.length cl fl ops c.o c.T S = some (c.v, S')) {Q : Exit → Act → World → Prop} {K : Act → World → Prop}
    (hK : ∀ (a' : Act) (ψ : Ren) (w' : World), RegInv md ops recs T a0 (listed.setIfInBounds c.i true) a' ψ → Good ψ S' w' → Step fl φ S w ψ S' w' → K a' w') : wpOpIn (wideAt ro) 0 P ops Q c.i K a w := by
  have rc := R.all c hc
  have hdraw := rc.draw
  simp only [drawOk, allR_eq, Bool.and_eq_true] at hdraw
  obtain ⟨⟨⟨d1, d2⟩, d3⟩, d4⟩ := hdraw
  have hmask : LRel φ (maskL c.o c.T) (maskL c.o a.tmps.toList) := by
    refine mask_rel (by rw [rc.len, I.tsize]) fun t ht v v' hv hv' => ?_
    exact reg_reads R I hc hoff he ((List.all_eq_true.1 d1) t ht) hv hv'
  have hgd : ∀ b, wantedS ops c.T c.o = some b → Region.wanted c.o (yielded ops a.tmps) = b := by
    intro b hb
    refine wantedS_rel (φ := φ) hb fun j want p d v hg hp hd hv => ?_
    simp only [guardOk, hg, getR_arr, hp, Bool.and_eq_true] at d2
    have hjd := edgesIn_spec rc.edges d2.1
    obtain ⟨x, hx, hxi⟩ := R.done c hc j hjd
    have hxo : x.o = p := by have := (R.all x hx).op; rw [hxi, hp] at this; cases this; rfl
    have hlt : d < T.length := by have := (List.getElem?_eq_some_iff.1 hv).1; rw [rc.len] at this; exact this
    have e1 := (R.at_ c hc).1 x hx (show x.i ∈ c.done by rw [hxi]; exact hjd) d (by rw [hxo]; exact hd) hlt
    rw [hv] at e1; cases e1
    have hlt' : d < a.tmps.size := by rw [← I.tsize]; exact hlt
    refine ⟨a.tmps[d], Array.getElem?_eq_getElem hlt', (I.tmp d _ (Array.getElem?_eq_getElem hlt')).1 x hx (show On listed x.i by rw [hxi]; exact he j d2.1) (by rw [hxo]; exact hd)⟩
  have hns : ∀ cs b, c.o.op ≠ .select cs b := by intro cs b e; rw [e] at d4; simp [notSelect] at d4
  refine opRes_wp (T2 := maskL c.o c.T) (a2 := { a with tmps := (maskL c.o a.tmps.toList).toArray }) hcl hfl rc.op hr inv (by simpa using hmask) (evOp_congr mask_opd)
    (execOp_congr c.o hns mask_eval) hgd hf ?_
  intro v' ψ w' hv hg hs
  have hci : c.i < listed.size := by rw [I.size]; exact (Array.getElem?_eq_some_iff.1 rc.op).1
  have hon : ∀ j, On (listed.setIfInBounds c.i true) j ↔ j = c.i ∨ On listed j := fun j => on_set hci
  refine hK (a.put c.o.dst v') ψ w' ⟨by simpa using I.size, fun d hd hdo j hj => ?_, by rw [put_size]; exact I.tsize, by rw [put_defers]; exact I.defers, fun t u hu => ?_⟩ hg hs
  · rcases (hon d.i).1 hdo with h | h
    · have : d = c := R.same hd hc h
      subst this
      exact (hon j).2 (.inr (he j hj))
    · exact (hon j).2 (.inr (I.closed d hd h j hj))
  · by_cases hdst : c.o.dst = some t
    · have huv : u = v' := by
        have ht : t < a.tmps.size := by have := (Array.getElem?_eq_some_iff.1 hu).1; rwa [put_size] at this
        rw [hdst] at hu
        simp [Act.put, ht] at hu
        exact hu.symm
      subst huv
      refine ⟨fun d hd hdo hdd => ?_, fun hall => ?_⟩
      · have : d = c := R.same hd hc (soleDst_spec (drawOk_sole rc.draw) hdst (R.all d hd).op hdd)
        subst this
        exact hv
      · exact absurd hdst (hall c hc ((hon c.i).2 (.inl rfl)))
    · rw [put_get a v' hdst] at hu
      obtain ⟨i1, i2⟩ := I.tmp t u hu
      refine ⟨fun d hd hdo hdd => ?_, fun hall v hv => ?_⟩
      · rcases (hon d.i).1 hdo with h | h
        · have : d = c := R.same hd hc h
          subst this
          exact absurd hdd hdst
        · exact (i1 d hd h hdd).mono hs.ext
      · exact (i2 (fun d hd hdo => hall d hd ((hon d.i).2 (.inr hdo))) v hv).mono hs.ext

/-- The heaps of the second part, one behind the other. -/
def Heaps (P : Program) (gl : Nat) (cl : Caller) (fl : Nat) (md : Region.Mode) (ops : Array Oper) : List (Nat × Nat) → List Blk → List Rec → List Blk → Prop
  | _, S, [], Sf => S = Sf
  | B, S, c :: l, Sf => c.S = S ∧ opRes P gl cl fl ops c.o c.T S = some (c.v, c.S') ∧ (∀ p ∈ openAt md c.o B, c.S'[p.2]? = S[p.2]?) ∧ Heaps P gl cl fl md ops (openAt md c.o B) c.S' l Sf

theorem same_keeps {S S1 : List Blk} {B : List (Nat × Nat)} (h : sameBlks S S1 B = true) : ∀ p ∈ B, S1[p.2]? = S[p.2]? := by
  intro p hp
  unfold sameBlks at h
  rw [allR_eq, List.all_eq_true] at h
  have := h p hp
  split at this
  · rename_i k hk
    split at this
    · rename_i k' hk'
      have e := heq1_eq this
      simp only [List.cons.injEq, and_true] at e
      rw [hk, hk', e]
    · cases this
  · cases this
theorem tail_recs {gl : Nat} {cl : Caller} {fl : Nat} : ∀ (l : List Nat) (B : List (Nat × Nat)) (done : List Nat) (R0 : List Rec) (Tm Tf : List Value) (S Sf : List Blk), (∀ x, x ∈ done ↔ ∃ d ∈ R0, d.i = x) → (∀ c ∈ R0, ops[c.i]? = some c.o) →
    Holds R0 (fun _ => True) T Tm → Tm.length = T.length → preOk md ops done l = true → evTailF P gl cl fl md ops l B Tm S = some (Tf, Sf) →
    ∃ recs : List Rec, recs.map (·.i) = l ∧ Tf.length = T.length ∧ (∀ c ∈ recs, RegRec md ops T c) ∧ recs.Pairwise (fun c d => c.i ∈ d.done ∧ ∀ x ∈ c.done, x ∈ d.done) ∧ (∀ c ∈ recs, ∀ x ∈ done, x ∈ c.done) ∧
      (∀ c ∈ recs, ∀ x ∈ c.done, x ∈ done ∨ ∃ d ∈ recs, d.i = x) ∧ (∀ c ∈ recs, Holds (R0 ++ recs) (fun d => d.i ∈ c.done) T c.T) ∧ Holds (R0 ++ recs) (fun _ => True) T Tf ∧ Heaps P gl cl fl md ops B S recs Sf := by
  intro l
  induction l with
  | nil =>
    intro B done R0 Tm Tf S Sf _ _ hh hl _ h
    cases h
    exact ⟨[], rfl, hl, by simp, by simp, by simp, by simp, by simp, by simpa using hh, rfl⟩
  | cons i l ih =>
    intro B done R0 Tm Tf S Sf hdone hops hh hl hok h
    simp only [evTailF, putK_eq, forceK_eq] at h
    simp only [preOk] at hok
    split at h
    · rename_i o ho
      rw [ho] at hok
      rw [getR_arr] at ho
      simp only [Bool.and_eq_true] at hok
      obtain ⟨⟨⟨c1, c2⟩, c3⟩, c4⟩ := hok
      split at h
      · rename_i v S1 hr
        split at h
        · rename_i hq
          have hnd : i ∉ done := fun e => by rw [anyR_mem.2 e] at c3; cases c3
          let c0 : Rec := ⟨i, o, Tm, S, v, S1, done⟩
          have hsole := drawOk_sole c1
          have h1 : Holds (R0 ++ [c0]) (fun _ => True) T (putL Tm o.dst v) := by
            refine ⟨fun c hc _ t hdst ht => ?_, fun t hall => ?_⟩
            · rcases List.mem_append.1 hc with hc | hc
              · rw [putL_get Tm v fun e => hnd ((hdone i).2 ⟨c, hc, soleDst_spec hsole e (hops c hc) hdst⟩)]
                exact hh.1 c hc trivial t hdst ht
              · simp only [List.mem_singleton] at hc
                subst hc
                have hdst' : o.dst = some t := hdst
                simp only [hdst', putL]
                rw [List.getElem?_set_self (by rw [hl]; exact ht)]
            · rw [putL_get Tm v (hall c0 (by simp) trivial)]
              exact hh.2 t fun c hc hdc => hall c (List.mem_append_left _ hc) hdc
          obtain ⟨recs, r1, r2, r3, r4, r5, r6, r7, r8, r9⟩ := ih (openAt md o B) (i :: done) (R0 ++ [c0]) (putL Tm o.dst v) Tf S1 Sf
            (fun x => by
              simp only [List.mem_cons, List.mem_append, hdone]
              constructor
              · rintro (rfl | ⟨d, h1, h2⟩)
                · exact ⟨c0, by simp, rfl⟩
                · exact ⟨d, .inl h1, h2⟩
              · rintro ⟨d, h1 | h1, h2⟩
                · exact .inr ⟨d, h1, h2⟩
                · simp only [List.not_mem_nil, or_false] at h1
                  subst h1
                  exact .inl h2.symm)
            (fun c hc => by
              rcases List.mem_append.1 hc with hc | hc
              · exact hops c hc
              · simp only [List.mem_singleton] at hc; subst hc; exact ho)
            h1 (by rw [putL_len, hl]) c4 h
          refine ⟨c0 :: recs, by simp [r1, c0], r2, ?_, ?_, ?_, ?_, ?_, by simpa using r8, rfl, hr, (by
            rcases (by simpa using hq : quietOp gl (openAt md o B) o Tm = true ∨ sameBlks S S1 (openAt md o B) = true) with hq | hq
            · exact quiet_keeps hq hr
            · exact same_keeps hq), r9⟩
          · intro c hc
            cases hc with
            | head => exact ⟨ho, c1, c2, hnd, hl⟩
            | tail _ hm => exact r3 c hm
          · exact List.Pairwise.cons (fun d hd => ⟨r5 d hd i (by simp), fun x hx => r5 d hd x (List.mem_cons_of_mem _ hx)⟩) r4
          · intro c hc x hx
            cases hc with
            | head => exact hx
            | tail _ hm => exact r5 c hm x (List.mem_cons_of_mem _ hx)
          · intro c hc x hx
            cases hc with
            | head => exact .inl hx
            | tail _ hm =>
              rcases r6 c hm x hx with h1 | ⟨d, h1, h2⟩
              · cases h1 with
                | head => exact .inr ⟨c0, by simp, rfl⟩
                | tail _ h1 => exact .inl h1
              · exact .inr ⟨d, List.mem_cons_of_mem _ h1, h2⟩
          · intro c hc
            cases hc with
            | head =>
              refine ⟨fun d hd hdd t hdst ht => ?_, fun t hall => ?_⟩
              · rcases List.mem_append.1 hd with hd | hd
                · exact hh.1 d hd trivial t hdst ht
                · exfalso
                  cases hd with
                  | head => exact hnd hdd
                  | tail _ hm => exact (r3 d hm).new (r5 d hm d.i (List.mem_cons_of_mem _ hdd))
              · exact hh.2 t fun d hd _ => hall d (List.mem_append_left _ hd) ((hdone d.i).2 ⟨d, hd, rfl⟩)
            | tail _ hm => simpa using r7 c hm
        · cases h
      · cases h
    · cases h
end
end Go.Proofs.XX.Vm
/- A small evaluator over a shadow heap, part 21: such a region, whole. -/
namespace Go.Proofs.XX.Vm
open Go Go.RowKit

section
variable {P : Program} {md : Region.Mode} {ops : Array Oper} {T Tf : List Value} {ro : Option Nat}

theorem heaps_ext {Sg : List Blk} {cl : Caller} (hcl : ClOk P Sg cl) {fl : Nat} (hfl : Sg.length ≤ fl) {md : Region.Mode} {ops : Array Oper} : ∀ (l : List Rec) (B : List (Nat × Nat)) (S Sf : List Blk), Sg.length ≤ S.length → Heaps P Sg.length cl fl md ops B S l Sf → Ext fl S Sf := by
  intro l
  induction l with
  | nil => intro B S Sf _ h; cases h; exact Ext.refl _ _
  | cons c l ih =>
    intro B S Sf hS h
    obtain ⟨h1, h2, h3, h4⟩ := h
    have hx := opRes_ext hcl hfl hS h2
    exact hx.trans (ih _ _ _ (Nat.le_trans hS hx.1) h4)

theorem chained_before : ∀ (l : List Nat) (j : Nat), chained md ops j l = true → ∀ k ∈ l, ∃ x o, (x = j ∨ x ∈ l) ∧ ops[k]? = some o ∧ beforeM md o x = true := by
  intro l
  induction l with
  | nil => intro j _ k hk; cases hk
  | cons i l ih =>
    intro j h k hk
    simp only [chained] at h
    split at h
    · rename_i o ho
      rw [getR_arr] at ho
      simp only [Bool.and_eq_true] at h
      cases hk with
      | head => exact ⟨j, o, .inl rfl, ho, h.1⟩
      | tail _ hm =>
        obtain ⟨x, p, h1, h2, h3⟩ := ih i h.2 k hm
        refine ⟨x, p, .inr ?_, h2, h3⟩
        rcases h1 with rfl | h1
        · exact List.mem_cons_self ..
        · exact List.mem_cons_of_mem _ h1
    · cases h
theorem chainedAll_tail {y : Nat} {l : List Nat} (h : chainedAll md ops (y :: l) = true) : chainedAll md ops l = true := by
  cases l with
  | nil => rfl
  | cons i l =>
    simp only [chainedAll, chained] at h ⊢
    split at h
    · simp only [Bool.and_eq_true] at h; exact h.2
    · cases h

/-- The second part, and what floats. -/
theorem phaseB {Sg : List Blk} {cl : Caller} (hcl : ClOk P Sg cl) {fl : Nat} (hfl : Sg.length ≤ fl) {rP rT : List Rec} (R : RegRecs md ops T Tf (rP ++ rT)) {F : List Nat} {B0 : List (Nat × Nat)} {Sm Sf : List Blk} {a0 : Act} {Q : Exit → Act → World → Prop}
    (hfloat : ∀ c ∈ rP, c.i ∈ F → ∀ (S2 : List Blk), (∀ b, (c.i, b) ∈ B0 → S2[b]? = Sm[b]?) → opRes P Sg.length cl fl ops c.o c.T S2 = some (c.v, S2))
    (htopo : Topo md ops [] ((rP ++ rT).map (·.i))) (hcov : ∀ i, i < ops.size → ∃ c ∈ rP ++ rT, c.i = i) :
    ∀ (fuel : Nat) (listed : Array Bool) (dn rest : List Rec) (φ : Ren) (a : Act) (w : World) (S : List Blk) (B : List (Nat × Nat)), rT = dn ++ rest → Heaps P Sg.length cl fl md ops B S rest Sf → (∀ p ∈ B, S[p.2]? = Sm[p.2]?) → (∀ p ∈ B0, ¬ On listed p.1 → p ∈ B) → RegInv md ops (rP ++ rT) T a0 listed a φ →
      (∀ c ∈ dn, On listed c.i) → (∀ c ∈ rest, ¬ On listed c.i) → (∀ c ∈ rP, c.i ∉ F → On listed c.i) → chainedAll md ops (rest.map (·.i)) = true → left ops.size listed ≤ fuel → Inv Sg φ S w → Fresh φ S.length Sf.length →
      (∀ (ψ : Ren) (a' : Act) (w' : World), Good ψ Sf w' → LRel ψ Tf a'.tmps.toList → a'.defers = a0.defers → Step fl φ S w ψ Sf w' → Q .normal a' w') →
      wpAnyIn (wideAt ro) 0 P md ops Q fuel listed a w := by
  have hpair := List.pairwise_append.1 R.pair
  intro fuel
  have fin : ∀ (listed : Array Bool) (rest : List Rec) (φ : Ren) (a : Act) (w : World) (S : List Blk) (B : List (Nat × Nat)), Heaps P Sg.length cl fl md ops B S rest Sf → RegInv md ops (rP ++ rT) T a0 listed a φ → (∀ c ∈ rest, c ∈ rT) → (∀ c ∈ rest, ¬ On listed c.i) →
      (∀ c ∈ rP ++ rT, On listed c.i) → Inv Sg φ S w → (∀ (ψ : Ren) (a' : Act) (w' : World), Good ψ Sf w' → LRel ψ Tf a'.tmps.toList → a'.defers = a0.defers → Step fl φ S w ψ Sf w' → Q .normal a' w') → Q .normal a w := by
    intro listed rest φ a w S B hh I hsub hoff hall inv hQ
    cases rest with
    | cons c l => exact absurd (hall c (List.mem_append_right _ (hsub c (List.mem_cons_self ..)))) (hoff c (List.mem_cons_self ..))
    | nil =>
      cases hh
      refine hQ φ a w inv.ok.good ⟨by rw [R.len, I.tsize]; simp, fun i v v' hv hv' => ?_⟩ I.defers (Step.refl _ _ _ _)
      obtain ⟨i1, i2⟩ := I.tmp i v' (by simpa using hv')
      by_cases hex : ∃ d ∈ rP ++ rT, d.o.dst = some i
      · obtain ⟨d, hd, hdst⟩ := hex
        have hlt : i < T.length := by rw [← R.len]; exact (List.getElem?_eq_some_iff.1 hv).1
        have := R.end_.1 d hd trivial i hdst hlt
        rw [hv] at this; cases this
        exact i1 d hd (hall d hd) hdst
      · have hno : ∀ d ∈ rP ++ rT, d.o.dst ≠ some i := fun d hd e => hex ⟨d, hd, e⟩
        have := R.end_.2 i fun d hd _ => hno d hd
        exact i2 (fun d hd _ => hno d hd) v (this ▸ hv)
  induction fuel with
  | zero =>
    intro listed dn rest φ a w S B hT hh hB hB0 I h1 h2 h3 h4 h5 inv hf hQ
    have hz := left_zero (Nat.le_zero.1 h5)
    have hall : ∀ c ∈ rP ++ rT, On listed c.i := by
      intro c hc
      have hi : c.i < ops.size := (Array.getElem?_eq_some_iff.1 (R.all c hc).op).1
      have := hz c.i hi
      have hsz := I.size
      unfold On
      simp [Array.getD, hsz, hi] at this
      simp [hsz, hi, this]
    refine ⟨?_, fin listed rest φ a w S B hh I (fun c hc => by rw [hT]; exact List.mem_append_right _ hc) h2 hall inv hQ⟩
    cases hr : Region.ready md ops listed with
    | nil => rfl
    | cons i r =>
      have hi : i ∈ Region.ready md ops listed := by rw [hr]; exact List.mem_cons_self ..
      obtain ⟨o, ho, hoff, _⟩ := mem_ready.1 hi
      have hlt := (Array.getElem?_eq_some_iff.1 ho).1
      have := hz i hlt
      have hlt' : i < listed.size := by rw [I.size]; exact hlt
      rw [Array.getElem?_eq_getElem hlt'] at hoff
      simp [Array.getD, hlt'] at this
      simp [this] at hoff
  | succ fuel ih =>
    intro listed dn rest φ a w S B hT hh hB hB0 I h1 h2 h3 h4 h5 inv hf hQ
    refine ⟨fun hempty => ?_, fun k hk => ?_⟩
    · refine fin listed rest φ a w S B hh I (fun c hc => by rw [hT]; exact List.mem_append_right _ hc) h2 (fun c hc => ?_) inv hQ
      apply Classical.byContradiction
      intro hn
      exact absurd hempty (Topo.first I.size _ [] htopo (by simp) ⟨c.i, List.mem_map_of_mem hc, hn⟩)
    · obtain ⟨p, hp, hpoff, hpe⟩ := mem_ready.1 hk
      have hkoff : ¬ On listed k := fun e => by unfold On at e; rw [hpoff] at e; cases e
      have hklt := (Array.getElem?_eq_some_iff.1 hp).1
      obtain ⟨c, hc, rfl⟩ := hcov k hklt
      have hpo : p = c.o := by have := (R.all c hc).op; rw [hp] at this; cases this; rfl
      subst hpo
      have hci : c.i < listed.size := by rw [I.size]; exact hklt
      have hleft : left ops.size (listed.setIfInBounds c.i true) ≤ fuel := by
        have := left_set I.size hklt (show listed.getD c.i true = false by
          rw [Array.getElem?_eq_getElem hci] at hpoff
          simp [Array.getD, hci]
          simpa using hpoff)
        omega
      have hon : ∀ j, On (listed.setIfInBounds c.i true) j ↔ j = c.i ∨ On listed j := fun j => on_set hci
      rcases List.mem_append.1 hc with hcP | hcT
      · have hF : c.i ∈ F := Classical.byContradiction fun hn => hkoff (h3 c hcP hn)
        refine reg_step hcl R I hc hkoff hpe hfl inv (fun b e1 e2 => by omega) (hfloat c hcP hF S fun b hb => hB (c.i, b) (hB0 _ hb hkoff)) ?_
        intro a' ψ w' I' hg hs
        refine ih _ dn rest ψ a' w' S B hT hh hB (fun p hp hn => hB0 p hp fun e => hn ((hon _).2 (.inr e))) I' (fun d hd => (hon _).2 (.inr (h1 d hd))) (fun d hd e => ?_) (fun d hd hdF => (hon _).2 (.inr (h3 d hd hdF))) h4 hleft (inv.step hfl hs hg) (hs.fresh hf) ?_
        · rcases (hon _).1 e with e | e
          · have hdT : d ∈ rT := by rw [hT]; exact List.mem_append_right _ hd
            have := (hpair.2.2 c hcP d hdT).1
            exact (R.all d (List.mem_append_right _ hdT)).new (e ▸ this)
          · exact h2 d hd e
        · intro χ a'' w'' g1 g2 g3 g4
          exact hQ χ a'' w'' g1 g2 g3 (hs.trans g4 hf)
      · rw [hT] at hcT
        rcases List.mem_append.1 hcT with hcd | hcr
        · exact absurd (h1 c hcd) hkoff
        · cases rest with
          | nil => cases hcr
          | cons c1 rest =>
            obtain ⟨q1, q2, q3, q4⟩ := hh
            have hceq : c = c1 := by
              cases hcr with
              | head => rfl
              | tail _ hm =>
                exfalso
                simp only [List.map_cons, chainedAll] at h4
                obtain ⟨x, o, y1, y2, y3⟩ := chained_before _ _ h4 c.i (List.mem_map_of_mem hm)
                rw [hp] at y2; cases y2
                have hx := hpe x y3
                rcases y1 with rfl | y1
                · exact h2 c1 (List.mem_cons_self ..) hx
                · obtain ⟨d, hd, rfl⟩ := List.mem_map.1 y1
                  exact h2 d (List.mem_cons_of_mem _ hd) hx
            subst hceq
            have hx1 := opRes_ext hcl hfl inv.len q2
            have hx2 := heaps_ext hcl hfl _ _ _ _ (Nat.le_trans inv.len hx1.1) q4
            refine reg_step hcl R I hc hkoff hpe hfl inv (fun b e1 e2 => hf b e1 (Nat.lt_of_lt_of_le e2 hx2.1)) q2 ?_
            intro a' ψ w' I' hg hs
            refine ih _ (dn ++ [c]) rest ψ a' w' c.S' _ (by simpa using hT) q4 (fun p hp => by rw [q3 p hp, hB p (List.mem_filter.1 hp).1]) (fun p hp hn => ?_) I' (fun d hd => ?_) (fun d hd e => ?_) (fun d hd hdF => (hon _).2 (.inr (h3 d hd hdF))) (chainedAll_tail h4) hleft (inv.step hfl hs hg) (hs.fresh hf) ?_
            · have hn' : ¬ On listed p.1 := fun e => hn ((hon _).2 (.inr e))
              refine List.mem_filter.2 ⟨hB0 p hp hn', ?_⟩
              cases hb : beforeM md c.o p.1 with
              | false => rfl
              | true => exact absurd (hpe _ hb) hn'
            · rcases List.mem_append.1 hd with hd | hd
              · exact (hon _).2 (.inr (h1 d hd))
              · simp only [List.mem_singleton] at hd; subst hd; exact (hon _).2 (.inl rfl)
            · rcases (hon _).1 e with e | e
              · have hp2 := hpair.2.1
                rw [hT] at hp2
                have := ((List.pairwise_cons.1 (List.pairwise_append.1 hp2).2.1).1 d hd).1
                have hdT : d ∈ rT := by rw [hT]; exact List.mem_append_right _ (List.mem_cons_of_mem _ hd)
                exact (R.all d (List.mem_append_right _ hdT)).new (e ▸ this)
              · exact h2 d (List.mem_cons_of_mem _ hd) e
            · intro χ a'' w'' g1 g2 g3 g4
              exact hQ χ a'' w'' g1 g2 g3 (hs.trans g4 hf)
end
end Go.Proofs.XX.Vm
/- A small evaluator over a shadow heap, part 22: regions with operations that float. -/
namespace Go.Proofs.XX.Vm
open Go Go.RowKit

section
variable {P : Program} {ro : Option Nat}

theorem splitFloat_eq {md : Region.Mode} {ops : Array Oper} : ∀ (σ done : List Nat), (splitFloat md ops done σ).1 ++ (splitFloat md ops done σ).2 = σ := by
  intro σ
  induction σ with
  | nil => intro done; rfl
  | cons i l ih =>
    intro done
    simp only [splitFloat]
    split
    · split
      · rfl
      · simp [ih (i :: done)]
    · rfl

theorem Topo.append {md : Region.Mode} {ops : Array Oper} : ∀ (l m done : List Nat), Topo md ops done l → Topo md ops (l.reverse ++ done) m → Topo md ops done (l ++ m) := by
  intro l
  induction l with
  | nil => intro m done _ h; simpa using h
  | cons i l ih =>
    intro m done h k
    exact ⟨h.1, ih m (i :: done) h.2 (by simpa using k)⟩

theorem evFloat_wp {Sg : List Blk} {cl : Caller} (hcl : ClOk P Sg cl) {fl : Nat} (hfl : Sg.length ≤ fl) {md : Region.Mode} {ops : Array Oper} {σ : List Nat} {T T' : List Value} {S S' : List Blk}
    (hS : Sg.length ≤ S.length) (h : evFloat P Sg.length cl fl md ops σ T S = some (T', S')) : Ext fl S S' ∧
    ∀ (Q : Exit → Act → World → Prop) (φ : Ren) (a : Act) (w : World), Inv Sg φ S w → LRel φ T a.tmps.toList → Fresh φ S.length S'.length →
      (∀ (ψ : Ren) (a' : Act) (w' : World), Good ψ S' w' → LRel ψ T' a'.tmps.toList → a'.defers = a.defers → Step fl φ S w ψ S' w' → Q .normal a' w') →
      wpAnyIn (wideAt ro) 0 P md ops Q ops.size (Array.replicate ops.size false) a w := by
  unfold evFloat at h
  split at h
  · rename_i pre F tl hst
    obtain ⟨hcov, hsplit, hpreok, htailok, hchain, hfl1, hF⟩ : (List.range ops.size).all (fun i => σ.contains i) = true ∧ pre ++ tl = σ ∧ preOk md ops [] pre = true ∧ preOk md ops pre.reverse tl = true ∧ chainedAll md ops tl = true ∧
        (∀ j ∈ F, floatOk md ops j = true) ∧ F = floatsOf md ops pre tl := by
      unfold floatStatic at hst
      simp only [forceK_eq, allR_eq] at hst
      split at hst
      · rename_i hc
        have hsplit := splitFloat_eq (md := md) (ops := ops) σ []
        generalize splitFloat md ops [] σ = st at hst hsplit
        obtain ⟨p, q⟩ := st
        simp only at hst hsplit
        split at hst
        · rename_i hc2
          simp only [Bool.and_eq_true] at hc2
          cases hst
          refine ⟨?_, hsplit, hc2.1.1.1, hc2.1.1.2, hc2.1.2, List.all_eq_true.1 hc2.2, rfl⟩
          simp only [List.all_eq_true] at hc ⊢
          intro i hi
          simpa using anyR_mem.1 (hc i hi)
        · cases hst
      · cases hst
    split at h
    · rename_i Tm Sm hpre
      split at h
      · rename_i B hB
        obtain ⟨rP, r1, r2, r3, r4, r5, _, r7, r8, r9⟩ := evPre_recs hcl pre [] T Tm S Sm hS hpreok hpre
        have RP : Recs P Sg cl md ops T Tm S Sm rP := ⟨r2, r3, r4, r5, fun c hc x hx => (r7 c hc x hx).resolve_left (by simp), r8, r9⟩
        have hmemP : ∀ x, x ∈ pre.reverse ↔ ∃ d ∈ rP, d.i = x := by
          intro x
          simp only [List.mem_reverse]
          rw [← r1]; simp
        obtain ⟨rT, t1, t2, t3, t4, t5, t6, t7, t8, t9⟩ := tail_recs tl B pre.reverse rP Tm T' Sm S' hmemP (fun c hc => (r4 c hc).op) r9 r3 htailok h
        have hlt : ∀ c ∈ rP, ∀ d ∈ rT, c.i ∈ d.done ∧ c.i ≠ d.i := by
          intro c hc d hd
          have := t5 d hd c.i ((hmemP _).2 ⟨c, hc, rfl⟩)
          exact ⟨this, fun e => (t3 d hd).new (e ▸ this)⟩
        have hsubP : ∀ c ∈ rP, ∀ x ∈ c.done, ∃ d ∈ rP, d.i = x := fun c hc x hx => (r7 c hc x hx).resolve_left (by simp)
        have R : RegRecs md ops T T' (rP ++ rT) := by
          refine ⟨t2, fun c hc => ?_, List.pairwise_append.2 ⟨r5.imp fun h => h.2, t4, fun c hc d hd => ⟨(hlt c hc d hd).1, fun x hx => ?_⟩⟩, fun c hc x hx => ?_, fun c hc => ?_, t8⟩
          · rcases List.mem_append.1 hc with hc | hc
            · exact ⟨(r4 c hc).op, (r4 c hc).draw, (r4 c hc).edges, (r4 c hc).new, (r4 c hc).len⟩
            · exact t3 c hc
          · obtain ⟨e, he, rfl⟩ := hsubP c hc x hx
            exact (hlt e he d hd).1
          · rcases List.mem_append.1 hc with hc | hc
            · obtain ⟨e, he, h1⟩ := hsubP c hc x hx
              exact ⟨e, List.mem_append_left _ he, h1⟩
            · rcases t6 c hc x hx with h1 | ⟨e, he, h1⟩
              · obtain ⟨e, he, h2⟩ := (hmemP x).1 h1
                exact ⟨e, List.mem_append_left _ he, h2⟩
              · exact ⟨e, List.mem_append_right _ he, h1⟩
          · rcases List.mem_append.1 hc with hc | hc
            · refine ⟨fun d hd hdd t hdst ht => ?_, fun t hall => (r8 c hc).2 t fun d hd hdd => hall d (List.mem_append_left _ hd) hdd⟩
              rcases List.mem_append.1 hd with hd | hd
              · exact (r8 c hc).1 d hd hdd t hdst ht
              · obtain ⟨e, he, h1⟩ := hsubP c hc _ hdd
                exact absurd h1 (hlt e he d hd).2
            · exact t7 c hc
        have x2 := heaps_ext hcl hfl _ _ _ _ (Nat.le_trans hS r2.1) t9
        have hcover : ∀ i, i < ops.size → i ∈ pre ∨ i ∈ tl := by
          intro i hi
          have := (List.all_eq_true.1 hcov) i (by simp [hi])
          rw [← hsplit] at this
          simpa using this
        have hfloat : ∀ c ∈ rP, c.i ∈ F → ∀ (S2 : List Blk), (∀ b, (c.i, b) ∈ B → S2[b]? = Sm[b]?) → opRes P Sg.length cl fl ops c.o c.T S2 = some (c.v, S2) := by
          intro c hc hcF S2 hS2
          have rc := r4 c hc
          obtain ⟨o, ho, hk⟩ := floatBlks_spec F B hB c.i hcF
          rw [rc.op] at ho; cases ho
          by_cases hreg : regOnly c.o.op = true
          · exact (opRes_reg hreg rc.res).2 fl S2
          · rcases hk with hk | ⟨ty, t, b, off, k1, k2, k3⟩
            · exact absurd hk hreg
            · have hlo : loadOnly md ops c.o = true := by
                have := hfl1 c.i hcF
                simp only [floatOk, getR_arr, rc.op] at this
                split at this
                · rename_i h1; exact absurd h1 hreg
                · exact this
              simp only [loadOnly, k1] at hlo
              have heq : nthD c.T t = nthD Tm t := by
                rw [nthD_eq, nthD_eq]
                congr 1
                by_cases hex : ∃ d ∈ rP, d.o.dst = some t
                · obtain ⟨d, hd, hdst⟩ := hex
                  have hb := writersR_spec _ _ hlo d.i d.o (by simpa using (r4 d hd).op) hdst
                  have hb' : beforeM md c.o d.i = true := by simpa using hb
                  have hdd := edgesIn_spec rc.edges hb'
                  by_cases ht : t < T.length
                  · rw [(r8 c hc).1 d hd hdd t hdst ht, r9.1 d hd trivial t hdst ht]
                  · rw [List.getElem?_eq_none (show c.T.length ≤ t by rw [rc.len]; exact Nat.le_of_not_lt ht), List.getElem?_eq_none (show Tm.length ≤ t by rw [r3]; exact Nat.le_of_not_lt ht)]
                · have hno : ∀ d ∈ rP, d.o.dst ≠ some t := fun d hd e => hex ⟨d, hd, e⟩
                  rw [(r8 c hc).2 t fun d hd _ => hno d hd, r9.2 t fun d hd _ => hno d hd]
              refine (opRes_load (b := b) (off := off) k1 (by simp only [opd]; rw [heq, k2]) rc.res).2 fl S2 fun hb => ?_
              rw [hS2 b k3, rc.hi.2 b (Nat.lt_of_lt_of_le hb rc.mid.1) (Nat.lt_of_lt_of_le hb rc.mid.1), rc.mid.2 b hb hb]
        refine ⟨⟨Nat.le_trans r2.1 x2.1, fun b e1 e2 => by rw [x2.2 b e1 (Nat.lt_of_lt_of_le e2 r2.1), r2.2 b e2 e2]⟩, ?_⟩
        intro Q φ0 a0 w0 inv0 hT hf hQ
        have finish : ∀ (fuel : Nat) (listed : Array Bool) (a : Act) (φ : Ren) (w : World), PreInv md ops rP T S Sm φ0 a0 w0 listed a φ w → left ops.size listed ≤ fuel → (∀ c ∈ rP, c.i ∉ F → On listed c.i) → wpAnyIn (wideAt ro) 0 P md ops Q fuel listed a w := by
          intro fuel listed a φ w I hl hall
          have hstep : Step fl φ0 S w0 φ Sm w := by
            refine ⟨I.ext, I.caps, fun b r hb => ?_, r2.1, fun b hb d k hk => d k (by rw [← r2.2 b hb hb]; exact hk), fun b e1 e2 => r2.2 b e2 e2, fun r e1 _ => I.frame r e1, I.hsize, I.os, I.tape, I.output⟩
            rcases I.dom b r hb with h1 | ⟨c, hc, _, h2, h3, h4⟩
            · exact .inl h1
            · exact .inr ⟨Nat.le_trans (r4 c hc).lo.1 h2, Nat.lt_of_lt_of_le h3 (r4 c hc).hi.1, .inl h4⟩
          have hinv : Inv Sg φ Sm w := ⟨⟨I.good, fun g hg => I.ext _ _ (inv0.ok.glob g hg)⟩, fun g hg => by
            have hgS : g < S.length := Nat.lt_of_lt_of_le hg hS
            rw [r2.2 g hgS hgS, inv0.base g hg], Nat.le_trans hS r2.1⟩
          have hoffT : ∀ c ∈ rT, ¬ On listed c.i := by
            intro c hc hon
            obtain ⟨d, hd, he⟩ := I.sub c.i hon
            exact (hlt d hd c hc).2 he
          refine phaseB hcl hfl R hfloat ?_ (fun i hi => ?_) fuel listed [] rT φ a w Sm B rfl t9 (fun _ _ => rfl) (fun _ hp _ => hp) ⟨I.size, fun c hc hon => ?_, I.tsize, I.defers, fun t v' hv' => ?_⟩ (by simp) hoffT hall (by rw [t1]; exact hchain) hl hinv (hstep.fresh hf) ?_
          · rw [List.map_append, r1, t1]
            exact Topo.append _ _ _ (topo_pre _ _ hpreok) (by simpa using topo_pre _ _ htailok)
          · rcases hcover i hi with h1 | h1
            · rw [← r1] at h1
              obtain ⟨c, hc, he⟩ := List.mem_map.1 h1
              exact ⟨c, List.mem_append_left _ hc, he⟩
            · rw [← t1] at h1
              obtain ⟨c, hc, he⟩ := List.mem_map.1 h1
              exact ⟨c, List.mem_append_right _ hc, he⟩
          · rcases List.mem_append.1 hc with hc | hc
            · exact I.closed c hc hon
            · exact absurd hon (hoffT c hc)
          · obtain ⟨i1, i2⟩ := I.tmp t v' hv'
            refine ⟨fun c hc hon => ?_, fun hall2 => i2 fun c hc hon => hall2 c (List.mem_append_left _ hc) hon⟩
            rcases List.mem_append.1 hc with hc | hc
            · exact i1 c hc hon
            · exact absurd hon (hoffT c hc)
          · intro ψ a' w' g1 g2 g3 g4
            exact hQ ψ a' w' g1 g2 g3 (hstep.trans g4 hf)
        have main : ∀ (fuel : Nat) (listed : Array Bool) (a : Act) (φ : Ren) (w : World), PreInv md ops rP T S Sm φ0 a0 w0 listed a φ w → left ops.size listed ≤ fuel → wpAnyIn (wideAt ro) 0 P md ops Q fuel listed a w := by
          intro fuel
          induction fuel with
          | zero =>
            intro listed a φ w I hl
            exact finish 0 listed a φ w I hl (by
              intro c hc _
              have hi : c.i < ops.size := (Array.getElem?_eq_some_iff.1 (r4 c hc).op).1
              have := left_zero (Nat.le_zero.1 hl) c.i hi
              have hsz := I.size
              unfold On
              simp [Array.getD, hsz, hi] at this
              simp [hsz, hi, this])
          | succ fuel ih =>
            intro listed a φ w I hl
            by_cases hall : ∀ c ∈ rP, c.i ∉ F → On listed c.i
            · exact finish (fuel + 1) listed a φ w I hl hall
            · obtain ⟨c0, hc0, hcF, hoff0⟩ : ∃ c ∈ rP, c.i ∉ F ∧ ¬ On listed c.i := by
                apply Classical.byContradiction
                intro hno
                exact hall fun c hc h1 => Classical.byContradiction fun hn => hno ⟨c, hc, h1, hn⟩
              refine ⟨fun hempty => ?_, fun k hk => ?_⟩
              · exact absurd hempty (Topo.first I.size pre [] (topo_pre _ _ hpreok) (by simp) ⟨c0.i, by rw [← r1]; exact List.mem_map_of_mem hc0, hoff0⟩)
              · obtain ⟨p, hp, hpoff, hpe⟩ := mem_ready.1 hk
                have hkoff : ¬ On listed k := fun e => by unfold On at e; rw [hpoff] at e; cases e
                have hkpre : k ∈ pre := by
                  rcases hcover k (Array.getElem?_eq_some_iff.1 hp).1 with h1 | h1
                  · exact h1
                  · exfalso
                    cases tl with
                    | nil => cases h1
                    | cons y tl =>
                      cases h1 with
                      | head =>
                        have hcp : c0.i ∈ pre := by rw [← r1]; exact List.mem_map_of_mem hc0
                        have hb : behind md ops p pre.reverse c0.i = true := by
                          apply Classical.byContradiction
                          intro hn
                          apply hcF
                          rw [hF]
                          simp only [floatsOf, getR_arr, hp, List.mem_filter]
                          exact ⟨hcp, by simpa using hn⟩
                        simp only [behind, anyR_eq, Bool.or_eq_true, List.any_eq_true, Bool.and_eq_true] at hb
                        rcases hb with (hb | ⟨k2, _, hb1, hb2⟩) | hb3
                        rotate_right
                        · exact hoff0 (reach_on (fun i q hq hi => by
                            obtain ⟨c2, hc2, rfl⟩ := I.sub i hi
                            have := (r4 c2 hc2).op
                            rw [hq] at this; cases this
                            exact I.closed c2 hc2 hi) 7 p c0.i hb3 hpe)
                        · exact hoff0 (hpe _ hb)
                        · obtain ⟨c2, hc2, rfl⟩ := I.sub k2 (hpe _ hb1)
                          rw [getR_arr, (r4 c2 hc2).op] at hb2
                          exact hoff0 (I.closed c2 hc2 (hpe _ hb1) _ hb2)
                      | tail _ h1 =>
                        simp only [chainedAll] at hchain
                        obtain ⟨x, o, y1, y2, y3⟩ := chained_before _ _ hchain k h1
                        rw [hp] at y2; cases y2
                        obtain ⟨c, hc, hci⟩ := I.sub x (hpe x y3)
                        have hxt : x ∈ y :: tl := by
                          rcases y1 with rfl | y1
                          · exact List.mem_cons_self ..
                          · exact List.mem_cons_of_mem _ y1
                        rw [← t1] at hxt
                        obtain ⟨d, hd, he⟩ := List.mem_map.1 hxt
                        exact (hlt c hc d hd).2 (hci.trans he.symm)
                obtain ⟨c, hc, hci⟩ : ∃ c ∈ rP, c.i = k := by
                  rw [← r1] at hkpre
                  obtain ⟨c, hc, e⟩ := List.mem_map.1 hkpre
                  exact ⟨c, hc, e⟩
                subst hci
                have hpo : p = c.o := by have := (r4 c hc).op; rw [hp] at this; cases this; rfl
                subst hpo
                refine pre_step hcl RP inv0 hf x2.1 I hc hkoff hpe fun a' ψ w' I' => ih _ a' ψ w' I' ?_
                have := left_set I.size (Array.getElem?_eq_some_iff.1 hp).1 (show listed.getD c.i true = false by
                  have hlt : c.i < listed.size := by rw [I.size]; exact (Array.getElem?_eq_some_iff.1 hp).1
                  rw [Array.getElem?_eq_getElem hlt] at hpoff
                  simp [Array.getD, hlt]
                  simpa using hpoff)
                omega
        refine main ops.size _ a0 φ0 w0 ?_ ?_
        · have hoff : ∀ i, ¬ On (Array.replicate ops.size false) i := by
            intro i e
            unfold On at e
            rw [Array.getElem?_replicate] at e
            split at e <;> simp at e
          refine ⟨by simp, fun i hi => absurd hi (hoff i), fun c _ hi => absurd hi (hoff _), inv0.ok.good.grow (fun b hb => r2.2 b hb hb) (fun b e1 e2 => hf b e1 (Nat.lt_of_lt_of_le e2 x2.1)), RExt.refl _, fun _ _ => rfl, fun _ _ e => .inl e, Nat.le_refl _, fun _ _ => rfl, rfl, rfl, rfl, by simpa using hT.1, rfl,
            fun t v' hv' => ⟨fun c _ hi => absurd hi (hoff _), fun _ v hv => hT.2 t v v' hv (by simpa using hv')⟩⟩
        · have : left ops.size (Array.replicate ops.size false) ≤ (List.range ops.size).length := List.countP_le_length
          simpa using this
      · cases h
    · cases h
  · cases h
end
end Go.Proofs.XX.Vm
/- A small evaluator over a shadow heap, part 27: regions in which new variables float too, and what looks at no block stands between the calls. -/
namespace Go.Proofs.XX.Vm
open Go Go.RowKit

def nonReg (c : Rec) : Bool := !regOnly c.o.op

section
variable {P : Program} {md : Region.Mode} {ops : Array Oper} {T Tf : List Value} {ro : Option Nat}

/-- The registers' side of a forced end. -/
structure RegTail (md : Region.Mode) (ops : Array Oper) (T : List Value) (done : List Nat) (R0 : List Rec) (Tf : List Value) (l : List Nat) (recs : List Rec) : Prop where
  map : recs.map (·.i) = l
  len : Tf.length = T.length
  all : ∀ c ∈ recs, RegRec md ops T c
  pair : recs.Pairwise (fun c d => c.i ∈ d.done ∧ ∀ x ∈ c.done, x ∈ d.done)
  sub : ∀ c ∈ recs, ∀ x ∈ done, x ∈ c.done
  done : ∀ c ∈ recs, ∀ x ∈ c.done, x ∈ done ∨ ∃ d ∈ recs, d.i = x
  at_ : ∀ c ∈ recs, Holds (R0 ++ recs) (fun d => d.i ∈ c.done) T c.T
  end_ : Holds (R0 ++ recs) (fun _ => True) T Tf

theorem RegTail.cons {done : List Nat} {R0 : List Rec} {l : List Nat} {recs : List Rec} {c0 : Rec} (hdone : ∀ x, x ∈ done ↔ ∃ d ∈ R0, d.i = x)
    (hh : Holds R0 (fun _ => True) T c0.T) (hl : c0.T.length = T.length) (ho : ops[c0.i]? = some c0.o) (c1 : drawOk md ops c0.o c0.i = true) (c2 : edgesIn md c0.o done = true) (hd : c0.done = done) (hnd : c0.i ∉ done)
    (h : RegTail md ops T (c0.i :: done) (R0 ++ [c0]) Tf l recs) : RegTail md ops T done R0 Tf (c0.i :: l) (c0 :: recs) := by
  obtain ⟨r1, r2, r3, r4, r5, r6, r7, r8⟩ := h
  refine ⟨by simp [r1], r2, ?_, ?_, ?_, ?_, ?_, by simpa using r8⟩
  · intro c hc
    cases hc with
    | head => exact ⟨ho, c1, by rw [hd]; exact c2, by rw [hd]; exact hnd, hl⟩
    | tail _ hm => exact r3 c hm
  · refine List.Pairwise.cons (fun d hm => ⟨r5 d hm c0.i (by simp), fun x hx => r5 d hm x (List.mem_cons_of_mem _ (hd ▸ hx))⟩) r4
  · intro c hc x hx
    cases hc with
    | head => rw [hd]; exact hx
    | tail _ hm => exact r5 c hm x (List.mem_cons_of_mem _ hx)
  · intro c hc x hx
    cases hc with
    | head => exact .inl (hd ▸ hx)
    | tail _ hm =>
      rcases r6 c hm x hx with h1 | ⟨d, h1, h2⟩
      · cases h1 with
        | head => exact .inr ⟨c0, by simp, rfl⟩
        | tail _ h1 => exact .inl h1
      · exact .inr ⟨d, List.mem_cons_of_mem _ h1, h2⟩
  · intro c hc
    cases hc with
    | head =>
      refine ⟨fun d hm hdd t hdst ht => ?_, fun t hall => ?_⟩
      · rcases List.mem_append.1 hm with hm | hm
        · exact hh.1 d hm trivial t hdst ht
        · exfalso
          rw [hd] at hdd
          cases hm with
          | head => exact hnd hdd
          | tail _ hm => exact (r3 d hm).new (r5 d hm d.i (List.mem_cons_of_mem _ hdd))
      · exact hh.2 t fun d hm _ => hall d (List.mem_append_left _ hm) (by rw [hd]; exact (hdone d.i).2 ⟨d, hm, rfl⟩)
    | tail _ hm => simpa using r7 c hm

theorem tail_recsG {gl : Nat} {cl : Caller} {fl : Nat} : ∀ (l : List Nat) (B : List (Nat × Nat)) (done : List Nat) (R0 : List Rec) (Tm Tf : List Value) (S Sf : List Blk), (∀ x, x ∈ done ↔ ∃ d ∈ R0, d.i = x) → (∀ c ∈ R0, ops[c.i]? = some c.o) →
    Holds R0 (fun _ => True) T Tm → Tm.length = T.length → preOk md ops done l = true → evTailG P gl cl fl md ops l B Tm S = some (Tf, Sf) →
    ∃ recs : List Rec, RegTail md ops T done R0 Tf l recs ∧ Heaps P gl cl fl md ops B S (recs.filter nonReg) Sf ∧ (∀ c ∈ recs, regOnly c.o.op = true → ∀ S2 : List Blk, opRes P gl cl fl ops c.o c.T S2 = some (c.v, S2)) := by
  intro l
  induction l with
  | nil =>
    intro B done R0 Tm Tf S Sf _ _ hh hl _ h
    cases h
    exact ⟨[], ⟨rfl, hl, by simp, by simp, by simp, by simp, by simp, by simpa using hh⟩, rfl, by simp⟩
  | cons i l ih =>
    intro B done R0 Tm Tf S Sf hdone hops hh hl hok h
    simp only [preOk] at hok
    cases ho : getR ops.toList i with
    | none => rw [ho] at hok; cases hok
    | some o =>
      rw [ho] at hok
      simp only [Bool.and_eq_true] at hok
      obtain ⟨⟨⟨c1, c2⟩, c3⟩, c4⟩ := hok
      have ho' := ho
      rw [getR_arr] at ho'
      have hnd : i ∉ done := fun e => by rw [anyR_mem.2 e] at c3; cases c3
      have hsole := drawOk_sole c1
      have key : ∀ (v : Value) (S1 : List Blk), let c0 : Rec := ⟨i, o, Tm, S, v, S1, done⟩
          (∀ x, x ∈ i :: done ↔ ∃ d ∈ R0 ++ [c0], d.i = x) ∧ (∀ c ∈ R0 ++ [c0], ops[c.i]? = some c.o) ∧ Holds (R0 ++ [c0]) (fun _ => True) T (putL Tm o.dst v) := by
        intro v S1 c0
        refine ⟨fun x => ?_, fun c hc => ?_, fun c hc _ t hdst ht => ?_, fun t hall => ?_⟩
        · simp only [List.mem_cons, List.mem_append, hdone]
          constructor
          · rintro (rfl | ⟨d, h1, h2⟩)
            · exact ⟨c0, by simp, rfl⟩
            · exact ⟨d, .inl h1, h2⟩
          · rintro ⟨d, h1 | h1, h2⟩
            · exact .inr ⟨d, h1, h2⟩
            · simp only [List.not_mem_nil, or_false] at h1
              subst h1
              exact .inl h2.symm
        · rcases List.mem_append.1 hc with hc | hc
          · exact hops c hc
          · simp only [List.mem_singleton] at hc; subst hc; exact ho'
        · rcases List.mem_append.1 hc with hc | hc
          · rw [putL_get Tm v fun e => hnd ((hdone i).2 ⟨c, hc, soleDst_spec hsole e (hops c hc) hdst⟩)]
            exact hh.1 c hc trivial t hdst ht
          · simp only [List.mem_singleton] at hc
            subst hc
            have hdst' : o.dst = some t := hdst
            simp only [hdst', putL]
            rw [List.getElem?_set_self (by rw [hl]; exact ht)]
        · rw [putL_get Tm v (hall c0 (by simp) trivial)]
          exact hh.2 t fun c hc hdc => hall c (List.mem_append_left _ hc) hdc
      simp only [evTailG, ho, putK_eq, forceK_eq] at h
      cases hr : regOnly o.op with
      | true =>
        rw [hr] at h
        simp only at h
        split at h
        · rename_i v S1 hres
          obtain ⟨rfl, hany⟩ := opRes_reg hr hres
          obtain ⟨k1, k2, k3⟩ := key v S1
          obtain ⟨recs, r, rh, rr⟩ := ih B (i :: done) _ _ Tf _ Sf k1 k2 k3 (by rw [putL_len, hl]) c4 h
          refine ⟨(⟨i, o, Tm, S1, v, S1, done⟩ : Rec) :: recs, RegTail.cons (c0 := ⟨i, o, Tm, S1, v, S1, done⟩) hdone hh hl ho' c1 c2 rfl hnd r, ?_, ?_⟩
          · rw [List.filter_cons_of_neg (by simp [nonReg, hr])]
            exact rh
          · intro c hc hcr S2
            cases hc with
            | head => exact hany fl S2
            | tail _ hm => exact rr c hm hcr S2
        · cases h
      | false =>
        rw [hr] at h
        simp only at h
        split at h
        · rename_i v S1 hres
          split at h
          · rename_i hq
            obtain ⟨k1, k2, k3⟩ := key v S1
            obtain ⟨recs, r, rh, rr⟩ := ih (openAt md o B) (i :: done) _ _ Tf S1 Sf k1 k2 k3 (by rw [putL_len, hl]) c4 h
            refine ⟨(⟨i, o, Tm, S, v, S1, done⟩ : Rec) :: recs, RegTail.cons (c0 := ⟨i, o, Tm, S, v, S1, done⟩) hdone hh hl ho' c1 c2 rfl hnd r, ?_, ?_⟩
            · rw [List.filter_cons_of_pos (by simp [nonReg, hr])]
              exact ⟨rfl, hres, (by
                rcases (by simpa using hq : quietOp gl (openAt md o B) o Tm = true ∨ sameBlks S S1 (openAt md o B) = true) with hq | hq
                · exact quiet_keeps hq hres
                · exact same_keeps hq), rh⟩
            · intro c hc hcr S2
              cases hc with
              | head => exact absurd hcr (by simp [hr])
              | tail _ hm => exact rr c hm hcr S2
          · cases h
        · cases h

theorem chainR_before : ∀ (l : List Nat) (j : Nat), chainR md ops j l = true → ∀ k ∈ l, ∃ x o, (x = j ∨ x ∈ l) ∧ ops[k]? = some o ∧ reach md ops 5 o x = true := by
  intro l
  induction l with
  | nil => intro j _ k hk; cases hk
  | cons i l ih =>
    intro j h k hk
    simp only [chainR] at h
    split at h
    · rename_i o ho
      rw [getR_arr] at ho
      simp only [Bool.and_eq_true] at h
      cases hk with
      | head => exact ⟨j, o, .inl rfl, ho, h.1⟩
      | tail _ hm =>
        obtain ⟨x, p, h1, h2, h3⟩ := ih i h.2 k hm
        refine ⟨x, p, .inr ?_, h2, h3⟩
        rcases h1 with rfl | h1
        · exact List.mem_cons_self ..
        · exact List.mem_cons_of_mem _ h1
    · cases h
theorem chainRAll_tail {y : Nat} {l : List Nat} (h : chainRAll md ops (y :: l) = true) : chainRAll md ops l = true := by
  cases l with
  | nil => rfl
  | cons i l =>
    simp only [chainRAll, chainR] at h ⊢
    split at h
    · simp only [Bool.and_eq_true] at h; exact h.2
    · cases h
/-- The second part, and what floats. -/
theorem phaseG {Sg : List Blk} {cl : Caller} (hcl : ClOk P Sg cl) {fl : Nat} (hfl : Sg.length ≤ fl) {recs rC : List Rec} (R : RegRecs md ops T Tf recs) {Fl : Rec → Prop} {Al : Rec → Nat → Prop} {B0 : List (Nat × Nat)} {S0 Sm Sf : List Blk}
    {φ0 : Ren} {a0 : Act} {w0 : World} {Q : Exit → Act → World → Prop} (hS0 : Sg.length ≤ S0.length) (hsub : ∀ c ∈ rC, c ∈ recs) (hpw : rC.Pairwise fun c d => c.i ∈ d.done)
    (hfloat : ∀ c ∈ recs, Fl c → (∀ (S2 : List Blk), (∀ b, (c.i, b) ∈ B0 → S2[b]? = Sm[b]?) → opRes P Sg.length cl fl ops c.o c.T S2 = some (c.v, S2)) ∨ ∃ b, Al c b)
    (hal : ∀ c b, Al c b → c ∈ recs ∧ (c.i, b) ∈ B0 ∧ S0.length ≤ b ∧ ∃ k, Sm[b]? = some k ∧ ∀ X : List Blk, X.length = b → opRes P Sg.length cl fl ops c.o c.T X = some (c.v, X ++ [k]))
    (hdist : ∀ c d b, Al c b → Al d b → c = d) (hf0 : Fresh φ0 S0.length Sf.length)
    (htopo : Topo md ops [] (recs.map (·.i))) (hcov : ∀ i, i < ops.size → ∃ c ∈ recs, c.i = i)
    (hQ : ∀ (ψ : Ren) (a' : Act) (w' : World), Good ψ Sf w' → LRel ψ Tf a'.tmps.toList → a'.defers = a0.defers → Step fl φ0 S0 w0 ψ Sf w' → Q .normal a' w') :
    ∀ (fuel : Nat) (listed : Array Bool) (dn rest : List Rec) (φ : Ren) (a : Act) (w : World) (S : List Blk) (B : List (Nat × Nat)), rC = dn ++ rest → Heaps P Sg.length cl fl md ops B S rest Sf → (∀ p ∈ B, S[p.2]? = Sm[p.2]?) → (∀ p ∈ B0, ¬ On listed p.1 → p ∈ B) →
      RegInv md ops recs T a0 listed a φ → (∀ c ∈ dn, On listed c.i) → (∀ c ∈ rest, ¬ On listed c.i) → (∀ c ∈ recs, c ∉ rC → ¬ Fl c → On listed c.i) → chainRAll md ops (rest.map (·.i)) = true → left ops.size listed ≤ fuel → Inv Sg φ S w → Fresh φ S.length Sf.length →
      Sm.length ≤ S.length → Step fl φ0 S0 w0 φ S w → (∀ c b, Al c b → ¬ On listed c.i → φ b = none) → wpAnyIn (wideAt ro) 0 P md ops Q fuel listed a w := by
  intro fuel
  have fin : ∀ (listed : Array Bool) (rest : List Rec) (φ : Ren) (a : Act) (w : World) (S : List Blk) (B : List (Nat × Nat)), Heaps P Sg.length cl fl md ops B S rest Sf → RegInv md ops recs T a0 listed a φ → (∀ c ∈ rest, c ∈ rC) → (∀ c ∈ rest, ¬ On listed c.i) →
      (∀ c ∈ recs, On listed c.i) → Inv Sg φ S w → Step fl φ0 S0 w0 φ S w → Q .normal a w := by
    intro listed rest φ a w S B hh I hsub2 hoff hall inv hacc
    cases rest with
    | cons c l => exact absurd (hall c (hsub c (hsub2 c (List.mem_cons_self ..)))) (hoff c (List.mem_cons_self ..))
    | nil =>
      cases hh
      refine hQ φ a w inv.ok.good ⟨by rw [R.len, I.tsize]; simp, fun i v v' hv hv' => ?_⟩ I.defers hacc
      obtain ⟨i1, i2⟩ := I.tmp i v' (by simpa using hv')
      by_cases hex : ∃ d ∈ recs, d.o.dst = some i
      · obtain ⟨d, hd, hdst⟩ := hex
        have hlt : i < T.length := by rw [← R.len]; exact (List.getElem?_eq_some_iff.1 hv).1
        have := R.end_.1 d hd trivial i hdst hlt
        rw [hv] at this; cases this
        exact i1 d hd (hall d hd) hdst
      · have hno : ∀ d ∈ recs, d.o.dst ≠ some i := fun d hd e => hex ⟨d, hd, e⟩
        have := R.end_.2 i fun d hd _ => hno d hd
        exact i2 (fun d hd _ => hno d hd) v (this ▸ hv)
  induction fuel with
  | zero =>
    intro listed dn rest φ a w S B hT hh hB hB0 I h1 h2 h3 h4 h5 inv hf hm hacc hnone
    have hz := left_zero (Nat.le_zero.1 h5)
    have hall : ∀ c ∈ recs, On listed c.i := by
      intro c hc
      have hi : c.i < ops.size := (Array.getElem?_eq_some_iff.1 (R.all c hc).op).1
      have := hz c.i hi
      have hsz := I.size
      unfold On
      simp [Array.getD, hsz, hi] at this
      simp [hsz, hi, this]
    refine ⟨?_, fin listed rest φ a w S B hh I (fun c hc => by rw [hT]; exact List.mem_append_right _ hc) h2 hall inv hacc⟩
    cases hr : Region.ready md ops listed with
    | nil => rfl
    | cons i r =>
      have hi : i ∈ Region.ready md ops listed := by rw [hr]; exact List.mem_cons_self ..
      obtain ⟨o, ho, hoff, _⟩ := mem_ready.1 hi
      have hlt := (Array.getElem?_eq_some_iff.1 ho).1
      have := hz i hlt
      have hlt' : i < listed.size := by rw [I.size]; exact hlt
      rw [Array.getElem?_eq_getElem hlt'] at hoff
      simp [Array.getD, hlt'] at this
      simp [this] at hoff
  | succ fuel ih =>
    intro listed dn rest φ a w S B hT hh hB hB0 I h1 h2 h3 h4 h5 inv hf hm hacc hnone
    refine ⟨fun hempty => ?_, fun k hk => ?_⟩
    · refine fin listed rest φ a w S B hh I (fun c hc => by rw [hT]; exact List.mem_append_right _ hc) h2 (fun c hc => ?_) inv hacc
      apply Classical.byContradiction
      intro hn
      exact absurd hempty (Topo.first I.size _ [] htopo (by simp) ⟨c.i, List.mem_map_of_mem hc, hn⟩)
    · obtain ⟨p, hp, hpoff, hpe⟩ := mem_ready.1 hk
      have hkoff : ¬ On listed k := fun e => by unfold On at e; rw [hpoff] at e; cases e
      have hklt := (Array.getElem?_eq_some_iff.1 hp).1
      obtain ⟨c, hc, rfl⟩ := hcov k hklt
      have hpo : p = c.o := by have := (R.all c hc).op; rw [hp] at this; cases this; rfl
      subst hpo
      have hci : c.i < listed.size := by rw [I.size]; exact hklt
      have hleft : left ops.size (listed.setIfInBounds c.i true) ≤ fuel := by
        have := left_set I.size hklt (show listed.getD c.i true = false by
          rw [Array.getElem?_eq_getElem hci] at hpoff
          simp [Array.getD, hci]
          simpa using hpoff)
        omega
      have hon : ∀ j, On (listed.setIfInBounds c.i true) j ↔ j = c.i ∨ On listed j := fun j => on_set hci
      by_cases hcC : c ∈ rC
      · have hcC2 := hcC
        rw [hT] at hcC2
        rcases List.mem_append.1 hcC2 with hcd | hcr
        · exact absurd (h1 c hcd) hkoff
        · cases rest with
          | nil => cases hcr
          | cons c1 rest =>
            obtain ⟨q1, q2, q3, q4⟩ := hh
            have hceq : c = c1 := by
              cases hcr with
              | head => rfl
              | tail _ hm =>
                exfalso
                simp only [List.map_cons, chainRAll] at h4
                obtain ⟨x, o, y1, y2, y3⟩ := chainR_before _ _ h4 c.i (List.mem_map_of_mem hm)
                rw [hp] at y2; cases y2
                have hx := reach_on (listed := listed) (fun i p hi hio => by
                  obtain ⟨d, hd, he⟩ := hcov i (Array.getElem?_eq_some_iff.1 hi).1
                  subst he
                  have := (R.all d hd).op
                  rw [hi] at this; cases this
                  exact I.closed d hd hio) _ _ _ y3 hpe
                rcases y1 with rfl | y1
                · exact h2 c1 (List.mem_cons_self ..) hx
                · obtain ⟨d, hd, rfl⟩ := List.mem_map.1 y1
                  exact h2 d (List.mem_cons_of_mem _ hd) hx
            subst hceq
            have hx1 := opRes_ext hcl hfl inv.len q2
            have hx2 := heaps_ext hcl hfl _ _ _ _ (Nat.le_trans inv.len hx1.1) q4
            refine reg_step hcl R I hc hkoff hpe hfl inv (fun b e1 e2 => hf b e1 (Nat.lt_of_lt_of_le e2 hx2.1)) q2 ?_
            intro a' ψ w' I' hg hs
            refine ih _ (dn ++ [c]) rest ψ a' w' c.S' _ (by simpa using hT) q4 (fun p hp => by rw [q3 p hp, hB p (List.mem_filter.1 hp).1]) (fun p hp hn => ?_) I' (fun d hd => ?_) (fun d hd e => ?_) (fun d hd hdC hdF => (hon _).2 (.inr (h3 d hd hdC hdF))) (chainRAll_tail h4) hleft (inv.step hfl hs hg) (hs.fresh hf)
              (Nat.le_trans hm hx1.1) (hacc.trans hs fun b e1 e2 => hf0 b e1 (Nat.lt_of_lt_of_le e2 hx2.1)) (fun d b hd hn => ?_)
            · have hn' : ¬ On listed p.1 := fun e => hn ((hon _).2 (.inr e))
              refine List.mem_filter.2 ⟨hB0 p hp hn', ?_⟩
              cases hb : beforeM md c.o p.1 with
              | false => rfl
              | true => exact absurd (hpe _ hb) hn'
            · rcases List.mem_append.1 hd with hd | hd
              · exact (hon _).2 (.inr (h1 d hd))
              · simp only [List.mem_singleton] at hd; subst hd; exact (hon _).2 (.inl rfl)
            · rcases (hon _).1 e with e | e
              · have hp2 := hpw
                rw [hT] at hp2
                have := (List.pairwise_cons.1 (List.pairwise_append.1 hp2).2.1).1 d hd
                have hdT : d ∈ rC := by rw [hT]; exact List.mem_append_right _ (List.mem_cons_of_mem _ hd)
                exact (R.all d (hsub d hdT)).new (e ▸ this)
              · exact h2 d (List.mem_cons_of_mem _ hd) e
            · have hb := hnone d b hd fun e => hn ((hon _).2 (.inr e))
              obtain ⟨_, _, _, k, hk2, _⟩ := hal d b hd
              cases hψ : ψ b with
              | none => rfl
              | some r =>
                rcases hs.dom b r hψ with e | ⟨e, _, _⟩
                · rw [hb] at e; cases e
                · have := (List.getElem?_eq_some_iff.1 hk2).1
                  omega
      · have hF : Fl c := Classical.byContradiction fun hn => hkoff (h3 c hc hcC hn)
        have hkeep2 : ∀ d ∈ rest, ¬ On (listed.setIfInBounds c.i true) d.i := by
          intro d hd e
          have hdC : d ∈ rC := by rw [hT]; exact List.mem_append_right _ hd
          rcases (hon _).1 e with e | e
          · have : d = c := R.same (hsub d hdC) hc e
            subst this
            exact hcC hdC
          · exact h2 d hd e
        rcases hfloat c hc hF with hq | ⟨b, hab⟩
        · refine reg_step hcl R I hc hkoff hpe hfl inv (fun b e1 e2 => by omega) (hq S fun b hb => hB (c.i, b) (hB0 _ hb hkoff)) ?_
          intro a' ψ w' I' hg hs
          refine ih _ dn rest ψ a' w' S B hT hh hB (fun p hp hn => hB0 p hp fun e => hn ((hon _).2 (.inr e))) I' (fun d hd => (hon _).2 (.inr (h1 d hd))) hkeep2 (fun d hd hdC hdF => (hon _).2 (.inr (h3 d hd hdC hdF))) h4 hleft (inv.step hfl hs hg) (hs.fresh hf)
            hm (hacc.trans hs fun b e1 e2 => hf0 b e1 (Nat.lt_of_lt_of_le e2 (heaps_ext hcl hfl _ _ _ _ inv.len hh).1)) (fun d b hd hn => ?_)
          have hb := hnone d b hd fun e => hn ((hon _).2 (.inr e))
          cases hψ : ψ b with
          | none => rfl
          | some r =>
            rcases hs.dom b r hψ with e | ⟨e1, e2, _⟩
            · rw [hb] at e; cases e
            · omega
        · obtain ⟨_, hbB, hbS, k, hk2, hX⟩ := hal c b hab
          have hbm := (List.getElem?_eq_some_iff.1 hk2).1
          have hbl : b < S.length := Nat.lt_of_lt_of_le hbm hm
          have hxl : (S.take b).length = b := by simp; omega
          have htk : ∀ x, x < b → (S.take b)[x]? = S[x]? := fun x hx => by rw [List.getElem?_take, if_pos hx]
          have hSb : S[b]? = some k := by rw [hB (c.i, b) (hB0 _ hbB hkoff), hk2]
          have hsf := (heaps_ext hcl hfl _ _ _ _ inv.len hh).1
          have invX : Inv Sg φ (S.take b) w := by
            refine ⟨⟨inv.ok.good.pre fun x kx hx => ?_, inv.ok.glob⟩, fun g hg => ?_, by rw [hxl]; omega⟩
            · rw [List.getElem?_take] at hx
              split at hx
              · exact hx
              · cases hx
            · rw [htk g (by omega), inv.base g hg]
          refine reg_step hcl R I hc hkoff hpe hfl invX (fun x e1 e2 => ?_) (hX _ hxl) ?_
          · rw [hxl] at e1
            simp [hxl] at e2
            have : x = b := by omega
            subst this
            exact hnone c x hab hkoff
          · intro a' ψ w' I' hg hs
            have hdom : ∀ x r, ψ x = some r → φ x = some r ∨ (x = b ∧ w.heap.size ≤ r) := by
              intro x r hr
              rcases hs.dom x r hr with e | ⟨e1, e2, e3⟩
              · exact .inl e
              · rw [hxl] at e1
                simp [hxl] at e2
                refine .inr ⟨by omega, e3.resolve_right fun ⟨c, _, c2, _, c4, c5⟩ => c4 (c5.pre fun y hy => ?_)⟩
                rw [List.getElem?_append_left c2]; exact hy
            have hg2 : Good ψ S w' := by
              have hSeq : ∀ x, x ≤ b → (S.take b ++ [k])[x]? = S[x]? := by
                intro x hx
                rcases Nat.lt_or_ge x b with hlt | hge
                · rw [List.getElem?_append_left (by rw [hxl]; exact hlt), htk x hlt]
                · have : x = b := by omega
                  subst this
                  rw [List.getElem?_append_right (by rw [hxl]; exact Nat.le_refl _), hxl, hSb]; simp
              have up : ∀ x, x ≤ b → Dead (S.take b ++ [k]) x → Dead S x := fun x hx d y hy => d y (by rw [hSeq x hx]; exact hy)
              refine ⟨fun x kx r hx hr => ?_, hg.low, fun x y r hx hy => ?_, hg.zero, fun x kx r hx hr => ?_⟩
              rotate_left
              · have lt : ∀ x, x ≠ b → ψ x = some r → φ x = some r := fun x hx hr => (hdom x r hr).resolve_right fun e => hx e.1
                by_cases ex : x = b <;> by_cases ey : y = b
                · exact .inl (ex.trans ey.symm)
                · rcases hdom x r hx with e | ⟨_, e⟩
                  · exact inv.ok.good.inj x y r e (lt y ey hy)
                  · have := inv.ok.good.low y r (lt y ey hy); omega
                · rcases hdom y r hy with e | ⟨_, e⟩
                  · exact inv.ok.good.inj x y r (lt x ex hx) e
                  · have := inv.ok.good.low x r (lt x ex hx); omega
                · exact inv.ok.good.inj x y r (lt x ex hx) (lt y ey hy)
              · rcases Nat.lt_or_ge b x with hgt | hle
                · rcases hdom x r hr with e | ⟨e, _⟩
                  · by_cases hdx : Dead S x
                    · unfold Room; rw [hdx kx hx]; trivial
                    · have hlow := inv.ok.good.low x r e
                      refine (inv.ok.good.room x kx r hx e).ext (hs.caps r hlow) (hs.frame r hlow fun y y1 y2 y3 ey => ?_)
                      rw [hxl] at y2
                      rcases inv.ok.good.inj _ _ _ ey e with h | h | h
                      · omega
                      · exact y3 (h.pre fun z hz => by rw [htk y y2] at hz; exact hz)
                      · exact hdx h
                  · omega
                · exact hg.room x kx r (by rw [hSeq x hle]; exact hx) hr
              rcases Nat.lt_trichotomy x b with hlt | he | hgt
              · exact hg.blk x kx r (by rw [List.getElem?_append_left (by rw [hxl]; exact hlt), htk x hlt]; exact hx) hr
              · have hkx : k = kx := by rw [he, hSb] at hx; exact Option.some.inj hx
                exact hg.blk x kx r (by rw [he, List.getElem?_append_right (by rw [hxl]; exact Nat.le_refl _), hxl]; simp [hkx]) hr
              · rcases hdom x r hr with e | ⟨e, _⟩
                · obtain ⟨o, o1, o2⟩ := inv.ok.good.blk x kx r hx e
                  by_cases hdx : Dead S x
                  · have hlow := hg.low x r hr
                    exact ⟨_, Array.getElem?_eq_getElem hlow, by unfold BRel; rw [hdx kx hx]; trivial⟩
                  · refine ⟨o, ?_, o2.mono hs.ext⟩
                    rw [hs.frame r (inv.ok.good.low x r e) fun y y1 y2 y3 ey => ?_]
                    · exact o1
                    · rw [hxl] at y2
                      rcases inv.ok.good.inj _ _ _ ey e with h | h | h
                      · omega
                      · exact y3 (h.pre fun z hz => by rw [htk y y2] at hz; exact hz)
                      · exact hdx h
                · omega
            have hacc2 : Step fl φ0 S0 w0 ψ S w' := by
              refine ⟨hacc.ext.trans hs.ext, fun r hr => (hs.caps r (Nat.lt_of_lt_of_le hr hacc.size)).trans (hacc.caps r hr), fun x r e => ?_, hacc.len, hacc.dead, hacc.keep, fun r hr hall => ?_, Nat.le_trans hacc.size hs.size, hs.os.trans hacc.os, hs.tape.trans hacc.tape, hs.output.trans hacc.output⟩
              · rcases hdom x r e with e | ⟨rfl, e2⟩
                · exact hacc.dom x r e
                · exact .inr ⟨hbS, hbl, .inl (Nat.le_trans hacc.size e2)⟩
              · rw [hs.frame r (Nat.lt_of_lt_of_le hr hacc.size) fun y y1 y2 y3 ey => ?_]
                · exact hacc.frame r hr hall
                · rw [hxl] at y2
                  rcases hacc.dom y r ey with e | ⟨_, _, e | ⟨c, c1, c2, c3, c4, _⟩⟩
                  rotate_right
                  · exact hall c c1 c2 c4 c3
                  · by_cases hy : y < S0.length
                    · exact hall y y1 hy (fun d => y3 ((hacc.dead y hy d).pre fun z hz => by rw [htk y y2] at hz; exact hz)) e
                    · have := hf0 y (by omega) (by omega)
                      rw [this] at e; cases e
                  · omega
            have inv2 : Inv Sg ψ S w' := ⟨⟨hg2, fun g hg => hs.ext _ _ (inv.ok.glob g hg)⟩, inv.base, inv.len⟩
            refine ih _ dn rest ψ a' w' S B hT hh hB (fun p hp hn => hB0 p hp fun e => hn ((hon _).2 (.inr e))) I' (fun d hd => (hon _).2 (.inr (h1 d hd))) hkeep2 (fun d hd hdC hdF => (hon _).2 (.inr (h3 d hd hdC hdF))) h4 hleft inv2 (fun x e1 e2 => ?_)
              hm hacc2 (fun d x hd hn => ?_)
            · cases hψ : ψ x with
              | none => rfl
              | some r =>
                rcases hdom x r hψ with e | ⟨e, _⟩
                · rw [hf x e1 e2] at e; cases e
                · omega
            · cases hψ : ψ x with
              | none => rfl
              | some r =>
                rcases hdom x r hψ with e | ⟨rfl, _⟩
                · rw [hnone d x hd fun e => hn ((hon _).2 (.inr e))] at e; cases e
                · have := hdist c d x hab hd
                  subst this
                  exact absurd ((hon _).2 (.inl rfl)) hn
end
end Go.Proofs.XX.Vm
/- A small evaluator over a shadow heap, part 28: such regions, whole. -/
namespace Go.Proofs.XX.Vm
open Go Go.RowKit

section
variable {P : Program} {ro : Option Nat}

theorem chainG_filter {md : Region.Mode} {ops : Array Oper} : ∀ (recs : List Rec) (j : Nat), (∀ c ∈ recs, ops[c.i]? = some c.o) → chainG md ops j (recs.map (·.i)) = true → chainR md ops j ((recs.filter nonReg).map (·.i)) = true := by
  intro recs
  induction recs with
  | nil => intro j _ _; rfl
  | cons c l ih =>
    intro j hops h
    have ho := hops c (List.mem_cons_self ..)
    simp only [List.map_cons, chainG, getR_arr, ho] at h
    cases hr : regOnly c.o.op with
    | true =>
      rw [hr] at h
      rw [List.filter_cons_of_neg (by simp [nonReg, hr])]
      exact ih j (fun d hd => hops d (List.mem_cons_of_mem _ hd)) h
    | false =>
      rw [hr] at h
      simp only [Bool.and_eq_true] at h
      rw [List.filter_cons_of_pos (by simp [nonReg, hr])]
      simp only [List.map_cons, chainR, getR_arr, ho, Bool.and_eq_true]
      exact ⟨h.1, ih c.i (fun d hd => hops d (List.mem_cons_of_mem _ hd)) h.2⟩
theorem headG_all {md : Region.Mode} {ops : Array Oper} {recs : List Rec} (hops : ∀ c ∈ recs, ops[c.i]? = some c.o) (h : headG md ops (recs.map (·.i)) = true) : chainRAll md ops ((recs.filter nonReg).map (·.i)) = true := by
  cases recs with
  | nil => rfl
  | cons c l =>
    simp only [List.map_cons, headG, getR_arr, hops c (List.mem_cons_self ..), Bool.and_eq_true] at h
    rw [List.filter_cons_of_pos (by simpa [nonReg] using h.1)]
    exact chainG_filter l c.i (fun d hd => hops d (List.mem_cons_of_mem _ hd)) h.2
theorem splitG_eq {md : Region.Mode} {ops : Array Oper} : ∀ (σ done : List Nat), (splitG md ops done σ).1 ++ (splitG md ops done σ).2 = σ := by
  intro σ
  induction σ with
  | nil => intro done; rfl
  | cons i l ih =>
    intro done
    simp only [splitG]
    split
    · split
      · rfl
      · simp [ih (i :: done)]
    · rfl
theorem pair_two {p : Rec → Rec → Prop} {c d : Rec} : ∀ l : List Rec, l.Pairwise p → c ∈ l → d ∈ l → c = d ∨ p c d ∨ p d c := by
  intro l
  induction l with
  | nil => intro _ h; cases h
  | cons x l ih =>
    intro hp hc hd
    rw [List.pairwise_cons] at hp
    cases hc with
    | head =>
      cases hd with
      | head => exact .inl rfl
      | tail _ hd => exact .inr (.inl (hp.1 d hd))
    | tail _ hc =>
      cases hd with
      | head => exact .inr (.inr (hp.1 c hc))
      | tail _ hd => exact ih hp.2 hc hd
theorem evOp_new {gl fl : Nat} {o : Oper} {T : List Value} {S S1 : List Blk} {v : Value} {b : Nat} (ho : isNew o.op = true) (ha : addrB v = some b)
    (h : evOp P gl fl o T S = some (.val v S1)) : b = S.length ∧ ∃ k, S1 = S ++ [k] ∧ ∀ (fl2 : Nat) (X : List Blk), X.length = b → evOp P gl fl2 o T X = some (.val v (X ++ [k])) := by
  obtain ⟨dst, op, ty, pos, after, guard⟩ := o
  simp only at ho
  cases op
  case alloc t =>
    simp only [evOp_eqO, evOpO, forceK_eq] at h ⊢
    cases hz : zeroT P t with
    | none => rw [hz] at h; cases h
    | some z =>
      rw [hz] at h
      by_cases hs : z.cells.toList.all scalar = true
      · simp only [if_pos hs, Option.some.injEq, R.val.injEq] at h ⊢
        obtain ⟨rfl, rfl⟩ := h
        simp only [addrB, Option.some.injEq] at ha
        exact ⟨ha.symm, _, rfl, fun fl2 X hX => ⟨by rw [hX, ha], rfl⟩⟩
      · simp only [if_neg hs] at h; cases h
  case box t x =>
    simp only [evOp_eqO, evOpO, forceK_eq] at h ⊢
    cases hx : opd gl T x with
    | none => rw [hx] at h; cases h
    | some u =>
      rw [hx] at h
      by_cases hj : isJ u = true
      · simp only [if_pos hj] at h; cases h
      · simp only [if_neg hj, Option.some.injEq, R.val.injEq] at h ⊢
        obtain ⟨rfl, rfl⟩ := h
        simp only [addrB, Option.some.injEq] at ha
        exact ⟨ha.symm, _, rfl, fun fl2 X hX => ⟨by rw [hX, ha], rfl⟩⟩
  case buildSlice t len parts =>
    simp only [evOp_eqO, evOpO, forceK_eq] at h ⊢
    split at h
    · rename_i vs hvs
      split at h
      · rename_i hall
        split at h
        · rename_i el cells hc
          split at h
          · rename_i hs
            cases h
            simp only [addrB, Option.some.injEq] at ha
            exact ⟨ha.symm, _, rfl, fun fl2 X hX => by rw [if_pos hall, if_pos hs, hX, ha]⟩
          · cases h
        · cases h
      · rename_i hall
        split at h
        · cases h
        · rename_i hj
          split at h
          · rename_i hz
            split at h
            · rename_i el cells hc
              cases h
              simp only [addrB, Option.some.injEq] at ha
              exact ⟨ha.symm, _, rfl, fun fl2 X hX => by rw [if_neg hall, if_neg hj, if_pos hz, hX, ha]⟩
            · cases h
          · cases h
    · cases h
  case makeSlice t l c =>
    simp only [evOp_eqO, evOpO, forceK_eq] at h ⊢
    split at h
    · split at h
      · split at h
        · rename_i hs
          cases h
          simp only [addrB, Option.some.injEq] at ha
          exact ⟨ha.symm, _, rfl, fun fl2 X hX => by rw [if_pos hs, hX, ha]⟩
        · cases h
      · cases h
    · cases h
  all_goals cases ho
theorem opRes_new {gl fl : Nat} {cl : Caller} {ops : Array Oper} {o : Oper} {T : List Value} {S S1 : List Blk} {v : Value} {b : Nat} (ho : isNew o.op = true) (ha : addrB v = some b)
    (h : opRes P gl cl fl ops o T S = some (v, S1)) : b = S.length ∧ ∃ k, S1 = S ++ [k] ∧ ∀ (fl2 : Nat) (X : List Blk), X.length = b → opRes P gl cl fl2 ops o T X = some (v, X ++ [k]) := by
  unfold opRes at h ⊢
  cases hw : wantedS ops T o with
  | none => rw [hw] at h; cases h
  | some β =>
    rw [hw] at h
    cases β with
    | false => cases h; cases ha
    | true =>
      simp only at h ⊢
      split at h
      · rename_i u S2 he
        cases h
        obtain ⟨h1, k, h2, h3⟩ := evOp_new ho ha he
        exact ⟨h1, k, h2, fun fl2 X hX => by rw [h3 fl2 X hX]⟩
      · rename_i f args he
        exfalso
        obtain ⟨dst, op, ty, pos, after, guard⟩ := o
        simp only at ho
        cases op
        all_goals first
          | (cases ho; done)
          | (simp only [evOp_eqO, evOpO, forceK_eq] at he; repeat' split at he
             all_goals cases he)
      · rename_i f args he
        exfalso
        obtain ⟨dst, op, ty, pos, after, guard⟩ := o
        simp only at ho
        cases op
        all_goals first
          | (cases ho; done)
          | (simp only [evOp_eqO, evOpO, forceK_eq] at he; repeat' split at he
             all_goals cases he)
      · cases h
theorem blksG_spec {ops : Array Oper} {T : List Value} : ∀ (F : List Nat) (B : List (Nat × Nat)), blksG ops T F = some B → ∀ j ∈ F, ∃ o, ops[j]? = some o ∧
    (regOnly o.op = true ∨ (∃ ty t b off, o.op = .load ty (.tmp t) ∧ nthD T t = .pointer (some ⟨b, off, none⟩) ∧ (j, b) ∈ B) ∨ ∃ d b, isNew o.op = true ∧ o.dst = some d ∧ addrB (nthD T d) = some b ∧ (j, b) ∈ B) := by
  intro F
  induction F with
  | nil => intro B _ j hj; cases hj
  | cons i F ih =>
    intro B h j hj
    simp only [blksG] at h
    split at h
    · rename_i o B1 ho hB
      rw [getR_arr] at ho
      have tl : ∀ B2 : List (Nat × Nat), (∀ b ∈ B1, b ∈ B2) → j ∈ F → ∃ o, ops[j]? = some o ∧
          (regOnly o.op = true ∨ (∃ ty t b off, o.op = .load ty (.tmp t) ∧ nthD T t = .pointer (some ⟨b, off, none⟩) ∧ (j, b) ∈ B2) ∨ ∃ d b, isNew o.op = true ∧ o.dst = some d ∧ addrB (nthD T d) = some b ∧ (j, b) ∈ B2) := by
        intro B2 hs hm
        obtain ⟨o, h1, h2⟩ := ih B1 hB j hm
        refine ⟨o, h1, ?_⟩
        rcases h2 with h2 | ⟨ty, t, b, off, h2, h3, h4⟩ | ⟨d, b, h2, h3, h4, h5⟩
        · exact .inl h2
        · exact .inr (.inl ⟨ty, t, b, off, h2, h3, hs _ h4⟩)
        · exact .inr (.inr ⟨d, b, h2, h3, h4, hs _ h5⟩)
      split at h
      · rename_i hr
        cases h
        cases hj with
        | head => exact ⟨o, ho, .inl hr⟩
        | tail _ hm => exact tl _ (fun _ h => h) hm
      · split at h
        · rename_i ty t hop
          split at h
          · rename_i b off hn
            cases h
            cases hj with
            | head => exact ⟨o, ho, .inr (.inl ⟨ty, t, b, off, hop, hn, List.mem_cons_self ..⟩)⟩
            | tail _ hm => exact tl _ (fun _ h => List.mem_cons_of_mem _ h) hm
          · cases h
        · split at h
          · rename_i hnew
            split at h
            · rename_i d hd
              split at h
              · rename_i b hn
                cases h
                cases hj with
                | head => exact ⟨o, ho, .inr (.inr ⟨d, b, hnew, hd, hn, List.mem_cons_self ..⟩)⟩
                | tail _ hm => exact tl _ (fun _ h => List.mem_cons_of_mem _ h) hm
              · cases h
            · cases h
          · cases h
    · cases h

theorem evFloatG_wp {Sg : List Blk} {cl : Caller} (hcl : ClOk P Sg cl) {fl : Nat} (hfl : Sg.length ≤ fl) {md : Region.Mode} {ops : Array Oper} {σ : List Nat} {T T' : List Value} {S S' : List Blk}
    (hS : Sg.length ≤ S.length) (h : evFloatG P Sg.length cl fl md ops σ T S = some (T', S')) : Ext fl S S' ∧
    ∀ (Q : Exit → Act → World → Prop) (φ : Ren) (a : Act) (w : World), Inv Sg φ S w → LRel φ T a.tmps.toList → Fresh φ S.length S'.length →
      (∀ (ψ : Ren) (a' : Act) (w' : World), Good ψ S' w' → LRel ψ T' a'.tmps.toList → a'.defers = a.defers → Step fl φ S w ψ S' w' → Q .normal a' w') →
      wpAnyIn (wideAt ro) 0 P md ops Q ops.size (Array.replicate ops.size false) a w := by
  unfold evFloatG at h
  split at h
  · rename_i pre F tl hst
    obtain ⟨hcov, hsplit, hpreok, htailok, hhead, hlate, hfl1, hF⟩ : (List.range ops.size).all (fun i => σ.contains i) = true ∧ pre ++ tl = σ ∧ preOk md ops [] pre = true ∧ preOk md ops pre.reverse tl = true ∧ headG md ops tl = true ∧ lateG md ops tl = true ∧
        (∀ j ∈ F, (floatOk md ops j || allocB ops j) = true) ∧ F = floatsOf md ops pre tl := by
      unfold staticG at hst
      simp only [forceK_eq, allR_eq] at hst
      split at hst
      · rename_i hc
        have hsplit := splitG_eq (md := md) (ops := ops) σ []
        generalize splitG md ops [] σ = st at hst hsplit
        obtain ⟨p, q⟩ := st
        simp only at hst hsplit
        split at hst
        · rename_i hc2
          simp only [Bool.and_eq_true] at hc2
          cases hst
          refine ⟨?_, hsplit, hc2.1, hc2.2.1, hc2.2.2.1, hc2.2.2.2.1, fun j hj => (List.all_eq_true.1 hc2.2.2.2.2) j hj, rfl⟩
          simp only [List.all_eq_true] at hc ⊢
          intro i hi
          simpa using anyR_mem.1 (hc i hi)
        · cases hst
      · cases hst
    split at h
    · rename_i Tm Sm hpre
      split at h
      · rename_i B hB
        obtain ⟨rP, r1, r2, r3, r4, r5, _, r7, r8, r9⟩ := evPre_recs hcl pre [] T Tm S Sm hS hpreok hpre
        have RP : Recs P Sg cl md ops T Tm S Sm rP := ⟨r2, r3, r4, r5, fun c hc x hx => (r7 c hc x hx).resolve_left (by simp), r8, r9⟩
        have hmemP : ∀ x, x ∈ pre.reverse ↔ ∃ d ∈ rP, d.i = x := by
          intro x
          simp only [List.mem_reverse]
          rw [← r1]; simp
        obtain ⟨rT, ⟨t1, t2, t3, t4, t5, t6, t7, t8⟩, t9, t10⟩ := tail_recsG tl B pre.reverse rP Tm T' Sm S' hmemP (fun c hc => (r4 c hc).op) r9 r3 htailok h
        have hlt : ∀ c ∈ rP, ∀ d ∈ rT, c.i ∈ d.done ∧ c.i ≠ d.i := by
          intro c hc d hd
          have := t5 d hd c.i ((hmemP _).2 ⟨c, hc, rfl⟩)
          exact ⟨this, fun e => (t3 d hd).new (e ▸ this)⟩
        have hsubP : ∀ c ∈ rP, ∀ x ∈ c.done, ∃ d ∈ rP, d.i = x := fun c hc x hx => (r7 c hc x hx).resolve_left (by simp)
        have R : RegRecs md ops T T' (rP ++ rT) := by
          refine ⟨t2, fun c hc => ?_, List.pairwise_append.2 ⟨r5.imp fun h => h.2, t4, fun c hc d hd => ⟨(hlt c hc d hd).1, fun x hx => ?_⟩⟩, fun c hc x hx => ?_, fun c hc => ?_, t8⟩
          · rcases List.mem_append.1 hc with hc | hc
            · exact ⟨(r4 c hc).op, (r4 c hc).draw, (r4 c hc).edges, (r4 c hc).new, (r4 c hc).len⟩
            · exact t3 c hc
          · obtain ⟨e, he, rfl⟩ := hsubP c hc x hx
            exact (hlt e he d hd).1
          · rcases List.mem_append.1 hc with hc | hc
            · obtain ⟨e, he, h1⟩ := hsubP c hc x hx
              exact ⟨e, List.mem_append_left _ he, h1⟩
            · rcases t6 c hc x hx with h1 | ⟨e, he, h1⟩
              · obtain ⟨e, he, h2⟩ := (hmemP x).1 h1
                exact ⟨e, List.mem_append_left _ he, h2⟩
              · exact ⟨e, List.mem_append_right _ he, h1⟩
          · rcases List.mem_append.1 hc with hc | hc
            · refine ⟨fun d hd hdd t hdst ht => ?_, fun t hall => (r8 c hc).2 t fun d hd hdd => hall d (List.mem_append_left _ hd) hdd⟩
              rcases List.mem_append.1 hd with hd | hd
              · exact (r8 c hc).1 d hd hdd t hdst ht
              · obtain ⟨e, he, h1⟩ := hsubP c hc _ hdd
                exact absurd h1 (hlt e he d hd).2
            · exact t7 c hc
        have x2 := heaps_ext hcl hfl _ _ _ _ (Nat.le_trans hS r2.1) t9
        have hcover : ∀ i, i < ops.size → i ∈ pre ∨ i ∈ tl := by
          intro i hi
          have := (List.all_eq_true.1 hcov) i (by simp [hi])
          rw [← hsplit] at this
          simpa using this
        let Al : Rec → Nat → Prop := fun c b => c ∈ rP ∧ (c.i, b) ∈ B ∧ c.S.length = b ∧ ∃ k, c.S' = c.S ++ [k] ∧ ∀ (fl2 : Nat) (X : List Blk), X.length = b → opRes P Sg.length cl fl2 ops c.o c.T X = some (c.v, X ++ [k])
        let Fl : Rec → Prop := fun c => (c ∈ rP ∧ c.i ∈ F) ∨ (c ∈ rT ∧ regOnly c.o.op = true)
        have hfloat : ∀ c ∈ rP ++ rT, Fl c → (∀ (S2 : List Blk), (∀ b, (c.i, b) ∈ B → S2[b]? = Sm[b]?) → opRes P Sg.length cl fl ops c.o c.T S2 = some (c.v, S2)) ∨ ∃ b, Al c b := by
          intro c _ hFl
          rcases hFl with ⟨hc, hcF⟩ | ⟨hc, hreg⟩
          · have rc := r4 c hc
            obtain ⟨o, ho, hk⟩ := blksG_spec F B hB c.i hcF
            rw [rc.op] at ho; cases ho
            by_cases hreg : regOnly c.o.op = true
            · exact .inl fun S2 _ => (opRes_reg hreg rc.res).2 fl S2
            · rcases hk with hk | ⟨ty, t, b, off, k1, k2, k3⟩ | ⟨d, b, k1, k2, k3, k4⟩
              · exact absurd hk hreg
              · refine .inl fun S2 hS2 => ?_
                have hlo : loadOnly md ops c.o = true := by
                  have := hfl1 c.i hcF
                  simp only [floatOk, allocB, isNew, getR_arr, rc.op, k1, Bool.or_false] at this
                  split at this
                  · rename_i h1; rw [k1] at hreg; exact absurd h1 hreg
                  · exact this
                simp only [loadOnly, k1] at hlo
                have heq : nthD c.T t = nthD Tm t := by
                  rw [nthD_eq, nthD_eq]
                  congr 1
                  by_cases hex : ∃ d ∈ rP, d.o.dst = some t
                  · obtain ⟨d, hd, hdst⟩ := hex
                    have hb := writersR_spec _ _ hlo d.i d.o (by simpa using (r4 d hd).op) hdst
                    have hb' : beforeM md c.o d.i = true := by simpa using hb
                    have hdd := edgesIn_spec rc.edges hb'
                    by_cases ht : t < T.length
                    · rw [(r8 c hc).1 d hd hdd t hdst ht, r9.1 d hd trivial t hdst ht]
                    · rw [List.getElem?_eq_none (show c.T.length ≤ t by rw [rc.len]; exact Nat.le_of_not_lt ht), List.getElem?_eq_none (show Tm.length ≤ t by rw [r3]; exact Nat.le_of_not_lt ht)]
                  · have hno : ∀ d ∈ rP, d.o.dst ≠ some t := fun d hd e => hex ⟨d, hd, e⟩
                    rw [(r8 c hc).2 t fun d hd _ => hno d hd, r9.2 t fun d hd _ => hno d hd]
                refine (opRes_load (b := b) (off := off) k1 (by simp only [opd]; rw [heq, k2]) rc.res).2 fl S2 fun hb => ?_
                rw [hS2 b k3, rc.hi.2 b (Nat.lt_of_lt_of_le hb rc.mid.1) (Nat.lt_of_lt_of_le hb rc.mid.1), rc.mid.2 b hb hb]
              · have hv : addrB c.v = some b := by
                  by_cases ht : d < T.length
                  · have := r9.1 c hc trivial d k2 ht
                    rw [nthD_eq, this] at k3
                    exact k3
                  · rw [nthD_eq, List.getElem?_eq_none (show Tm.length ≤ d by rw [r3]; exact Nat.le_of_not_lt ht)] at k3
                    cases k3
                obtain ⟨e1, k, e2, e3⟩ := opRes_new k1 hv rc.res
                exact .inr ⟨b, hc, k4, e1.symm, k, e2, e3⟩
          · exact .inl fun S2 _ => t10 c hc hreg S2
        have hal : ∀ c b, Al c b → c ∈ rP ++ rT ∧ (c.i, b) ∈ B ∧ S.length ≤ b ∧ ∃ k, Sm[b]? = some k ∧ ∀ X : List Blk, X.length = b → opRes P Sg.length cl fl ops c.o c.T X = some (c.v, X ++ [k]) := by
          rintro c b ⟨hc, h1, h2, k, h3, h4⟩
          have rc := r4 c hc
          refine ⟨List.mem_append_left _ hc, h1, by rw [← h2]; exact rc.lo.1, k, ?_, h4 fl⟩
          have hb : b < c.S'.length := by rw [h3]; simp; omega
          rw [rc.hi.2 b hb hb, h3, ← h2, List.getElem?_append_right (Nat.le_refl _)]
          simp
        have hdist : ∀ c d b, Al c b → Al d b → c = d := by
          rintro c d b ⟨hc, _, h2, k, h3, _⟩ ⟨hd, _, g2, k', g3, _⟩
          rcases pair_two rP r5 hc hd with e | ⟨e, _⟩ | ⟨e, _⟩
          · exact e
          · rw [h3] at e; simp at e; omega
          · rw [g3] at e; simp at e; omega
        refine ⟨⟨Nat.le_trans r2.1 x2.1, fun b e1 e2 => by rw [x2.2 b e1 (Nat.lt_of_lt_of_le e2 r2.1), r2.2 b e2 e2]⟩, ?_⟩
        intro Q φ0 a0 w0 inv0 hT hf hQ
        have finish : ∀ (fuel : Nat) (listed : Array Bool) (a : Act) (φ : Ren) (w : World), PreInv md ops rP T S Sm φ0 a0 w0 listed a φ w → left ops.size listed ≤ fuel → (∀ c ∈ rP, c.i ∉ F → On listed c.i) → wpAnyIn (wideAt ro) 0 P md ops Q fuel listed a w := by
          intro fuel listed a φ w I hl hall
          have hstep : Step fl φ0 S w0 φ Sm w := by
            refine ⟨I.ext, I.caps, fun b r hb => ?_, r2.1, fun b hb d k hk => d k (by rw [← r2.2 b hb hb]; exact hk), fun b e1 e2 => r2.2 b e2 e2, fun r e1 _ => I.frame r e1, I.hsize, I.os, I.tape, I.output⟩
            rcases I.dom b r hb with h1 | ⟨c, hc, _, h2, h3, h4⟩
            · exact .inl h1
            · exact .inr ⟨Nat.le_trans (r4 c hc).lo.1 h2, Nat.lt_of_lt_of_le h3 (r4 c hc).hi.1, .inl h4⟩
          have hinv : Inv Sg φ Sm w := ⟨⟨I.good, fun g hg => I.ext _ _ (inv0.ok.glob g hg)⟩, fun g hg => by
            have hgS : g < S.length := Nat.lt_of_lt_of_le hg hS
            rw [r2.2 g hgS hgS, inv0.base g hg], Nat.le_trans hS r2.1⟩
          have hoffT : ∀ c ∈ rT, ¬ On listed c.i := by
            intro c hc hon
            obtain ⟨d, hd, he⟩ := I.sub c.i hon
            exact (hlt d hd c hc).2 he
          refine phaseG hcl hfl R (rC := rT.filter nonReg) (Fl := Fl) (Al := Al) (B0 := B) (S0 := S) (Sm := Sm) (Sf := S') (φ0 := φ0) (a0 := a0) (w0 := w0) hS
            (fun c hc => List.mem_append_right _ (List.mem_filter.1 hc).1) ((t4.imp fun h => h.1).filter _) hfloat hal hdist hf ?_ (fun i hi => ?_) hQ
            fuel listed [] (rT.filter nonReg) φ a w Sm B rfl t9 (fun _ _ => rfl) (fun _ hp _ => hp) ⟨I.size, fun c hc hon => ?_, I.tsize, I.defers, fun t v' hv' => ?_⟩ (by simp) (fun c hc => hoffT c (List.mem_filter.1 hc).1)
            (fun c hc hcC hFl => ?_) (headG_all (fun c hc => (t3 c hc).op) (by rw [t1]; exact hhead)) hl hinv (hstep.fresh hf) (Nat.le_refl _) hstep (fun c b hab hoff => ?_)
          · rw [List.map_append, r1, t1]
            exact Topo.append _ _ _ (topo_pre _ _ hpreok) (by simpa using topo_pre _ _ htailok)
          · rcases hcover i hi with h1 | h1
            · rw [← r1] at h1
              obtain ⟨c, hc, he⟩ := List.mem_map.1 h1
              exact ⟨c, List.mem_append_left _ hc, he⟩
            · rw [← t1] at h1
              obtain ⟨c, hc, he⟩ := List.mem_map.1 h1
              exact ⟨c, List.mem_append_right _ hc, he⟩
          · rcases List.mem_append.1 hc with hc | hc
            · exact I.closed c hc hon
            · exact absurd hon (hoffT c hc)
          · obtain ⟨i1, i2⟩ := I.tmp t v' hv'
            refine ⟨fun c hc hon => ?_, fun hall2 => i2 fun c hc hon => hall2 c (List.mem_append_left _ hc) hon⟩
            rcases List.mem_append.1 hc with hc | hc
            · exact i1 c hc hon
            · exact absurd hon (hoffT c hc)
          · rcases List.mem_append.1 hc with hc | hc
            · exact hall c hc fun hcF => hFl (.inl ⟨hc, hcF⟩)
            · cases hr : regOnly c.o.op with
              | true => exact absurd (.inr ⟨hc, hr⟩) hFl
              | false => exact absurd (List.mem_filter.2 ⟨hc, by simp [nonReg, hr]⟩) hcC
          · obtain ⟨hc, _, h2, k, h3, _⟩ := hab
            have rc := r4 c hc
            have hb1 : S.length ≤ b := by rw [← h2]; exact rc.lo.1
            have hbm : b < Sm.length := by
              have := rc.hi.1
              rw [h3] at this
              simp at this
              omega
            cases hφ : φ b with
            | none => rfl
            | some r =>
              rcases I.dom b r hφ with e | ⟨d, hd, hdon, e1, e2, _⟩
              · rw [hf b hb1 (Nat.lt_of_lt_of_le hbm x2.1)] at e; cases e
              · rcases pair_two rP r5 hc hd with e | ⟨e, _⟩ | ⟨e, _⟩
                · subst e; exact absurd hdon hoff
                · rw [h3] at e; simp at e; omega
                · omega
        have main : ∀ (fuel : Nat) (listed : Array Bool) (a : Act) (φ : Ren) (w : World), PreInv md ops rP T S Sm φ0 a0 w0 listed a φ w → left ops.size listed ≤ fuel → wpAnyIn (wideAt ro) 0 P md ops Q fuel listed a w := by
          intro fuel
          induction fuel with
          | zero =>
            intro listed a φ w I hl
            exact finish 0 listed a φ w I hl (by
              intro c hc _
              have hi : c.i < ops.size := (Array.getElem?_eq_some_iff.1 (r4 c hc).op).1
              have := left_zero (Nat.le_zero.1 hl) c.i hi
              have hsz := I.size
              unfold On
              simp [Array.getD, hsz, hi] at this
              simp [hsz, hi, this])
          | succ fuel ih =>
            intro listed a φ w I hl
            by_cases hall : ∀ c ∈ rP, c.i ∉ F → On listed c.i
            · exact finish (fuel + 1) listed a φ w I hl hall
            · obtain ⟨c0, hc0, hcF, hoff0⟩ : ∃ c ∈ rP, c.i ∉ F ∧ ¬ On listed c.i := by
                apply Classical.byContradiction
                intro hno
                exact hall fun c hc h1 => Classical.byContradiction fun hn => hno ⟨c, hc, h1, hn⟩
              refine ⟨fun hempty => ?_, fun k hk => ?_⟩
              · exact absurd hempty (Topo.first I.size pre [] (topo_pre _ _ hpreok) (by simp) ⟨c0.i, by rw [← r1]; exact List.mem_map_of_mem hc0, hoff0⟩)
              · obtain ⟨p, hp, hpoff, hpe⟩ := mem_ready.1 hk
                have hkoff : ¬ On listed k := fun e => by unfold On at e; rw [hpoff] at e; cases e
                have hnotl : ∀ x, x ∈ tl → beforeM md p x = true → False := by
                  intro x hx hb
                  obtain ⟨c, hc, hci⟩ := I.sub x (hpe x hb)
                  rw [← t1] at hx
                  obtain ⟨d, hd, he⟩ := List.mem_map.1 hx
                  exact (hlt c hc d hd).2 (hci.trans he.symm)
                have hkpre : k ∈ pre := by
                  rcases hcover k (Array.getElem?_eq_some_iff.1 hp).1 with h1 | h1
                  · exact h1
                  · exfalso
                    have hlk := hlate
                    simp only [lateG, allR_eq, List.all_eq_true] at hlk
                    have hlk2 := hlk k h1
                    rw [getR_arr, hp] at hlk2
                    simp only [Bool.or_eq_true, Bool.not_eq_true', anyR_eq, List.any_eq_true] at hlk2
                    rcases hlk2 with hnr | ⟨x, hx, hb⟩
                    · cases tl with
                      | nil => cases h1
                      | cons y tl =>
                        have hyk : y = k ∨ y ≠ k := by omega
                        rcases hyk with rfl | hne
                        · have hcp : c0.i ∈ pre := by rw [← r1]; exact List.mem_map_of_mem hc0
                          have hb : behind md ops p pre.reverse c0.i = true := by
                            apply Classical.byContradiction
                            intro hn
                            apply hcF
                            rw [hF]
                            simp only [floatsOf, getR_arr, hp, List.mem_filter]
                            exact ⟨hcp, by simpa using hn⟩
                          simp only [behind, anyR_eq, Bool.or_eq_true, List.any_eq_true, Bool.and_eq_true] at hb
                          rcases hb with (hb | ⟨k2, _, hb1, hb2⟩) | hb3
                          rotate_right
                          · exact hoff0 (reach_on (fun i q hq hi => by
                              obtain ⟨c2, hc2, rfl⟩ := I.sub i hi
                              have := (r4 c2 hc2).op
                              rw [hq] at this; cases this
                              exact I.closed c2 hc2 hi) 7 p c0.i hb3 hpe)
                          · exact hoff0 (hpe _ hb)
                          · obtain ⟨c2, hc2, rfl⟩ := I.sub k2 (hpe _ hb1)
                            rw [getR_arr, (r4 c2 hc2).op] at hb2
                            exact hoff0 (I.closed c2 hc2 (hpe _ hb1) _ hb2)
                        · have hch := headG_all (md := md) (ops := ops) (recs := rT) (fun c hc => (t3 c hc).op) (by rw [t1]; exact hhead)
                          cases rT with
                          | nil => cases t1
                          | cons c1 l1 =>
                            simp only [List.map_cons, List.cons.injEq] at t1
                            obtain ⟨u1, u2⟩ := t1
                            have hm : k ∈ l1.map (·.i) := by
                              rw [u2]
                              cases h1 with
                              | head => exact absurd rfl hne
                              | tail _ h => exact h
                            obtain ⟨ck, hck, rfl⟩ := List.mem_map.1 hm
                            have hko : p = ck.o := by have := (t3 ck (List.mem_cons_of_mem _ hck)).op; rw [hp] at this; cases this; rfl
                            subst hko
                            have h1n : nonReg c1 = true := by
                              have := hhead
                              simp only [headG, getR_arr, Bool.and_eq_true] at this
                              have h2 := this.1
                              rw [← u1, (t3 c1 (List.mem_cons_self ..)).op] at h2
                              simpa [nonReg] using h2
                            rw [List.filter_cons_of_pos h1n] at hch
                            simp only [List.map_cons, chainRAll] at hch
                            obtain ⟨x, o, y1, y2, y3⟩ := chainR_before _ _ hch ck.i (List.mem_map_of_mem (List.mem_filter.2 ⟨hck, by simp [nonReg, hnr]⟩))
                            rw [hp] at y2; cases y2
                            have hxt : x ∈ y :: tl := by
                              rcases y1 with rfl | y1
                              · rw [u1]; exact List.mem_cons_self ..
                              · obtain ⟨d, hd, rfl⟩ := List.mem_map.1 y1
                                rw [← u2]
                                exact List.mem_cons_of_mem _ (List.mem_map_of_mem (List.mem_filter.1 hd).1)
                            have hxo := reach_on (listed := listed) (fun i p hi hio => by
                              obtain ⟨d, hd, he⟩ := I.sub i hio
                              subst he
                              have := (r4 d hd).op
                              rw [hi] at this; cases this
                              exact I.closed d hd hio) _ _ _ y3 hpe
                            obtain ⟨d, hd, hdi⟩ := I.sub x hxo
                            have hxt2 : x ∈ (c1 :: l1).map (·.i) := by rw [List.map_cons, u1, u2]; exact hxt
                            obtain ⟨e, he, hei⟩ := List.mem_map.1 hxt2
                            exact (hlt d hd e he).2 (hdi.trans hei.symm)
                    · exact hnotl x hx hb
                obtain ⟨c, hc, hci⟩ : ∃ c ∈ rP, c.i = k := by
                  rw [← r1] at hkpre
                  obtain ⟨c, hc, e⟩ := List.mem_map.1 hkpre
                  exact ⟨c, hc, e⟩
                subst hci
                have hpo : p = c.o := by have := (r4 c hc).op; rw [hp] at this; cases this; rfl
                subst hpo
                refine pre_step hcl RP inv0 hf x2.1 I hc hkoff hpe fun a' ψ w' I' => ih _ a' ψ w' I' ?_
                have := left_set I.size (Array.getElem?_eq_some_iff.1 hp).1 (show listed.getD c.i true = false by
                  have hlt : c.i < listed.size := by rw [I.size]; exact (Array.getElem?_eq_some_iff.1 hp).1
                  rw [Array.getElem?_eq_getElem hlt] at hpoff
                  simp [Array.getD, hlt]
                  simpa using hpoff)
                omega
        refine main ops.size _ a0 φ0 w0 ?_ ?_
        · have hoff : ∀ i, ¬ On (Array.replicate ops.size false) i := by
            intro i e
            unfold On at e
            rw [Array.getElem?_replicate] at e
            split at e <;> simp at e
          refine ⟨by simp, fun i hi => absurd hi (hoff i), fun c _ hi => absurd hi (hoff _), inv0.ok.good.grow (fun b hb => r2.2 b hb hb) (fun b e1 e2 => hf b e1 (Nat.lt_of_lt_of_le e2 x2.1)), RExt.refl _, fun _ _ => rfl, fun _ _ e => .inl e, Nat.le_refl _, fun _ _ => rfl, rfl, rfl, rfl, by simpa using hT.1, rfl,
            fun t v' hv' => ⟨fun c _ hi => absurd hi (hoff _), fun _ v hv => hT.2 t v v' hv (by simpa using hv')⟩⟩
        · have : left ops.size (Array.replicate ops.size false) ≤ (List.range ops.size).length := List.countP_le_length
          simpa using this
      · cases h
    · cases h
  · cases h
end
end Go.Proofs.XX.Vm
