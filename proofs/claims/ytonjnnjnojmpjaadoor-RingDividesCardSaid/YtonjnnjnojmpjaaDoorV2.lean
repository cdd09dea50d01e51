/- A small evaluator over a shadow heap, part 2: operations. -/
import Derived.Test.YtonjnnjnojmpjaaDoorV1
namespace Go.Proofs.XX.Vm
open Go Go.RowKit

noncomputable section
/- By the recursors outright: so the kernel reckons it fast. -/
def nthD (T : List Value) : Nat → Value := List.rec (fun _ => undef) (fun v _ ih n => Nat.rec v (fun m _ => ih m) n) T
theorem nthD_eq (T : List Value) (n : Nat) : nthD T n = T[n]?.getD undef := by
  induction T generalizing n with
  | nil => rfl
  | cons v T ih => cases n with
    | zero => rfl
    | succ n => exact (ih n).trans (by simp)
/-- The list reckoned through, and handed on. -/
def forceK {α β : Type} (l : List α) : (List α → β) → β := List.rec (fun k => k []) (fun v _ ih k => ih fun m => k (v :: m)) l
theorem forceK_eq {α β : Type} (l : List α) (k : List α → β) : forceK l k = k l := by
  induction l generalizing k with
  | nil => rfl
  | cons v l ih => exact ih _
def setK {β : Type} (T : List Value) : Nat → Value → (List Value → β) → β :=
  List.rec (fun _ _ k => k []) (fun v l ih n u k => Nat.rec (k (u :: l)) (fun m _ => ih m u fun l' => k (v :: l')) n) T
theorem setK_eq {β : Type} (T : List Value) (n : Nat) (u : Value) (k : List Value → β) : setK T n u k = k (T.set n u) := by
  induction T generalizing n k with
  | nil => rfl
  | cons v T ih => cases n with
    | zero => rfl
    | succ n => exact ih n fun m => k (v :: m)

def anyR {α : Type} (p : α → Bool) (l : List α) : Bool := List.rec false (fun a _ ih => match p a with | true => true | false => ih) l
theorem anyR_eq {α : Type} (p : α → Bool) (l : List α) : anyR p l = l.any p := by
  induction l with
  | nil => rfl
  | cons a l ih =>
    have : anyR p (a :: l) = (match p a with | true => true | false => anyR p l) := rfl
    rw [this, ih, List.any_cons]; cases p a <;> rfl
def allR {α : Type} (p : α → Bool) (l : List α) : Bool := List.rec true (fun a _ ih => match p a with | true => ih | false => false) l
theorem allR_eq {α : Type} (p : α → Bool) (l : List α) : allR p l = l.all p := by
  induction l with
  | nil => rfl
  | cons a l ih =>
    have : allR p (a :: l) = (match p a with | true => allR p l | false => false) := rfl
    rw [this, ih, List.all_cons]; cases p a <;> rfl
def getR {α : Type} (l : List α) : Nat → Option α := List.rec (fun _ => none) (fun v _ ih n => Nat.rec (some v) (fun m _ => ih m) n) l
theorem getR_eq {α : Type} (l : List α) (n : Nat) : getR l n = l[n]? := by
  induction l generalizing n with
  | nil => rfl
  | cons v l ih => cases n with
    | zero => rfl
    | succ n => exact (ih n).trans (by simp)

def opd (gl : Nat) (T : List Value) : Operand → Option Value
  | .tmp t => some (nthD T t)
  | .const v => if plain v then some v else none
  | .global g => if g < gl then some (.pointer (some ⟨g, 0, none⟩)) else none
  | .func f => some (.func (.func f) #[] #[])

def opds (gl : Nat) (T : List Value) : List Operand → Option (List Value)
  | [] => some []
  | x :: l => match opd gl T x, opds gl T l with
    | some v, some vs => some (v :: vs)
    | _, _ => none

def pureSem (P : Program) {α : Type} : Sem α → Option α
  | .pure a => some a
  | .program k => pureSem P (k P)
  | .mark _ k => pureSem P k
  | .choose q k => if q.forced then pureSem P (k 0) else none
  | _ => none

theorem pureSem_run {P : Program} {α : Type} {e : Sem α} {a : α} (h : pureSem P e = some a) (w : World) : e.run P w = .ok a w := by
  induction e with
  | pure b => simp only [pureSem, Option.some.injEq] at h; subst h; rfl
  | program k ih => simp only [pureSem] at h; simp only [Sem.run]; exact ih _ h
  | mark m k ih => simp only [pureSem] at h; simp only [Sem.run]; exact ih h
  | choose q k ih =>
    simp only [pureSem] at h
    split at h
    · rename_i hq; simp only [Sem.run, hq, if_true]; exact ih _ h
    · cases h
  | _ => simp [pureSem] at h

def isAggT (P : Program) (t : TypeId) : Option Bool :=
  match P.underlying t with
  | some (.struct _) => some true
  | some (.array _ _) => some true
  | some _ => some false
  | none => none
def sizeT (P : Program) (t : TypeId) : Option Nat :=
  match P.info? t with
  | some i => some i.size
  | none => none
def zeroT (P : Program) (t : TypeId) : Option Value :=
  match P.info? t with
  | some i => i.zero
  | none => none

/-- A variable of type t at offset o among cells. -/
def readAt (P : Program) (t : TypeId) (cs : List Value) (o : Nat) : Option Value :=
  match isAggT P t with
  | some false => cs[o]?
  | some true => match sizeT P t with
    | some n => if o + n ≤ cs.length then forceK ((cs.drop o).take n) fun l => some (.agg l.toArray) else none
    | none => none
  | none => none
def load (P : Program) (t : TypeId) (S : List Blk) : Value → Option Value
  | .pointer (some ⟨b, o, none⟩) => match S[b]? with
    | some ⟨cs, _, _, none⟩ => readAt P t cs o
    | _ => none
  | _ => none

def cellish : Value → Bool
  | .agg _ | .tuple _ => false
  | _ => true
def writeAt (l : List Value) (o : Nat) : List Value → List Value
  | [] => l
  | v :: vs => writeAt (l.set o v) (o + 1) vs
def store (P : Program) (fl : Nat) (t : TypeId) (S : List Blk) (p v : Value) : Option (List Blk) :=
  match p with
  | .pointer (some ⟨b, o, none⟩) => match S[b]?, sizeT P t with
    | some ⟨cs0, e, ro, none⟩, some n =>
      if decide (fl ≤ b) && !ro && v.cells.toList.length == n && v.cells.toList.all cellish && decide (o + v.cells.toList.length ≤ cs0.length) then
        forceK (writeAt cs0 o v.cells.toList) fun cs => forceK (S.set b ⟨cs, e, ro, none⟩) some
      else none
    | _, _ => none
  | _ => none

def fieldP (P : Program) (s : TypeId) (f : Nat) : Value → Option Value
  | .pointer (some a) => match P.underlying s with
    | some (.struct fs) => match fs[f]? with
      | some fd => match sizeT P fd.type with
        | some (_ + 1) => some (.pointer (some (a.add fd.offset)))
        | _ => none
      | none => none
    | _ => none
  | _ => none
def indexP (P : Program) (t : TypeId) (x ix : Value) : Option Value :=
  match ix with
  | .int _ i => match P.underlying t, x with
    | some (.array len elem), .pointer (some a) =>
      if decide (0 ≤ i) && decide (i < (len : Int)) then match sizeT P elem with
        | some n => some (.pointer (some (a.add (i.toNat * n))))
        | none => none
      else none
    | some (.slice elem), .slice (some a) len _ =>
      if decide (0 ≤ i) && decide (i < (len : Int)) then match sizeT P elem with
        | some n => some (.pointer (some (a.add (i.toNat * n))))
        | none => none
      else none
    | _, _ => none
  | _ => none

/-- Operations whose operands bear no address, by their own text. -/
def pureOp : Op → Bool
  | .binOp .. | .unOp .. | .convert .. | .extract .. | .field .. | .index .. | .build .. => true
  | .call { callee := .builtin b, .. } => match b with
    | .min | .max | .len => true
    | _ => false
  | .slice .. => true
  | _ => false

inductive R where
  | val (v : Value) (S : List Blk)
  | call (f : FuncId) (args : List Value)
  | round (l : Nat) (args : List Value)

def callee (P : Program) (f : Value) (args : List Value) : Option R :=
  match f with
  | .func (.func g) x c => match P.funcs[g]? with
    | some fn => if fn.name == "runtime.NumGoroutine" then none else match fn.body with
      | some _ => some (.call g (x.toList ++ args ++ c.toList))
      | none => none
    | none => none
  | .func (.yield l) x c => if x.toList.isEmpty && c.toList.isEmpty then some (.round l args) else none
  | _ => none

def buildSliceCells (P : Program) (t : TypeId) (len : Nat) (parts : Array (Nat × Value)) : Option (TypeId × Array Value) :=
  match P.underlying t with
  | some (.slice elem) => match P.info? elem with
    | some i =>
      if len * i.size > 2 ^ 24 then none
      else if len * i.size = 0 then none
      else match i.zero with
        | some z => match Instr.fill (fun j => some (j * i.size, i.size)) ((Array.range (len * i.size)).map (z.cells[· % z.cells.size]!)) parts.toList with
          | some cells => some (elem, cells)
          | none => none
        | none => none
    | none => none
  | _ => none

/-- An operation whose operands bear no address, run by its own text. -/
def pureTry (P : Program) (gl : Nat) (o : Oper) (T : List Value) (S : List Blk) : Option R :=
  match opds gl T o.op.operands.toList with
  | some vs => if pureOp o.op && vs.all plain then
      match pureSem P (execOp (fun x => (opd gl T x).getD undef) o) with
      | some (.value v) => if plain v then some (.val v S) else none
      | _ => none
    else none
  | none => none

/-- Maps whose keys and values bear no address. -/
def mapBlk (es : List MapEntry) (clock : Nat) : Blk := ⟨[], 0, true, some (.map es clock)⟩
def mapAt (S : List Blk) : Value → Option (Nat × List MapEntry × Nat)
  | .map (some b) => match S[b]? with
    | some ⟨_, _, _, some (.map es clock)⟩ => some (b, es, clock)
    | _ => none
  | _ => none
def findIn (P : Program) (kt : TypeId) (empty : Bool) (es : List MapEntry) (k : Value) : Option (Option (Nat × Value)) :=
  if plain k then match pureSem P (Instr.checkKey empty 10000 kt k) with
    | some _ => pureSem P (Instr.findKey kt k es)
    | none => none
  else none
def plainly (r : Value) : Option Value := if plain r then some r else none
def okVal (ok : Bool) (v : Value) (b : Bool) : Value := if ok then .tuple #[v, .bool b] else v
def lookupP (P : Program) (t : TypeId) (S : List Blk) (x k : Value) (ok : Bool) : Option Value :=
  match P.underlying t, mapAt S x with
  | some (.map kt et), some (_, es, _) => match findIn P kt es.toArray.isEmpty es k with
    | some (some (_, v)) => plainly (okVal ok v true)
    | some none => match zeroT P et with
      | some z => plainly (okVal ok z false)
      | none => none
    | none => none
  | _, _ => none
def updateP (P : Program) (fl : Nat) (t : TypeId) (S : List Blk) (x k v : Value) : Option (List Blk) :=
  match P.underlying t, mapAt S x with
  | some (.map kt _), some (b, es, clock) => if decide (fl ≤ b) && plain v then match findIn P kt false es k with
      | some (some (i, _)) => match pureSem P (Instr.keyThatStays (((es.toArray[i]?).map (·.key)).getD k) k) with
        | some key => forceK (S.set b (mapBlk (es.toArray.modify i fun e => { e with key := key, val := v }).toList clock)) some
        | none => none
      | some none => forceK (S.set b (mapBlk (es ++ [{ key := k, val := v, born := clock }]) (clock + 1))) some
      | none => none
    else none
  | _, _ => none

/-- A walk over a string. -/
def iterBlk (s : ByteArray) (pos : Nat) : Blk := ⟨[], 0, true, some (.iter s pos)⟩
def rangeP (P : Program) (t : TypeId) (x : Value) : Option ByteArray :=
  match P.underlying t, x with
  | some .string, .string s => some s
  | _, _ => none
def nextP (fl : Nat) (S : List Blk) (x : Value) : Option (Value × List Blk) :=
  match x with
  | .pointer (some ⟨b, 0, none⟩) => match S[b]? with
    | some ⟨_, _, _, some (.iter s pos)⟩ => if decide (fl ≤ b) then
        if pos < s.size then match Utf8.decode s pos with
          | (c, width) => forceK (S.set b (iterBlk s (pos + width))) fun S' => some (.tuple #[.bool true, goInt pos, .int .i32 c], S')
        else some (.tuple #[.bool false], S)
      else none
    | _ => none
  | _ => none

/-- Integers' operations. -/
def fastBin (op : BinOp) (k : IntKind) (a b : Int) : Option Value :=
  match op with
  | .add => some (.int k (k.wrap (a + b)))
  | .sub => some (.int k (k.wrap (a - b)))
  | .mul => some (.int k (k.wrap (a * b)))
  | .eql => some (.bool (a == b))
  | .neq => some (.bool (a != b))
  | .lss => some (.bool (a < b))
  | .leq => some (.bool (a ≤ b))
  | .gtr => some (.bool (a > b))
  | .geq => some (.bool (a ≥ b))
  | _ => none

/-- Structs and arrays of integers, compared cell by cell. -/
def eqFs (P : Program) (xs ys : List Value) : List Field → Option Bool
  | [] => some true
  | f :: fs => if f.name = "_" then none else match P.underlying f.type, xs[f.offset]?, ys[f.offset]? with
    | some (.int _), some (.int j a), some (.int k b) => if j = k then match eqFs P xs ys fs with
        | some r => some ((a == b) && r)
        | none => none
      else none
    | _, _, _ => none
def eqIs (xs ys : List Value) (n : Nat) : List Nat → Option Bool
  | [] => some true
  | i :: is => match xs[i * n]?, ys[i * n]? with
    | some (.int j a), some (.int k b) => if j = k then match eqIs xs ys n is with
        | some r => some ((a == b) && r)
        | none => none
      else none
    | _, _ => none
def eqAgg (P : Program) (t : TypeId) (xs ys : List Value) : Option Bool :=
  if P.eqGuardType P.depth t then none else
  match P.underlying t with
  | some (.struct fs) => if P.stoodInHeld t then none else eqFs P xs ys fs.toList
  | some (.array n e) => match P.underlying e with
    | some (.int _) => eqIs xs ys (P.cellsOf e) (List.range n)
    | _ => none
  | _ => none
def fastEql (P : Program) (op : BinOp) (t : TypeId) (xs ys : List Value) : Option Value :=
  match op with
  | .eql => match eqAgg P t xs ys with
    | some r => some (.bool r)
    | none => none
  | .neq => match eqAgg P t xs ys with
    | some r => some (.bool (!r))
    | none => none
  | _ => none

def evOp (P : Program) (gl fl : Nat) (o : Oper) (T : List Value) (S : List Blk) : Option R :=
  match o.op with
  | .move x => match opd gl T x with
    | some v => some (.val v S)
    | none => none
  | .assign x => match opd gl T x with
    | some v => some (.val v S)
    | none => none
  | .pick c a b => match opd gl T c, opd gl T a, opd gl T b with
    | some (.bool β), some v, some u => some (.val (bif β then v else u) S)
    | _, _, _ => none
  | .alloc t => match zeroT P t with
    | some z => if z.cells.toList.all scalar then forceK (S ++ [⟨z.cells.toList, t, false, none⟩]) fun S' => some (.val (.pointer (some ⟨S.length, 0, none⟩)) S') else none
    | none => none
  | .box t x => match opd gl T x with
    | some v => forceK v.cells.toList fun cs => forceK (S ++ [⟨cs, t, false, none⟩]) fun S' => some (.val (.pointer (some ⟨S.length, 0, none⟩)) S')
    | none => none
  | .load t x => match opd gl T x with
    | some p => match load P t S p with
      | some v => some (.val v S)
      | none => none
    | none => none
  | .store t x y => match opd gl T x, opd gl T y with
    | some p, some v => match store P fl t S p v with
      | some S' => some (.val undef S')
      | none => none
    | _, _ => none
  | .nilCheck x => match opd gl T x with
    | some (.pointer (some a)) => some (.val (.pointer (some a)) S)
    | _ => none
  | .fieldAddr t x f => match opd gl T x with
    | some p => match fieldP P t f p with
      | some v => some (.val v S)
      | none => none
    | none => none
  | .indexAddr t x i => match opd gl T x, opd gl T i with
    | some p, some j => match indexP P t p j with
      | some v => some (.val v S)
      | none => none
    | _, _ => none
  | .makeFunc (.func f) first captured => match opds gl T first.toList, opds gl T captured.toList with
    | some xs, some cs => some (.val (.func (.func f) xs.toArray cs.toArray) S)
    | _, _ => none
  | .call { callee := .value f, args, .. } => match opd gl T f, opds gl T args.toList with
    | some g, some vs => callee P g vs
    | _, _ => none
  | .buildSlice t len parts => match opds gl T (parts.toList.map (·.2)) with
    | some vs => if vs.all plain then match buildSliceCells P t len ((parts.toList.map (·.1)).zip vs).toArray with
        | some (elem, cells) => if cells.toList.all scalar then forceK (S ++ [⟨cells.toList, elem, false, none⟩]) fun S' => some (.val (.slice (some ⟨S.length, 0, none⟩) len len) S') else none
        | none => none
      else none
    | none => none
  | .binOp op bt x y _ => match opd gl T x, opd gl T y with
    | some (.agg xs), some (.agg ys) => match fastEql P op bt xs.toList ys.toList with
      | some v => some (.val v S)
      | none => pureTry P gl o T S
    | some (.int k a), some (.int j b) => if k = j then match fastBin op k a b with
        | some v => some (.val v S)
        | none => pureTry P gl o T S
      else pureTry P gl o T S
    | _, _ => pureTry P gl o T S
  | .call { callee := .builtin .len, args, argTypes } => match opds gl T args.toList, argTypes[0]? with
    | some [.slice (some _) n _], some t => match P.underlying t with
      | some (.slice _) => some (.val (.int .i64 n) S)
      | _ => none
    | _, _ => pureTry P gl o T S
  | .slice t x none none none => match opd gl T x, P.underlying t with
    | some (.pointer (some ⟨b, off, none⟩)), some (.array (n + 1) e) => match sizeT P e with
      | some _ => some (.val (.slice (some ⟨b, off, none⟩) (n + 1) (n + 1)) S)
      | none => none
    | _, _ => pureTry P gl o T S
  | .range t x => match opd gl T x with
    | some u => match rangeP P t u with
      | some s => forceK (S ++ [iterBlk s 0]) fun S' => some (.val (.pointer (some ⟨S.length, 0, none⟩)) S')
      | none => none
    | none => none
  | .next x isString => match isString with
    | true => match opd gl T x with
      | some u => match nextP fl S u with
        | some (v, S') => some (.val v S')
        | none => none
      | none => none
    | false => none
  | .makeMap _ none => forceK (S ++ [mapBlk [] 0]) fun S' => some (.val (.map (some S.length)) S')
  | .lookup t x i ok => match opd gl T x, opd gl T i with
    | some m, some k => match lookupP P t S m k ok with
      | some v => some (.val v S)
      | none => none
    | _, _ => none
  | .mapUpdate t x i y => match opd gl T x, opd gl T i, opd gl T y with
    | some m, some k, some v => match updateP P fl t S m k v with
      | some S' => some (.val undef S')
      | none => none
    | _, _, _ => none
  | _ => pureTry P gl o T S
end
end Go.Proofs.XX.Vm
