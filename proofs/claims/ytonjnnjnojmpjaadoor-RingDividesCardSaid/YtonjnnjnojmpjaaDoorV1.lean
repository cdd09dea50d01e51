/- A small evaluator over a shadow heap, part 1: values that correspond under a renaming of blocks, shadow heaps, and what a step keeps. -/
import Derived.WalkKit
import Derived.Orders
import Derived.LoopN
import Derived.KernelRfl
import Derived.Below
import Derived.RangeFuncLeaves
import Derived.RangeFuncCalls
import Derived.LoopNIn
import Derived.OrdersIn
import Derived.DeepKeys
namespace Go.Proofs.XX.Vm
open Go Go.RowKit

/-- The record of a range over a function. -/
structure LoopS where
  state : LoopState
  pending : Option Code
  tmps : List Value
  params : Array Tmp
  assign : Code
  body : Code
inductive SObj where
  | loop (l : LoopS)
  | map (es : List MapEntry) (clock : Nat)
  | iter (s : ByteArray) (pos : Nat)
/-- A block of the shadow heap: cells, or (obj) something else. -/
structure Blk where
  cells : List Value
  elem : TypeId
  ro : Bool
  obj : Option SObj

abbrev Ren := Nat → Option Nat

/-- 'v' of the shadow and 'v'' of the world say the same, blocks being renamed. -/
inductive VRel (φ : Ren) : Value → Value → Prop
  | bool (b : Bool) : VRel φ (.bool b) (.bool b)
  | int (k : IntKind) (n : Int) : VRel φ (.int k n) (.int k n)
  | string (s : ByteArray) : VRel φ (.string s) (.string s)
  | nilPtr : VRel φ (.pointer none) (.pointer none)
  | ptr {b r o : Nat} {s : Option Nat} (h : φ b = some r) : VRel φ (.pointer (some ⟨b, o, s⟩)) (.pointer (some ⟨r, o, s⟩))
  | nilSlice (n c : Nat) : VRel φ (.slice none n c) (.slice none n c)
  | slice {b r o : Nat} {s : Option Nat} {n c : Nat} (h : φ b = some r) : VRel φ (.slice (some ⟨b, o, s⟩) n c) (.slice (some ⟨r, o, s⟩) n c)
  | nilMap : VRel φ (.map none) (.map none)
  | map {b r : Nat} (h : φ b = some r) : VRel φ (.map (some b)) (.map (some r))
  | nilFunc : VRel φ .nilFunc .nilFunc
  | yield {l r : Nat} (h : φ l = some r) : VRel φ (.func (.yield l) #[] #[]) (.func (.yield r) #[] #[])
  | func (f : FuncId) {x x' c c' : Array Value} (hx : x.toList.length = x'.toList.length) (ex : ∀ (i : Nat) (v v' : Value), x.toList[i]? = some v → x'.toList[i]? = some v' → VRel φ v v')
      (hc : c.toList.length = c'.toList.length) (ec : ∀ (i : Nat) (v v' : Value), c.toList[i]? = some v → c'.toList[i]? = some v' → VRel φ v v') :
      VRel φ (.func (.func f) x c) (.func (.func f) x' c')
  | agg {x x' : Array Value} (hx : x.toList.length = x'.toList.length) (ex : ∀ (i : Nat) (v v' : Value), x.toList[i]? = some v → x'.toList[i]? = some v' → VRel φ v v') : VRel φ (.agg x) (.agg x')
  | tuple {x x' : Array Value} (hx : x.toList.length = x'.toList.length) (ex : ∀ (i : Nat) (v v' : Value), x.toList[i]? = some v → x'.toList[i]? = some v' → VRel φ v v') : VRel φ (.tuple x) (.tuple x')

def LRel (φ : Ren) (l l' : List Value) : Prop := l.length = l'.length ∧ ∀ (i : Nat) (v v' : Value), l[i]? = some v → l'[i]? = some v' → VRel φ v v'

theorem LRel.nil (φ : Ren) : LRel φ [] [] := ⟨rfl, by simp⟩
theorem LRel.cons {φ : Ren} {v v' : Value} {l l' : List Value} (h : VRel φ v v') (hl : LRel φ l l') : LRel φ (v :: l) (v' :: l') := by
  refine ⟨by simp [hl.1], fun i x x' hx hx' => ?_⟩
  cases i with
  | zero => simp at hx hx'; subst hx; subst hx'; exact h
  | succ i => exact hl.2 i x x' (by simpa using hx) (by simpa using hx')
theorem LRel.head {φ : Ren} {v v' : Value} {l l' : List Value} (h : LRel φ (v :: l) (v' :: l')) : VRel φ v v' := h.2 0 _ _ rfl rfl
theorem LRel.tail {φ : Ren} {v v' : Value} {l l' : List Value} (h : LRel φ (v :: l) (v' :: l')) : LRel φ l l' :=
  ⟨by simpa using h.1, fun i x x' hx hx' => h.2 (i + 1) x x' (by simpa using hx) (by simpa using hx')⟩
theorem LRel.get {φ : Ren} {l l' : List Value} (h : LRel φ l l') {i : Nat} {v : Value} (hv : l[i]? = some v) : ∃ v', l'[i]? = some v' ∧ VRel φ v v' := by
  have hi : i < l.length := (List.getElem?_eq_some_iff.1 hv).1
  have hi' : i < l'.length := h.1 ▸ hi
  exact ⟨l'[i], List.getElem?_eq_getElem hi', h.2 i _ _ hv (List.getElem?_eq_getElem hi')⟩
theorem LRel.none {φ : Ren} {l l' : List Value} (h : LRel φ l l') {i : Nat} (hv : l[i]? = none) : l'[i]? = none := by
  rw [List.getElem?_eq_none_iff] at *; rw [← h.1]; exact hv
theorem LRel.append {φ : Ren} {l l' m m' : List Value} (h : LRel φ l l') (hm : LRel φ m m') : LRel φ (l ++ m) (l' ++ m') := by
  induction l generalizing l' with
  | nil => cases l' with
    | nil => simpa using hm
    | cons _ _ => simp [LRel] at h
  | cons v l ih => cases l' with
    | nil => simp [LRel] at h
    | cons v' l' => exact LRel.cons h.head (ih h.tail)
theorem LRel.set {φ : Ren} {l l' : List Value} (h : LRel φ l l') {v v' : Value} (hv : VRel φ v v') (i : Nat) : LRel φ (l.set i v) (l'.set i v') := by
  induction l generalizing l' i with
  | nil => cases l' with
    | nil => simpa using h
    | cons _ _ => simp [LRel] at h
  | cons x l ih => cases l' with
    | nil => simp [LRel] at h
    | cons x' l' => cases i with
      | zero => exact LRel.cons hv h.tail
      | succ i => exact LRel.cons h.head (ih h.tail i)
theorem LRel.drop {φ : Ren} {l l' : List Value} (h : LRel φ l l') (n : Nat) : LRel φ (l.drop n) (l'.drop n) := by
  refine ⟨by simp [h.1], fun i v v' hv hv' => ?_⟩
  rw [List.getElem?_drop] at hv hv'
  exact h.2 _ v v' hv hv'
theorem LRel.take {φ : Ren} {l l' : List Value} (h : LRel φ l l') (n : Nat) : LRel φ (l.take n) (l'.take n) := by
  refine ⟨by simp [h.1], fun i v v' hv hv' => ?_⟩
  rw [List.getElem?_take] at hv hv'
  split at hv
  · simp_all; exact h.2 _ v v' hv hv'
  · simp at hv

theorem VRel.mono {φ ψ : Ren} (hφ : ∀ b r, φ b = some r → ψ b = some r) {v v' : Value} (h : VRel φ v v') : VRel ψ v v' := by
  induction h with
  | bool b => exact .bool b
  | int k n => exact .int k n
  | string s => exact .string s
  | nilPtr => exact .nilPtr
  | ptr h => exact .ptr (hφ _ _ h)
  | nilSlice n c => exact .nilSlice n c
  | slice h => exact .slice (hφ _ _ h)
  | nilMap => exact .nilMap
  | map h => exact .map (hφ _ _ h)
  | nilFunc => exact .nilFunc
  | yield h => exact .yield (hφ _ _ h)
  | func f hx _ hc _ ih1 ih2 => exact .func f hx (fun i v v' a b => ih1 i v v' a b) hc (fun i v v' a b => ih2 i v v' a b)
  | agg hx _ ih => exact .agg hx fun i v v' a b => ih i v v' a b
  | tuple hx _ ih => exact .tuple hx fun i v v' a b => ih i v v' a b
theorem LRel.mono {φ ψ : Ren} (hφ : ∀ b r, φ b = some r → ψ b = some r) {l l' : List Value} (h : LRel φ l l') : LRel ψ l l' :=
  ⟨h.1, fun i v v' a b => (h.2 i v v' a b).mono hφ⟩

/-- One cell's value without an address. -/
def scalar : Value → Bool
  | .bool _ | .int _ _ | .string _ | .pointer none | .slice none _ _ | .map none | .nilFunc => true
  | .func (.func _) x c => x.toList.isEmpty && c.toList.isEmpty
  | _ => false
def flat : Value → Bool
  | .agg x => x.toList.all scalar
  | v => scalar v
/-- A value without an address. -/
def plain : Value → Bool
  | .tuple x => x.toList.all flat
  | v => flat v

theorem scalar_eq {φ : Ren} {v v' : Value} (h : scalar v = true) (r : VRel φ v v') : v' = v := by
  cases r
  case func f x x' c c' hx ex hc ec =>
    simp [scalar] at h
    obtain ⟨h1, h2⟩ := h
    subst h1; subst h2
    have e1 : x' = #[] := Array.eq_empty_of_size_eq_zero (by simpa using hx.symm)
    have e2 : c' = #[] := Array.eq_empty_of_size_eq_zero (by simpa using hc.symm)
    rw [e1, e2]
  all_goals simp_all [scalar]
theorem list_eq {φ : Ren} {l l' : List Value} (p : Value → Bool) (hp : ∀ v v', p v = true → VRel φ v v' → v' = v) (h : l.all p = true) (r : LRel φ l l') : l' = l := by
  induction l generalizing l' with
  | nil => cases l' with
    | nil => rfl
    | cons _ _ => simp [LRel] at r
  | cons v l ih => cases l' with
    | nil => simp [LRel] at r
    | cons v' l' =>
      simp only [List.all_cons, Bool.and_eq_true] at h
      rw [hp v v' h.1 r.head, ih h.2 r.tail]
theorem flat_eq {φ : Ren} {v v' : Value} (h : flat v = true) (r : VRel φ v v') : v' = v := by
  cases r
  case agg x x' hx ex =>
    have := list_eq (φ := φ) scalar (fun _ _ => scalar_eq) (l := x.toList) (l' := x'.toList) (by simpa [flat] using h) ⟨hx, ex⟩
    cases x; cases x'; simp_all
  all_goals exact scalar_eq (φ := φ) (by simpa [flat] using h) (by constructor <;> assumption)
theorem plain_eq {φ : Ren} {v v' : Value} (h : plain v = true) (r : VRel φ v v') : v' = v := by
  cases r
  case tuple x x' hx ex =>
    have := list_eq (φ := φ) flat (fun _ _ => flat_eq) (l := x.toList) (l' := x'.toList) (by simpa [plain] using h) ⟨hx, ex⟩
    cases x; cases x'; simp_all
  all_goals exact flat_eq (φ := φ) (by simpa [plain] using h) (by constructor <;> assumption)
theorem scalar_refl {φ : Ren} {v : Value} (h : scalar v = true) : VRel φ v v := by
  cases v
  case bool b => exact .bool b
  case int k n => exact .int k n
  case string s => exact .string s
  case pointer a => cases a with
    | none => exact .nilPtr
    | some a => simp [scalar] at h
  case slice a n c => cases a with
    | none => exact .nilSlice n c
    | some a => simp [scalar] at h
  case map r => cases r with
    | none => exact .nilMap
    | some a => simp [scalar] at h
  case nilFunc => exact .nilFunc
  case func fn x c =>
    cases fn
    case func f =>
      simp [scalar] at h
      exact .func f rfl (fun i v v' a _ => by simp [h.1] at a) rfl (fun i v v' a _ => by simp [h.2] at a)
    all_goals simp [scalar] at h
  all_goals simp [scalar] at h
theorem list_refl {φ : Ren} {l : List Value} (p : Value → Bool) (hp : ∀ v, p v = true → VRel φ v v) (h : l.all p = true) : LRel φ l l :=
  ⟨rfl, fun i v v' a b => by
    rw [a] at b; cases b
    exact hp v ((List.all_eq_true.1 h) v (List.mem_of_getElem? a))⟩
theorem flat_refl {φ : Ren} {v : Value} (h : flat v = true) : VRel φ v v := by
  cases v
  case agg x => exact .agg rfl (list_refl (φ := φ) scalar (fun _ => scalar_refl) (by simpa [flat] using h)).2
  all_goals exact scalar_refl (by simpa [flat] using h)
theorem plain_refl {φ : Ren} {v : Value} (h : plain v = true) : VRel φ v v := by
  cases v
  case tuple x => exact .tuple rfl (list_refl (φ := φ) flat (fun _ => flat_refl) (by simpa [plain] using h)).2
  all_goals exact flat_refl (by simpa [plain] using h)
theorem plains_refl {φ : Ren} {l : List Value} (h : l.all plain = true) : LRel φ l l := list_refl plain (fun _ => plain_refl) h
theorem undef_refl (φ : Ren) : VRel φ undef undef := plain_refl (by simp [undef, plain])

/-- A block of the shadow and an object of the world say the same. -/
def BRel (φ : Ren) (k : Blk) (o : Obj) : Prop :=
  match k.obj with
  | none => ∃ c' fz, o = .cells c' k.elem fz ∧ LRel φ k.cells c'.toList ∧ (k.ro = false → fz = (0, 0))
  | some (.loop l) => ∃ fn tmps' d, o = .loop { state := l.state, pending := l.pending, fn := fn, tmps := tmps', params := l.params, assign := l.assign, body := l.body, defers := d } ∧ LRel φ l.tmps tmps'.toList
  | some (.map es clock) => o = .map es.toArray clock
  | some (.iter s pos) => o = .stringIter s pos
theorem BRel.mono {φ ψ : Ren} (hφ : ∀ b r, φ b = some r → ψ b = some r) {k : Blk} {o : Obj} (h : BRel φ k o) : BRel ψ k o := by
  unfold BRel at *
  split at h
  · obtain ⟨c', fz, h1, h2, h3⟩ := h; exact ⟨c', fz, h1, h2.mono hφ, h3⟩
  · obtain ⟨fn, t', d, h1, h2⟩ := h; exact ⟨fn, t', d, h1, h2.mono hφ⟩
  · exact h
  · exact h

/-- The shadow heap corresponds to the world. -/
structure Good (φ : Ren) (S : List Blk) (w : World) : Prop where
  blk : ∀ b k r, S[b]? = some k → φ b = some r → ∃ o, w.heap[r]? = some o ∧ BRel φ k o
  low : ∀ b r, φ b = some r → r < w.heap.size
  inj : ∀ b c r, φ b = some r → φ c = some r → b = c
theorem Good.cells {φ : Ren} {S : List Blk} {w : World} (h : Good φ S w) {b r : Nat} {cs : List Value} {t : TypeId} {ro : Bool} (hb : S[b]? = some ⟨cs, t, ro, none⟩) (hr : φ b = some r) :
    ∃ c' fz, w.heap[r]? = some (.cells c' t fz) ∧ LRel φ cs c'.toList ∧ (ro = false → fz = (0, 0)) := by
  obtain ⟨o, h1, c', fz, rfl, h2, h3⟩ := h.blk b _ r hb hr
  exact ⟨c', fz, h1, h2, h3⟩

/-- What has become of renaming, shadow and world; only blocks from 'fl' on may have been written. -/
structure Step (fl : Nat) (φ : Ren) (S : List Blk) (w : World) (ψ : Ren) (S' : List Blk) (w' : World) : Prop where
  ext : ∀ b r, φ b = some r → ψ b = some r
  dom : ∀ b r, ψ b = some r → φ b = some r ∨ (S.length ≤ b ∧ b < S'.length ∧ w.heap.size ≤ r)
  len : S.length ≤ S'.length
  keep : ∀ b, b < fl → b < S.length → S'[b]? = S[b]?
  frame : ∀ r, r < w.heap.size → (∀ b, fl ≤ b → b < S.length → φ b ≠ some r) → w'.heap[r]? = w.heap[r]?
  size : w.heap.size ≤ w'.heap.size
  os : w'.os = w.os
  tape : w'.tape = w.tape
  output : w'.output = w.output

/-- The shadow blocks from n to m stand for nothing yet. -/
def Fresh (φ : Ren) (n m : Nat) : Prop := ∀ b, n ≤ b → b < m → φ b = none

theorem Step.refl (fl : Nat) (φ : Ren) (S : List Blk) (w : World) : Step fl φ S w φ S w :=
  ⟨fun _ _ h => h, fun _ _ h => .inl h, Nat.le_refl _, fun _ _ _ => rfl, fun _ _ _ => rfl, Nat.le_refl _, rfl, rfl, rfl⟩
theorem Step.fresh {fl : Nat} {φ ψ : Ren} {S S' : List Blk} {w w' : World} {m : Nat} (h : Step fl φ S w ψ S' w') (hf : Fresh φ S.length m) : Fresh ψ S'.length m := by
  intro b h1 h2
  cases hb : ψ b with
  | none => rfl
  | some r =>
    rcases h.dom b r hb with h3 | ⟨_, h3, _⟩
    · have := hf b (Nat.le_trans h.len h1) h2; rw [this] at h3; cases h3
    · omega
theorem Step.trans {fl : Nat} {φ ψ χ : Ren} {S S' S'' : List Blk} {w w' w'' : World} (h : Step fl φ S w ψ S' w') (k : Step fl ψ S' w' χ S'' w'') (hf : Fresh φ S.length S''.length) :
    Step fl φ S w χ S'' w'' := by
  refine ⟨fun b r e => k.ext b r (h.ext b r e), fun b r e => ?_, Nat.le_trans h.len k.len, fun b e1 e2 => ?_, fun r e1 e2 => ?_, Nat.le_trans h.size k.size, k.os.trans h.os, k.tape.trans h.tape, k.output.trans h.output⟩
  · rcases k.dom b r e with e | ⟨e1, e2, e3⟩
    · rcases h.dom b r e with e | ⟨e1, e2, e3⟩
      · exact .inl e
      · exact .inr ⟨e1, Nat.lt_of_lt_of_le e2 k.len, e3⟩
    · exact .inr ⟨Nat.le_trans h.len e1, e2, Nat.le_trans h.size e3⟩
  · rw [k.keep b e1 (Nat.lt_of_lt_of_le e2 h.len), h.keep b e1 e2]
  · rw [k.frame r (Nat.lt_of_lt_of_le e1 h.size) ?_, h.frame r e1 e2]
    intro b f1 f2 f3
    rcases h.dom b r f3 with g | ⟨_, _, g⟩
    · by_cases hb : b < S.length
      · exact e2 b f1 hb g
      · have := hf b (by omega) (Nat.lt_of_lt_of_le f2 k.len); rw [this] at g; cases g
    · omega
theorem Step.weaken {fl fl' : Nat} {φ ψ : Ren} {S S' : List Blk} {w w' : World} (h : Step fl φ S w ψ S' w') (hl : fl' ≤ fl) : Step fl' φ S w ψ S' w' :=
  ⟨h.ext, h.dom, h.len, fun b e1 e2 => h.keep b (by omega) e2, fun r e1 e2 => h.frame r e1 fun b f1 f2 => e2 b (by omega) f2, h.size, h.os, h.tape, h.output⟩

/-- A new block. -/
def newRen (φ : Ren) (n r : Nat) : Ren := fun b => if b = n then some r else φ b
theorem newRen_old {φ : Ren} {n r : Nat} (hn : φ n = none) (b s : Nat) (h : φ b = some s) : newRen φ n r b = some s := by
  unfold newRen; split
  · rename_i e; subst e; rw [hn] at h; cases h
  · exact h
theorem newRen_new (φ : Ren) (n r : Nat) : newRen φ n r n = some r := by simp [newRen]

theorem size_new (w : World) (o : Obj) : (w.alloc o).heap.size = w.heap.size + 1 := by
  show (w.heap.push o).size = _; simp
theorem heap_new (w : World) (o : Obj) : (w.alloc o).heap[w.heap.size]? = some o := by
  show (w.heap.push o)[w.heap.size]? = _; simp
theorem Good.new {φ : Ren} {S : List Blk} {w : World} (h : Good φ S w) (fl : Nat) (hn : φ S.length = none) (k : Blk) (o : Obj) (hro : BRel φ k o) :
    Good (newRen φ S.length w.heap.size) (S ++ [k]) (w.alloc o) ∧ Step fl φ S w (newRen φ S.length w.heap.size) (S ++ [k]) (w.alloc o) := by
  have hext := fun b s e => newRen_old (r := w.heap.size) hn b s e
  refine ⟨⟨fun b x r hb hr => ?_, fun b r hr => ?_, fun b c r hb hc => ?_⟩, ⟨hext, fun b r e => ?_, by simp, fun b e1 e2 => ?_, fun r e1 e2 => ?_, by rw [size_new]; omega, rfl, rfl, rfl⟩⟩
  · by_cases hbn : b = S.length
    · subst hbn
      simp at hb
      rw [newRen_new] at hr; cases hr
      subst hb
      exact ⟨o, heap_new _ _, hro.mono hext⟩
    · have hb' : S[b]? = some x := by
        have : b < (S ++ [k]).length := (List.getElem?_eq_some_iff.1 hb).1
        rw [List.getElem?_append_left (by simp at this; omega)] at hb; exact hb
      have hr' : φ b = some r := by simpa [newRen, hbn] using hr
      obtain ⟨o2, h1, h2⟩ := h.blk b x r hb' hr'
      exact ⟨o2, by rw [Below.heap_alloc _ _ _ (h.low b r hr')]; exact h1, h2.mono hext⟩
  · by_cases hbn : b = S.length
    · subst hbn; rw [newRen_new] at hr; cases hr; rw [size_new]; omega
    · have := h.low b r (by simpa [newRen, hbn] using hr); rw [size_new]; omega
  · unfold newRen at hb hc
    split at hb <;> split at hc
    · simp_all
    · have := h.low c r hc; cases hb; omega
    · have := h.low b r hb; cases hc; omega
    · exact h.inj b c r hb hc
  · by_cases hbn : b = S.length
    · subst hbn; rw [newRen_new] at e; cases e; exact .inr ⟨Nat.le_refl _, by simp, Nat.le_refl _⟩
    · exact .inl (by simpa [newRen, hbn] using e)
  · rw [List.getElem?_append_left e2]
  · exact Below.heap_alloc _ _ _ e1

/-- A block turned in place. -/
theorem Good.turn {φ : Ren} {S : List Blk} {w w' : World} (good : Good φ S w) {fl b r : Nat} {k : Blk} {o : Obj} (hbl : b < S.length) (hb : φ b = some r) (hfl : fl ≤ b) (hk : BRel φ k o)
    (hheap : ∀ s, w'.heap[s]? = if s = r then some o else w.heap[s]?) (hsz : w'.heap.size = w.heap.size) (hos : w'.os = w.os) (htape : w'.tape = w.tape) (hout : w'.output = w.output) :
    Good φ (S.set b k) w' ∧ Step fl φ S w φ (S.set b k) w' := by
  refine ⟨⟨fun x y s hx hs => ?_, fun x s hs => by rw [hsz]; exact good.low x s hs, good.inj⟩, ⟨fun _ _ e => e, fun _ _ e => .inl e, by simp, fun x e1 _ => ?_, fun s e1 e2 => ?_, by omega, hos, htape, hout⟩⟩
  · by_cases hxb : x = b
    · subst hxb
      rw [hb] at hs; cases hs
      rw [List.getElem?_set_self hbl] at hx; cases hx
      exact ⟨o, by rw [hheap, if_pos rfl], hk⟩
    · rw [List.getElem?_set_ne (fun e => hxb e.symm)] at hx
      obtain ⟨o2, g1, g2⟩ := good.blk x y s hx hs
      have hsr : s ≠ r := fun e => hxb (good.inj x b r (e ▸ hs) hb)
      exact ⟨o2, by rw [hheap, if_neg hsr]; exact g1, g2⟩
  · rw [List.getElem?_set_ne (by omega)]
  · rw [hheap, if_neg]
    intro e; subst e; exact e2 b hfl hbl hb
end Go.Proofs.XX.Vm
