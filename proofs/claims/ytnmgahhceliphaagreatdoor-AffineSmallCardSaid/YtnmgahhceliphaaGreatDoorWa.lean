/- A small evaluator over a shadow heap, operations. -/
import Derived.WalkKit
import Derived.Orders
import Derived.LoopN
import Derived.KernelRfl
import Derived.Below
import Derived.RangeFuncLeaves
import Derived.RangeFuncCalls
import Derived.LoopNIn
import Derived.OrdersIn
import Derived.DeepKeys
import Derived.Laws.MakeOwn
import Derived.Lib.AppendZerosOnto
/- A small evaluator over a shadow heap, part 1: values that correspond under a renaming of blocks, shadow heaps, and what a step keeps. -/
namespace Go.Proofs.XX.Vm
open Go Go.RowKit

/-- The record of a range over a function. -/
structure LoopS where
  state : LoopState
  pending : Option Code
  tmps : List Value
  params : Array Tmp
  assign : Code
  body : Code
inductive SObj where
  | loop (l : LoopS)
  | map (es : List MapEntry) (clock : Nat)
  | mapv (es : List MapEntry) (clock : Nat)
  | iter (s : ByteArray) (pos : Nat)
  | ints (kd : IntKind) (lo : Nat) (L : List Int)
  | buf (kd : IntKind) (sz : Nat) (L : List Int)
  | bufc (sz : Nat)
  | que (kd : IntKind) (sz lo : Nat) (L : List Int)
  | dead
/-- A capacity of which nothing is known. -/
def unk : Nat := 1180591620717411303424
/-- A block of the shadow heap: cells, or (obj) something else. -/
structure Blk where
  cells : List Value
  elem : TypeId
  ro : Bool
  obj : Option SObj

/-- Where the shadow's blocks lie in the world; and how many elements a block of the world that came of an append has room for (0: nothing is known). -/
structure Ren where
  f : Nat → Option Nat
  cap : Nat → Nat
instance : CoeFun Ren fun _ => Nat → Option Nat := ⟨Ren.f⟩
/-- Which capacities slices of a block have. -/
def CapOk (φ : Ren) (r o c c' : Nat) : Prop := φ.cap r ≠ 0 → c' < unk ∧ (c = unk → o = 0 → c' = φ.cap r)
theorem CapOk.zero {φ : Ren} {r o c c' : Nat} (h : φ.cap r = 0) : CapOk φ r o c c' := fun h2 => absurd h h2
structure RExt (φ ψ : Ren) : Prop where
  fn : ∀ b r, φ b = some r → ψ b = some r
  cap : ∀ b r, φ b = some r → ψ.cap r = φ.cap r
instance {φ ψ : Ren} : CoeFun (RExt φ ψ) fun _ => ∀ b r, φ b = some r → ψ b = some r := ⟨RExt.fn⟩
theorem RExt.refl (φ : Ren) : RExt φ φ := ⟨fun _ _ h => h, fun _ _ _ => rfl⟩
theorem RExt.trans {φ ψ χ : Ren} (h : RExt φ ψ) (k : RExt ψ χ) : RExt φ χ := ⟨fun b r e => k.fn b r (h.fn b r e), fun b r e => (k.cap b r (h.fn b r e)).trans (h.cap b r e)⟩

/-- 'v' of the shadow and 'v'' of the world say the same, blocks being renamed. Of 'chan none', which the evaluator never makes, nothing is known. -/
inductive VRel (φ : Ren) : Value → Value → Prop
  | bool (b : Bool) : VRel φ (.bool b) (.bool b)
  | int (k : IntKind) (n : Int) : VRel φ (.int k n) (.int k n)
  | string (s : ByteArray) : VRel φ (.string s) (.string s)
  | nilPtr : VRel φ (.pointer none) (.pointer none)
  | ptr {b r o : Nat} {s : Option Nat} (h : φ b = some r) : VRel φ (.pointer (some ⟨b, o, s⟩)) (.pointer (some ⟨r, o, s⟩))
  | nilSlice (n c : Nat) : VRel φ (.slice none n c) (.slice none n c)
  | slice {b r o : Nat} {s : Option Nat} {n c c' : Nat} (h : φ b = some r) (hc : c' = c ∨ c = unk) (hn : n ≤ c') (hk : CapOk φ r o c c') : VRel φ (.slice (some ⟨b, o, s⟩) n c) (.slice (some ⟨r, o, s⟩) n c')
  | empty (a a' : Addr) (c : Nat) (hc : c ≠ unk) : VRel φ (.slice (some a) 0 c) (.slice (some a') 0 c)
  | emptyS (b o : Nat) (a' : Addr) (c' : Nat) : VRel φ (.slice (some ⟨b, o, some 0⟩) 0 unk) (.slice (some a') 0 c')
  | qs {b r o n c' sz : Nat} (h : φ b = some r) (hs : φ.cap r / unk ≤ o) (hn : n ≤ c') (hr : φ.cap r ≠ 0 → c' < unk ∧ o - φ.cap r / unk + c' * sz ≤ φ.cap r % unk * sz) : VRel φ (.iface sz (.slice (some ⟨b, o, none⟩) n unk)) (.slice (some ⟨r, o - φ.cap r / unk, none⟩) n c')
  | qp {b r o sz : Nat} (h : φ b = some r) (hs : φ.cap r / unk ≤ o) : VRel φ (.iface sz (.pointer (some ⟨b, o, none⟩))) (.pointer (some ⟨r, o - φ.cap r / unk, none⟩))
  | nilMap : VRel φ (.map none) (.map none)
  | junk (v' : Value) : VRel φ (.chan none) v'
  | map {b r : Nat} (h : φ b = some r) : VRel φ (.map (some b)) (.map (some r))
  | nilFunc : VRel φ .nilFunc .nilFunc
  | yield {l r : Nat} (h : φ l = some r) : VRel φ (.func (.yield l) #[] #[]) (.func (.yield r) #[] #[])
  | func (f : FuncId) {x x' c c' : Array Value} (hx : x.toList.length = x'.toList.length) (ex : ∀ (i : Nat) (v v' : Value), x.toList[i]? = some v → x'.toList[i]? = some v' → VRel φ v v')
      (hc : c.toList.length = c'.toList.length) (ec : ∀ (i : Nat) (v v' : Value), c.toList[i]? = some v → c'.toList[i]? = some v' → VRel φ v v') :
      VRel φ (.func (.func f) x c) (.func (.func f) x' c')
  | agg {x x' : Array Value} (hx : x.toList.length = x'.toList.length) (ex : ∀ (i : Nat) (v v' : Value), x.toList[i]? = some v → x'.toList[i]? = some v' → VRel φ v v') : VRel φ (.agg x) (.agg x')
  | tuple {x x' : Array Value} (hx : x.toList.length = x'.toList.length) (ex : ∀ (i : Nat) (v v' : Value), x.toList[i]? = some v → x'.toList[i]? = some v' → VRel φ v v') : VRel φ (.tuple x) (.tuple x')

/-- Of which nothing is known. -/
def isJ : Value → Bool
  | .chan _ => true
  | _ => false
def LRel (φ : Ren) (l l' : List Value) : Prop := l.length = l'.length ∧ ∀ (i : Nat) (v v' : Value), l[i]? = some v → l'[i]? = some v' → VRel φ v v'

theorem LRel.nil (φ : Ren) : LRel φ [] [] := ⟨rfl, by simp⟩
theorem LRel.cons {φ : Ren} {v v' : Value} {l l' : List Value} (h : VRel φ v v') (hl : LRel φ l l') : LRel φ (v :: l) (v' :: l') := by
  refine ⟨by simp [hl.1], fun i x x' hx hx' => ?_⟩
  cases i with
  | zero => simp at hx hx'; subst hx; subst hx'; exact h
  | succ i => exact hl.2 i x x' (by simpa using hx) (by simpa using hx')
theorem LRel.head {φ : Ren} {v v' : Value} {l l' : List Value} (h : LRel φ (v :: l) (v' :: l')) : VRel φ v v' := h.2 0 _ _ rfl rfl
theorem LRel.tail {φ : Ren} {v v' : Value} {l l' : List Value} (h : LRel φ (v :: l) (v' :: l')) : LRel φ l l' :=
  ⟨by simpa using h.1, fun i x x' hx hx' => h.2 (i + 1) x x' (by simpa using hx) (by simpa using hx')⟩
theorem LRel.get {φ : Ren} {l l' : List Value} (h : LRel φ l l') {i : Nat} {v : Value} (hv : l[i]? = some v) : ∃ v', l'[i]? = some v' ∧ VRel φ v v' := by
  have hi : i < l.length := (List.getElem?_eq_some_iff.1 hv).1
  have hi' : i < l'.length := h.1 ▸ hi
  exact ⟨l'[i], List.getElem?_eq_getElem hi', h.2 i _ _ hv (List.getElem?_eq_getElem hi')⟩
theorem LRel.none {φ : Ren} {l l' : List Value} (h : LRel φ l l') {i : Nat} (hv : l[i]? = none) : l'[i]? = none := by
  rw [List.getElem?_eq_none_iff] at *; rw [← h.1]; exact hv
theorem LRel.append {φ : Ren} {l l' m m' : List Value} (h : LRel φ l l') (hm : LRel φ m m') : LRel φ (l ++ m) (l' ++ m') := by
  induction l generalizing l' with
  | nil => cases l' with
    | nil => simpa using hm
    | cons _ _ => simp [LRel] at h
  | cons v l ih => cases l' with
    | nil => simp [LRel] at h
    | cons v' l' => exact LRel.cons h.head (ih h.tail)
theorem LRel.set {φ : Ren} {l l' : List Value} (h : LRel φ l l') {v v' : Value} (hv : VRel φ v v') (i : Nat) : LRel φ (l.set i v) (l'.set i v') := by
  induction l generalizing l' i with
  | nil => cases l' with
    | nil => simpa using h
    | cons _ _ => simp [LRel] at h
  | cons x l ih => cases l' with
    | nil => simp [LRel] at h
    | cons x' l' => cases i with
      | zero => exact LRel.cons hv h.tail
      | succ i => exact LRel.cons h.head (ih h.tail i)
theorem LRel.drop {φ : Ren} {l l' : List Value} (h : LRel φ l l') (n : Nat) : LRel φ (l.drop n) (l'.drop n) := by
  refine ⟨by simp [h.1], fun i v v' hv hv' => ?_⟩
  rw [List.getElem?_drop] at hv hv'
  exact h.2 _ v v' hv hv'
theorem LRel.take {φ : Ren} {l l' : List Value} (h : LRel φ l l') (n : Nat) : LRel φ (l.take n) (l'.take n) := by
  refine ⟨by simp [h.1], fun i v v' hv hv' => ?_⟩
  rw [List.getElem?_take] at hv hv'
  split at hv
  · simp_all; exact h.2 _ v v' hv hv'
  · simp at hv

theorem VRel.mono {φ ψ : Ren} (hφ : RExt φ ψ) {v v' : Value} (h : VRel φ v v') : VRel ψ v v' := by
  induction h with
  | bool b => exact .bool b
  | int k n => exact .int k n
  | string s => exact .string s
  | nilPtr => exact .nilPtr
  | ptr h => exact .ptr (hφ.fn _ _ h)
  | nilSlice n c => exact .nilSlice n c
  | slice h hc hn hk => exact .slice (hφ.fn _ _ h) hc hn (by unfold CapOk at *; rw [hφ.cap _ _ h]; exact hk)
  | empty a a' c hc => exact .empty a a' c hc
  | emptyS b o a' c' => exact .emptyS b o a' c'
  | qs h hs hn hr =>
    have e := hφ.cap _ _ h
    rw [← e] at hs hr ⊢
    exact .qs (hφ.fn _ _ h) hs hn hr
  | qp h hs =>
    have e := hφ.cap _ _ h
    rw [← e] at hs ⊢
    exact .qp (hφ.fn _ _ h) hs
  | nilMap => exact .nilMap
  | junk v' => exact .junk v'
  | map h => exact .map (hφ.fn _ _ h)
  | nilFunc => exact .nilFunc
  | yield h => exact .yield (hφ.fn _ _ h)
  | func f hx _ hc _ ih1 ih2 => exact .func f hx (fun i v v' a b => ih1 i v v' a b) hc (fun i v v' a b => ih2 i v v' a b)
  | agg hx _ ih => exact .agg hx fun i v v' a b => ih i v v' a b
  | tuple hx _ ih => exact .tuple hx fun i v v' a b => ih i v v' a b
theorem LRel.mono {φ ψ : Ren} (hφ : RExt φ ψ) {l l' : List Value} (h : LRel φ l l') : LRel ψ l l' :=
  ⟨h.1, fun i v v' a b => (h.2 i v v' a b).mono hφ⟩

/-- One cell's value without an address. -/
def scalar : Value → Bool
  | .bool _ | .int _ _ | .string _ | .pointer none | .slice none _ _ | .map none | .nilFunc => true
  | .func (.func _) x c => x.toList.isEmpty && c.toList.isEmpty
  | _ => false
def flat : Value → Bool
  | .agg x => x.toList.all scalar
  | v => scalar v
/-- A value without an address. -/
def plain : Value → Bool
  | .tuple x => x.toList.all flat
  | v => flat v

theorem scalar_eq {φ : Ren} {v v' : Value} (h : scalar v = true) (r : VRel φ v v') : v' = v := by
  cases r
  case func f x x' c c' hx ex hc ec =>
    simp [scalar] at h
    obtain ⟨h1, h2⟩ := h
    subst h1; subst h2
    have e1 : x' = #[] := Array.eq_empty_of_size_eq_zero (by simpa using hx.symm)
    have e2 : c' = #[] := Array.eq_empty_of_size_eq_zero (by simpa using hc.symm)
    rw [e1, e2]
  all_goals simp_all [scalar]
theorem list_eq {φ : Ren} {l l' : List Value} (p : Value → Bool) (hp : ∀ v v', p v = true → VRel φ v v' → v' = v) (h : l.all p = true) (r : LRel φ l l') : l' = l := by
  induction l generalizing l' with
  | nil => cases l' with
    | nil => rfl
    | cons _ _ => simp [LRel] at r
  | cons v l ih => cases l' with
    | nil => simp [LRel] at r
    | cons v' l' =>
      simp only [List.all_cons, Bool.and_eq_true] at h
      rw [hp v v' h.1 r.head, ih h.2 r.tail]
theorem flat_eq {φ : Ren} {v v' : Value} (h : flat v = true) (r : VRel φ v v') : v' = v := by
  cases r
  case agg x x' hx ex =>
    have := list_eq (φ := φ) scalar (fun _ _ => scalar_eq) (l := x.toList) (l' := x'.toList) (by simpa [flat] using h) ⟨hx, ex⟩
    cases x; cases x'; simp_all
  all_goals exact scalar_eq (φ := φ) (by simpa [flat] using h) (by constructor <;> assumption)
theorem plain_eq {φ : Ren} {v v' : Value} (h : plain v = true) (r : VRel φ v v') : v' = v := by
  cases r
  case tuple x x' hx ex =>
    have := list_eq (φ := φ) flat (fun _ _ => flat_eq) (l := x.toList) (l' := x'.toList) (by simpa [plain] using h) ⟨hx, ex⟩
    cases x; cases x'; simp_all
  all_goals exact flat_eq (φ := φ) (by simpa [plain] using h) (by constructor <;> assumption)
theorem scalar_refl {φ : Ren} {v : Value} (h : scalar v = true) : VRel φ v v := by
  cases v
  case bool b => exact .bool b
  case int k n => exact .int k n
  case string s => exact .string s
  case pointer a => cases a with
    | none => exact .nilPtr
    | some a => simp [scalar] at h
  case slice a n c => cases a with
    | none => exact .nilSlice n c
    | some a => simp [scalar] at h
  case map r => cases r with
    | none => exact .nilMap
    | some a => simp [scalar] at h
  case nilFunc => exact .nilFunc
  case func fn x c =>
    cases fn
    case func f =>
      simp [scalar] at h
      exact .func f rfl (fun i v v' a _ => by simp [h.1] at a) rfl (fun i v v' a _ => by simp [h.2] at a)
    all_goals simp [scalar] at h
  all_goals simp [scalar] at h
theorem list_refl {φ : Ren} {l : List Value} (p : Value → Bool) (hp : ∀ v, p v = true → VRel φ v v) (h : l.all p = true) : LRel φ l l :=
  ⟨rfl, fun i v v' a b => by
    rw [a] at b; cases b
    exact hp v ((List.all_eq_true.1 h) v (List.mem_of_getElem? a))⟩
theorem flat_refl {φ : Ren} {v : Value} (h : flat v = true) : VRel φ v v := by
  cases v
  case agg x => exact .agg rfl (list_refl (φ := φ) scalar (fun _ => scalar_refl) (by simpa [flat] using h)).2
  all_goals exact scalar_refl (by simpa [flat] using h)
theorem plain_refl {φ : Ren} {v : Value} (h : plain v = true) : VRel φ v v := by
  cases v
  case tuple x => exact .tuple rfl (list_refl (φ := φ) flat (fun _ => flat_refl) (by simpa [plain] using h)).2
  all_goals exact flat_refl (by simpa [plain] using h)
theorem plains_refl {φ : Ren} {l : List Value} (h : l.all plain = true) : LRel φ l l := list_refl plain (fun _ => plain_refl) h
theorem undef_refl (φ : Ren) : VRel φ undef undef := plain_refl (by simp [undef, plain])

/-- Entries of maps whose values may bear addresses. -/
def ERel (φ : Ren) : List MapEntry → List MapEntry → Prop
  | [], [] => True
  | e :: es, e' :: es' => e'.key = e.key ∧ e'.born = e.born ∧ VRel φ e.val e'.val ∧ ERel φ es es'
  | _, _ => False
theorem ERel.mono {φ ψ : Ren} (hφ : RExt φ ψ) : ∀ {es es' : List MapEntry}, ERel φ es es' → ERel ψ es es'
  | [], [], _ => trivial
  | _ :: _, _ :: _, h => ⟨h.1, h.2.1, h.2.2.1.mono hφ, ERel.mono hφ h.2.2.2⟩
  | [], _ :: _, h => h
  | _ :: _, [], h => h

/-- A block of the shadow and an object of the world say the same. -/
def BRel (φ : Ren) (k : Blk) (o : Obj) : Prop :=
  match k.obj with
  | none => ∃ c' fz, o = .cells c' k.elem fz ∧ LRel φ k.cells (c'.toList.take k.cells.length) ∧ (k.ro = false → fz = (0, 0)) ∧ (k.ro = true → c'.toList.length = k.cells.length)
  | some (.ints kd lo L) => ∃ c' fz, o = .cells c' k.elem fz ∧ (∀ (i : Nat) (n : Int), L[i]? = some n → c'.toList[lo + i]? = some (.int kd n)) ∧ (k.ro = false → fz = (0, 0))
  | some (.loop l) => ∃ fn tmps' d, o = .loop { state := l.state, pending := l.pending, fn := fn, tmps := tmps', params := l.params, assign := l.assign, body := l.body, defers := d } ∧ LRel φ l.tmps tmps'.toList
  | some (.map es clock) => o = .map es.toArray clock
  | some (.mapv es clock) => ∃ es', o = .map es'.toArray clock ∧ ERel φ es es'
  | some (.iter s pos) => o = .stringIter s pos
  | some (.buf kd sz L) => ∃ c', o = .cells c' k.elem (0, 0) ∧ (∀ (i : Nat) (n : Int), L[i]? = some n → c'.toList[i]? = some (.int kd n)) ∧ 1 ≤ sz
  | some (.bufc sz) => ∃ c', o = .cells c' k.elem (0, 0) ∧ LRel φ k.cells (c'.toList.take k.cells.length) ∧ 1 ≤ sz
  | some (.que _ _ _ _) => ∃ c', o = .cells c' k.elem (0, 0)
  | some .dead => True
theorem BRel.mono {φ ψ : Ren} (hφ : RExt φ ψ) {k : Blk} {o : Obj} (h : BRel φ k o) : BRel ψ k o := by
  unfold BRel at *
  split at h
  · obtain ⟨c', fz, h1, h2, h3⟩ := h; exact ⟨c', fz, h1, h2.mono hφ, h3⟩
  · exact h
  · obtain ⟨fn, t', d, h1, h2⟩ := h; exact ⟨fn, t', d, h1, h2.mono hφ⟩
  · exact h
  · obtain ⟨es', h1, h2⟩ := h; exact ⟨es', h1, h2.mono hφ⟩
  · exact h
  · exact h
  · obtain ⟨c', h1, h2, h3⟩ := h; exact ⟨c', h1, h2.mono hφ, h3⟩
  · exact h
  · exact h

/-- A block that must not be used any more (what lies behind the heap is none, either). -/
def Dead (S : List Blk) (b : Nat) : Prop := ∀ k, S[b]? = some k → k.obj = some .dead
theorem Dead.not {S : List Blk} {b : Nat} {k : Blk} (h : Dead S b) (hk : S[b]? = some k) (ho : k.obj ≠ some .dead) : False := ho (h k hk)
theorem Dead.pre {S S' : List Blk} {b : Nat} (h : Dead S' b) (he : ∀ k, S[b]? = some k → S'[b]? = some k) : Dead S b := fun k hk => h k (he k hk)
/-- How much room a block has. -/
def Room (φ : Ren) (r : Nat) (k : Blk) (w : World) : Prop :=
  match k.obj with
  | some (.buf _ sz _) => φ.cap r ≠ 0 ∧ φ.cap r < unk ∧ ∃ c e fz, w.heap[r]? = some (.cells c e fz) ∧ c.size = φ.cap r * sz
  | some (.bufc sz) => φ.cap r ≠ 0 ∧ φ.cap r < unk ∧ ∃ c e fz, w.heap[r]? = some (.cells c e fz) ∧ c.size = φ.cap r * sz
  | some (.que kd sz lo L) => φ.cap r ≠ 0 ∧ φ.cap r / unk ≤ lo ∧ ∃ c, w.heap[r]? = some (.cells c k.elem (0, 0)) ∧ c.size = φ.cap r % unk * sz ∧ ∀ (i : Nat) (n : Int), L[i]? = some n → c.toList[lo - φ.cap r / unk + i]? = some (.int kd n)
  | some .dead => True
  | _ => φ.cap r = 0
def isBuf (k : Blk) : Bool := match k.obj with
  | some (.buf _ _ _) => true
  | some (.bufc _) => true
  | some (.que _ _ _ _) => true
  | _ => false
/-- How many cells an element has of a block that came of an append. -/
def bufSz (k : Blk) : Option Nat := match k.obj with
  | some (.buf _ sz _) => some sz
  | some (.bufc sz) => some sz
  | _ => none
theorem Room.of_buf {φ : Ren} {r sz : Nat} {k : Blk} {w : World} (hk : bufSz k = some sz) (h : φ.cap r ≠ 0 ∧ φ.cap r < unk ∧ ∃ c e fz, w.heap[r]? = some (.cells c e fz) ∧ c.size = φ.cap r * sz) : Room φ r k w := by
  unfold bufSz at hk
  unfold Room
  split at hk
  · rename_i e; cases hk; rw [e]; exact h
  · rename_i e; cases hk; rw [e]; exact h
  · cases hk
theorem Room.none {φ : Ren} {r : Nat} {k : Blk} {w : World} (h : φ.cap r = 0) (hk : isBuf k = false) : Room φ r k w := by
  unfold isBuf at hk
  unfold Room
  split
  · rename_i e; rw [e] at hk; cases hk
  · rename_i e; rw [e] at hk; cases hk
  · rename_i e; rw [e] at hk; cases hk
  · trivial
  · exact h
theorem Room.ext {φ ψ : Ren} {r : Nat} {k : Blk} {w w' : World} (h : Room φ r k w) (hc : ψ.cap r = φ.cap r) (hw : w'.heap[r]? = w.heap[r]?) : Room ψ r k w' := by
  unfold Room at *
  split
  · rename_i e; rw [e] at h; rw [hc, hw]; exact h
  · rename_i e; rw [e] at h; rw [hc, hw]; exact h
  · rename_i e; rw [e] at h; rw [hc, hw]; exact h
  · trivial
  · rename_i n1 n2 n4 n3; split at h
    · rename_i e; exact absurd e (n1 _ _ _)
    · rename_i e; exact absurd e (n2 _)
    · rename_i e; exact absurd e (n4 _ _ _ _)
    · rename_i e; exact absurd e n3
    · rw [hc]; exact h
/-- The shadow heap corresponds to the world. -/
structure Good (φ : Ren) (S : List Blk) (w : World) : Prop where
  blk : ∀ b k r, S[b]? = some k → φ b = some r → ∃ o, w.heap[r]? = some o ∧ BRel φ k o
  low : ∀ b r, φ b = some r → r < w.heap.size
  inj : ∀ b c r, φ b = some r → φ c = some r → b = c ∨ Dead S b ∨ Dead S c
  zero : ∀ r, w.heap.size ≤ r → φ.cap r = 0
  room : ∀ b k r, S[b]? = some k → φ b = some r → Room φ r k w
theorem Good.cells {φ : Ren} {S : List Blk} {w : World} (h : Good φ S w) {b r : Nat} {cs : List Value} {t : TypeId} {ro : Bool} (hb : S[b]? = some ⟨cs, t, ro, none⟩) (hr : φ b = some r) :
    ∃ c' fz, w.heap[r]? = some (.cells c' t fz) ∧ LRel φ cs (c'.toList.take cs.length) ∧ (ro = false → fz = (0, 0)) ∧ (ro = true → c'.toList.length = cs.length) := by
  obtain ⟨o, h1, c', fz, rfl, h2, h3⟩ := h.blk b _ r hb hr
  exact ⟨c', fz, h1, h2, h3⟩
theorem Good.buf {φ : Ren} {S : List Blk} {w : World} (h : Good φ S w) {b r : Nat} {cs : List Value} {t : TypeId} {ro : Bool} {kd : IntKind} {sz : Nat} {L : List Int} (hb : S[b]? = some ⟨cs, t, ro, some (.buf kd sz L)⟩) (hr : φ b = some r) :
    ∃ c', w.heap[r]? = some (.cells c' t (0, 0)) ∧ (∀ (i : Nat) (n : Int), L[i]? = some n → c'.toList[0 + i]? = some (.int kd n)) ∧ φ.cap r ≠ 0 ∧ c'.size = φ.cap r * sz := by
  obtain ⟨o, h1, c', rfl, h2, h3⟩ := h.blk b _ r hb hr
  obtain ⟨g1, _, c, e, fz, g2, g3⟩ := h.room b _ r hb hr
  rw [h1] at g2
  cases g2
  exact ⟨c', h1, fun i n hi => by rw [Nat.zero_add]; exact h2 i n hi, g1, g3⟩
/-- Cells of a block that may be written, whether it came of an append or not. -/
theorem Good.row {φ : Ren} {S : List Blk} {w : World} (h : Good φ S w) {b r : Nat} {cs : List Value} {t : TypeId} {ro : Bool} {ob : Option SObj} (hb : S[b]? = some ⟨cs, t, ro, ob⟩) (hr : φ b = some r) (ho : (ob = none ∧ ro = false) ∨ ∃ sz, ob = some (.bufc sz)) :
    ∃ c', w.heap[r]? = some (.cells c' t (0, 0)) ∧ LRel φ cs (c'.toList.take cs.length) := by
  rcases ho with ⟨rfl, rfl⟩ | ⟨sz, rfl⟩
  · obtain ⟨o, h1, c', fz, rfl, h2, h3, _⟩ := h.blk b _ r hb hr
    rw [h3 rfl] at h1
    exact ⟨c', h1, h2⟩
  · obtain ⟨o, h1, c', rfl, h2, _⟩ := h.blk b _ r hb hr
    exact ⟨c', h1, h2⟩
theorem Good.bufU {φ : Ren} {S : List Blk} {w : World} (h : Good φ S w) {b r : Nat} {cs : List Value} {t : TypeId} {ro : Bool} {kd : IntKind} {sz : Nat} {L : List Int} (hb : S[b]? = some ⟨cs, t, ro, some (.buf kd sz L)⟩) (hr : φ b = some r) : φ.cap r < unk :=
  (h.room b _ r hb hr).2.1
theorem Good.bufcU {φ : Ren} {S : List Blk} {w : World} (h : Good φ S w) {b r : Nat} {cs : List Value} {t : TypeId} {ro : Bool} {sz : Nat} (hb : S[b]? = some ⟨cs, t, ro, some (.bufc sz)⟩) (hr : φ b = some r) : φ.cap r < unk :=
  (h.room b _ r hb hr).2.1
theorem Good.bufc {φ : Ren} {S : List Blk} {w : World} (h : Good φ S w) {b r : Nat} {cs : List Value} {t : TypeId} {ro : Bool} {sz : Nat} (hb : S[b]? = some ⟨cs, t, ro, some (.bufc sz)⟩) (hr : φ b = some r) :
    ∃ c', w.heap[r]? = some (.cells c' t (0, 0)) ∧ LRel φ cs (c'.toList.take cs.length) ∧ φ.cap r ≠ 0 ∧ c'.size = φ.cap r * sz := by
  obtain ⟨o, h1, c', rfl, h2, h3⟩ := h.blk b _ r hb hr
  obtain ⟨g1, _, c, e, fz, g2, g3⟩ := h.room b _ r hb hr
  rw [h1] at g2
  cases g2
  exact ⟨c', h1, h2, g1, g3⟩
theorem Good.ints {φ : Ren} {S : List Blk} {w : World} (h : Good φ S w) {b r : Nat} {cs : List Value} {t : TypeId} {ro : Bool} {kd : IntKind} {lo : Nat} {L : List Int} (hb : S[b]? = some ⟨cs, t, ro, some (.ints kd lo L)⟩) (hr : φ b = some r) :
    ∃ c' fz, w.heap[r]? = some (.cells c' t fz) ∧ (∀ (i : Nat) (n : Int), L[i]? = some n → c'.toList[lo + i]? = some (.int kd n)) ∧ (ro = false → fz = (0, 0)) := by
  obtain ⟨o, h1, c', fz, rfl, h2, h3⟩ := h.blk b _ r hb hr
  exact ⟨c', fz, h1, h2, h3⟩
/-- Cells ahead of others. -/
theorem take_get {α : Type} {l : List α} {n i : Nat} {v : α} (h : (l.take n)[i]? = some v) : l[i]? = some v := by
  rw [List.getElem?_take] at h
  split at h
  · exact h
  · cases h
theorem take_len {φ : Ren} {cs : List Value} {c' : Array Value} (h : LRel φ cs (c'.toList.take cs.length)) : cs.length ≤ c'.size := by
  have := h.1
  simp only [List.length_take, Array.length_toList] at this
  omega
theorem take_drop_take {α : Type} {l : List α} {m o n : Nat} (h : o + n ≤ m) : ((l.take m).drop o).take n = (l.drop o).take n := by
  rw [List.drop_take, List.take_take]
  congr 1
  omega

/-- What has become of renaming, shadow and world; only blocks from 'fl' on may have been written. -/
structure Step (fl : Nat) (φ : Ren) (S : List Blk) (w : World) (ψ : Ren) (S' : List Blk) (w' : World) : Prop where
  ext : RExt φ ψ
  caps : ∀ r, r < w.heap.size → ψ.cap r = φ.cap r
  dom : ∀ b r, ψ b = some r → φ b = some r ∨ (S.length ≤ b ∧ b < S'.length ∧ (w.heap.size ≤ r ∨ ∃ c, fl ≤ c ∧ c < S.length ∧ φ c = some r ∧ ¬ Dead S c ∧ Dead S' c))
  len : S.length ≤ S'.length
  dead : ∀ b, b < S.length → Dead S b → Dead S' b
  keep : ∀ b, b < fl → b < S.length → S'[b]? = S[b]?
  frame : ∀ r, r < w.heap.size → (∀ b, fl ≤ b → b < S.length → ¬ Dead S b → φ b ≠ some r) → w'.heap[r]? = w.heap[r]?
  size : w.heap.size ≤ w'.heap.size
  os : w'.os = w.os
  tape : w'.tape = w.tape
  output : w'.output = w.output

/-- The shadow blocks from n to m stand for nothing yet. -/
def Fresh (φ : Ren) (n m : Nat) : Prop := ∀ b, n ≤ b → b < m → φ b = none

theorem Step.refl (fl : Nat) (φ : Ren) (S : List Blk) (w : World) : Step fl φ S w φ S w :=
  ⟨RExt.refl φ, fun _ _ => rfl, fun _ _ h => .inl h, Nat.le_refl _, fun _ _ h => h, fun _ _ _ => rfl, fun _ _ _ => rfl, Nat.le_refl _, rfl, rfl, rfl⟩
theorem Step.fresh {fl : Nat} {φ ψ : Ren} {S S' : List Blk} {w w' : World} {m : Nat} (h : Step fl φ S w ψ S' w') (hf : Fresh φ S.length m) : Fresh ψ S'.length m := by
  intro b h1 h2
  cases hb : ψ b with
  | none => rfl
  | some r =>
    rcases h.dom b r hb with h3 | ⟨_, h3, _⟩
    · have := hf b (Nat.le_trans h.len h1) h2; rw [this] at h3; cases h3
    · omega
theorem Step.trans {fl : Nat} {φ ψ χ : Ren} {S S' S'' : List Blk} {w w' w'' : World} (h : Step fl φ S w ψ S' w') (k : Step fl ψ S' w' χ S'' w'') (hf : Fresh φ S.length S''.length) :
    Step fl φ S w χ S'' w'' := by
  refine ⟨h.ext.trans k.ext, fun r hr => (k.caps r (Nat.lt_of_lt_of_le hr h.size)).trans (h.caps r hr), fun b r e => ?_, Nat.le_trans h.len k.len, fun b hb d => k.dead b (Nat.lt_of_lt_of_le hb h.len) (h.dead b hb d), fun b e1 e2 => ?_, fun r e1 e2 => ?_, Nat.le_trans h.size k.size, k.os.trans h.os, k.tape.trans h.tape, k.output.trans h.output⟩
  · rcases k.dom b r e with e | ⟨e1, e2, e3⟩
    · rcases h.dom b r e with e | ⟨e1, e2, e3⟩
      · exact .inl e
      · exact .inr ⟨e1, Nat.lt_of_lt_of_le e2 k.len, e3.imp id fun ⟨d, d1, d2, d3, d4, d5⟩ => ⟨d, d1, d2, d3, d4, k.dead d (Nat.lt_of_lt_of_le d2 h.len) d5⟩⟩
    · refine .inr ⟨Nat.le_trans h.len e1, e2, ?_⟩
      rcases e3 with e3 | ⟨c, c1, c2, c3, c4, c5⟩
      · exact .inl (Nat.le_trans h.size e3)
      · rcases h.dom c r c3 with g | ⟨_, _, g | ⟨d, d1, d2, d3, d4, d5⟩⟩
        · by_cases hc : c < S.length
          · exact .inr ⟨c, c1, hc, g, fun d => c4 (h.dead c hc d), c5⟩
          · have := hf c (by omega) (Nat.lt_of_lt_of_le c2 k.len); rw [this] at g; cases g
        · exact .inl g
        · exact .inr ⟨d, d1, d2, d3, d4, k.dead d (Nat.lt_of_lt_of_le d2 h.len) d5⟩
  · rw [k.keep b e1 (Nat.lt_of_lt_of_le e2 h.len), h.keep b e1 e2]
  · rw [k.frame r (Nat.lt_of_lt_of_le e1 h.size) ?_, h.frame r e1 e2]
    intro b f1 f2 f4 f3
    rcases h.dom b r f3 with g | ⟨_, _, g | ⟨c, c1, c2, c3, c4, _⟩⟩
    · by_cases hb : b < S.length
      · exact e2 b f1 hb (fun d => f4 (h.dead b hb d)) g
      · have := hf b (by omega) (Nat.lt_of_lt_of_le f2 k.len); rw [this] at g; cases g
    · omega
    · exact e2 c c1 c2 c4 c3
theorem Step.weaken {fl fl' : Nat} {φ ψ : Ren} {S S' : List Blk} {w w' : World} (h : Step fl φ S w ψ S' w') (hl : fl' ≤ fl) : Step fl' φ S w ψ S' w' :=
  ⟨h.ext, h.caps, fun b r e => (h.dom b r e).imp id fun ⟨e1, e2, e3⟩ => ⟨e1, e2, e3.imp id fun ⟨c, c1, c2, c3⟩ => ⟨c, Nat.le_trans hl c1, c2, c3⟩⟩, h.len, h.dead, fun b e1 e2 => h.keep b (by omega) e2, fun r e1 e2 => h.frame r e1 fun b f1 f2 => e2 b (by omega) f2, h.size, h.os, h.tape, h.output⟩
/-- Where nothing below was turned. -/
theorem Step.dom' {fl : Nat} {φ ψ : Ren} {S S' : List Blk} {w w' : World} (h : Step fl φ S w ψ S' w') (hl : S.length ≤ fl) (b r : Nat) (e : ψ b = some r) : φ b = some r ∨ (S.length ≤ b ∧ b < S'.length ∧ w.heap.size ≤ r) :=
  (h.dom b r e).imp id fun ⟨e1, e2, e3⟩ => ⟨e1, e2, e3.resolve_right fun ⟨c, c1, c2, _⟩ => by omega⟩

/-- A new block. -/
def newRen (φ : Ren) (n r : Nat) : Ren := ⟨fun b => if b = n then some r else φ b, φ.cap⟩
theorem newRen_old {φ : Ren} {n r : Nat} (hn : φ n = none) (b s : Nat) (h : φ b = some s) : newRen φ n r b = some s := by
  unfold newRen; simp only; split
  · rename_i e; subst e; rw [hn] at h; cases h
  · exact h
theorem newRen_ext {φ : Ren} {n r : Nat} (hn : φ n = none) : RExt φ (newRen φ n r) := ⟨newRen_old hn, fun _ _ _ => rfl⟩
theorem newRen_new (φ : Ren) (n r : Nat) : newRen φ n r n = some r := by simp [newRen]

theorem size_new (w : World) (o : Obj) : (w.alloc o).heap.size = w.heap.size + 1 := by
  show (w.heap.push o).size = _; simp
theorem heap_new (w : World) (o : Obj) : (w.alloc o).heap[w.heap.size]? = some o := by
  show (w.heap.push o)[w.heap.size]? = _; simp
theorem Good.new {φ : Ren} {S : List Blk} {w : World} (h : Good φ S w) (fl : Nat) (hn : φ S.length = none) (k : Blk) (o : Obj) (hro : BRel φ k o) (hnb : isBuf k = false) :
    Good (newRen φ S.length w.heap.size) (S ++ [k]) (w.alloc o) ∧ Step fl φ S w (newRen φ S.length w.heap.size) (S ++ [k]) (w.alloc o) := by
  have hext := newRen_ext (r := w.heap.size) hn
  refine ⟨⟨fun b x r hb hr => ?_, fun b r hr => ?_, fun b c r hb hc => ?_, fun r hr => h.zero r (by rw [size_new] at hr; omega), fun b x r hx hr => ?_⟩, ⟨hext, fun _ _ => rfl, fun b r e => ?_, by simp, fun b hb d => d.pre fun y hy => by rw [List.getElem?_append_left hb] at hy; exact hy, fun b e1 e2 => ?_, fun r e1 e2 => ?_, by rw [size_new]; omega, rfl, rfl, rfl⟩⟩
  · by_cases hbn : b = S.length
    · subst hbn
      simp at hb
      rw [newRen_new] at hr; cases hr
      subst hb
      exact ⟨o, heap_new _ _, hro.mono hext⟩
    · have hb' : S[b]? = some x := by
        have : b < (S ++ [k]).length := (List.getElem?_eq_some_iff.1 hb).1
        rw [List.getElem?_append_left (by simp at this; omega)] at hb; exact hb
      have hr' : φ b = some r := by simpa [newRen, hbn] using hr
      obtain ⟨o2, h1, h2⟩ := h.blk b x r hb' hr'
      exact ⟨o2, by rw [Below.heap_alloc _ _ _ (h.low b r hr')]; exact h1, h2.mono hext⟩
  · by_cases hbn : b = S.length
    · subst hbn; rw [newRen_new] at hr; cases hr; rw [size_new]; omega
    · have := h.low b r (by simpa [newRen, hbn] using hr); rw [size_new]; omega
  · unfold newRen at hb hc
    simp only at hb hc
    split at hb <;> split at hc
    · simp_all
    · have := h.low c r hc; cases hb; omega
    · have := h.low b r hb; cases hc; omega
    · rename_i nb nc
      have old : ∀ x, x ≠ S.length → Dead S x → Dead (S ++ [k]) x := fun x nx d => d.pre fun y hy => by
        have hl := (List.getElem?_eq_some_iff.1 hy).1
        rw [List.getElem?_append_left (by simp at hl; omega)] at hy; exact hy
      exact (h.inj b c r hb hc).imp id fun d => d.imp (old b nb) (old c nc)
  · by_cases hbn : b = S.length
    · subst hbn
      simp at hx
      rw [newRen_new] at hr; cases hr
      subst hx
      exact .none (h.zero _ (Nat.le_refl _)) hnb
    · have hb' : S[b]? = some x := by
        have : b < (S ++ [k]).length := (List.getElem?_eq_some_iff.1 hx).1
        rw [List.getElem?_append_left (by simp at this; omega)] at hx; exact hx
      have hr' : φ b = some r := by simpa [newRen, hbn] using hr
      exact (h.room b x r hb' hr').ext rfl (Below.heap_alloc _ _ _ (h.low b r hr'))
  · by_cases hbn : b = S.length
    · subst hbn; rw [newRen_new] at e; cases e; exact .inr ⟨Nat.le_refl _, by simp, .inl (Nat.le_refl _)⟩
    · exact .inl (by simpa [newRen, hbn] using e)
  · rw [List.getElem?_append_left e2]
  · exact Below.heap_alloc _ _ _ e1

/-- A block turned in place. -/
theorem Good.turn {φ : Ren} {S : List Blk} {w w' : World} (good : Good φ S w) {fl b r : Nat} {k : Blk} {o : Obj} (hbl : b < S.length) (hb : φ b = some r) (hfl : fl ≤ b) (hk : BRel φ k o) (hlive : ¬ Dead S b) (hroom : Room φ r k w')
    (hheap : ∀ s, w'.heap[s]? = if s = r then some o else w.heap[s]?) (hsz : w'.heap.size = w.heap.size) (hos : w'.os = w.os) (htape : w'.tape = w.tape) (hout : w'.output = w.output) :
    Good φ (S.set b k) w' ∧ Step fl φ S w φ (S.set b k) w' := by
  refine ⟨⟨fun x y s hx hs => ?_, fun x s hs => by rw [hsz]; exact good.low x s hs, fun x y s hx hy => ?_, fun s hs => good.zero s (by omega), fun x y s hx hs => ?_⟩, ⟨RExt.refl φ, fun _ _ => rfl, fun _ _ e => .inl e, by simp, fun x hx d => d.pre fun u hu => by rw [List.getElem?_set_ne (fun e => hlive (by rw [e]; exact d))] at hu; exact hu, fun x e1 _ => ?_, fun s e1 e2 => ?_, by omega, hos, htape, hout⟩⟩
  · by_cases hxb : x = b
    · subst hxb
      rw [hb] at hs; cases hs
      rw [List.getElem?_set_self hbl] at hx; cases hx
      exact ⟨o, by rw [hheap, if_pos rfl], hk⟩
    · rw [List.getElem?_set_ne (fun e => hxb e.symm)] at hx
      obtain ⟨o2, g1, g2⟩ := good.blk x y s hx hs
      by_cases hsr : s = r
      · rcases good.inj x b r (hsr ▸ hs) hb with e | d | d
        · exact absurd e hxb
        · have := d y hx
          exact ⟨o, by rw [hheap, if_pos hsr], by unfold BRel; rw [this]; trivial⟩
        · exact absurd d hlive
      · exact ⟨o2, by rw [hheap, if_neg hsr]; exact g1, g2⟩
  · have old : ∀ z, z ≠ b → Dead S z → Dead (S.set b k) z := fun z nz d => d.pre fun u hu => by
      rw [List.getElem?_set_ne (fun e => nz e.symm)] at hu; exact hu
    rcases good.inj x y s hx hy with e | d | d
    · exact .inl e
    · exact .inr (.inl (old x (fun e => hlive (e ▸ d)) d))
    · exact .inr (.inr (old y (fun e => hlive (e ▸ d)) d))
  · by_cases hxb : x = b
    · subst hxb
      rw [hb] at hs; cases hs
      rw [List.getElem?_set_self hbl] at hx; cases hx
      exact hroom
    · rw [List.getElem?_set_ne (fun e => hxb e.symm)] at hx
      by_cases hsr : s = r
      · rcases good.inj x b r (hsr ▸ hs) hb with e | d | d
        · exact absurd e hxb
        · have := d y hx; unfold Room; rw [this]; trivial
        · exact absurd d hlive
      · exact (good.room x y s hx hs).ext rfl (by rw [hheap, if_neg hsr])
  · rw [List.getElem?_set_ne (by omega)]
  · rw [hheap, if_neg]
    intro e; subst e; exact e2 b hfl hbl hlive hb
/-- Of a heap that goes on, its beginning. -/
theorem Good.pre {φ : Ren} {S S' : List Blk} {w : World} (h : Good φ S' w) (he : ∀ (b : Nat) (k : Blk), S[b]? = some k → S'[b]? = some k) : Good φ S w :=
  ⟨fun b k r hk hr => h.blk b k r (he b k hk) hr, h.low, fun b c r hb hc => (h.inj b c r hb hc).imp id fun d => d.imp (fun (d : Dead S' b) => Dead.pre d (he b)) (fun (d : Dead S' c) => Dead.pre d (he c)), h.zero, fun b k r hk hr => h.room b k r (he b k hk) hr⟩
/-- A heap that goes on where nothing stands for anything yet. -/
theorem Good.grow {φ : Ren} {S S' : List Blk} {w : World} (h : Good φ S w) (he : ∀ (b : Nat), b < S.length → S'[b]? = S[b]?) (hf : ∀ b, S.length ≤ b → b < S'.length → φ b = none) : Good φ S' w := by
  have old : ∀ b r, φ b = some r → Dead S b → Dead S' b := by
    intro b r hr d k hk
    by_cases hb : b < S.length
    · exact d k (by rw [← he b hb]; exact hk)
    · rw [hf b (by omega) (List.getElem?_eq_some_iff.1 hk).1] at hr; cases hr
  have key : ∀ b k r, S'[b]? = some k → φ b = some r → S[b]? = some k := by
    intro b k r hk hr
    by_cases hb : b < S.length
    · rw [← he b hb]; exact hk
    · rw [hf b (by omega) (List.getElem?_eq_some_iff.1 hk).1] at hr; cases hr
  exact ⟨fun b k r hk hr => h.blk b k r (key b k r hk hr) hr, h.low, fun b c r hb hc => (h.inj b c r hb hc).imp id fun d => d.imp (old b r hb) (old c r hc), h.zero, fun b k r hk hr => h.room b k r (key b k r hk hr) hr⟩
/-- What a step that turns nothing has made, among what else there is. -/
theorem Good.glue {fl : Nat} {φ ψ : Ren} {S S' Sm : List Blk} {w w' : World} (good : Good φ Sm w) (hg : Good ψ S' w') (hs : Step fl φ S w ψ S' w') (hl : S.length ≤ fl) (hm : ∀ (b : Nat), b < S'.length → Sm[b]? = S'[b]?) : Good ψ Sm w' := by
  have hfr : ∀ r, r < w.heap.size → w'.heap[r]? = w.heap[r]? := fun r hr => hs.frame r hr fun b h1 h2 => by omega
  have old : ∀ b r, ψ b = some r → ¬ b < S'.length → φ b = some r := by
    intro b r hr hb
    rcases hs.dom b r hr with h | ⟨_, h, _⟩
    · exact h
    · omega
  have up : ∀ b, b < S'.length → Dead S' b → Dead Sm b := fun b hb d k hk => d k (by rw [← hm b hb]; exact hk)
  refine ⟨fun b k r hk hr => ?_, hg.low, fun b c r hb hc => ?_, hg.zero, fun b k r hk hr => ?_⟩
  · by_cases hb : b < S'.length
    · exact hg.blk b k r (by rw [← hm b hb]; exact hk) hr
    · obtain ⟨o2, g1, g2⟩ := good.blk b k r hk (old b r hr hb)
      exact ⟨o2, by rw [hfr r (good.low b r (old b r hr hb))]; exact g1, g2.mono hs.ext⟩
  · rcases hs.dom' hl b r hb with h1 | ⟨h1, h2, h3⟩ <;> rcases hs.dom' hl c r hc with k1 | ⟨k1, k2, k3⟩
    · exact good.inj b c r h1 k1
    · have := good.low b r h1; omega
    · have := good.low c r k1; omega
    · exact (hg.inj b c r hb hc).imp id fun d => d.imp (up b h2) (up c k2)
  · by_cases hb : b < S'.length
    · exact hg.room b k r (by rw [← hm b hb]; exact hk) hr
    · have h1 := old b r hr hb
      have h2 := good.low b r h1
      exact (good.room b k r hk h1).ext (hs.caps r h2) (hfr r h2)
/-- A new block that an append has made. -/
def bufRen (φ : Ren) (n r c : Nat) : Ren := ⟨fun b => if b = n then some r else φ b, fun x => if x = r then c else φ.cap x⟩
theorem Good.newQ {φ : Ren} {S : List Blk} {w : World} (h : Good φ S w) (fl : Nat) (hn : φ S.length = none) {k : Blk} {c : Nat} {cells : Array Value} (hroom : Room (bufRen φ S.length w.heap.size c) w.heap.size k (w.alloc (.cells cells k.elem))) (hro : BRel φ k (.cells cells k.elem)) :
    Good (bufRen φ S.length w.heap.size c) (S ++ [k]) (w.alloc (.cells cells k.elem)) ∧ Step fl φ S w (bufRen φ S.length w.heap.size c) (S ++ [k]) (w.alloc (.cells cells k.elem)) := by
  have old : ∀ b s, φ b = some s → bufRen φ S.length w.heap.size c b = some s := by
    intro b s hb
    unfold bufRen; simp only; split
    · rename_i e; subst e; rw [hn] at hb; cases hb
    · exact hb
  have cold : ∀ r, r < w.heap.size → (bufRen φ S.length w.heap.size c).cap r = φ.cap r := by
    intro r hr
    unfold bufRen; simp only; rw [if_neg (by omega)]
  have hext : RExt φ (bufRen φ S.length w.heap.size c) := ⟨old, fun b r hb => cold r (h.low b r hb)⟩
  have new : ∀ b r, bufRen φ S.length w.heap.size c b = some r → (b = S.length ∧ r = w.heap.size) ∨ (b ≠ S.length ∧ φ b = some r) := by
    intro b r hb
    unfold bufRen at hb; simp only at hb; split at hb
    · cases hb; exact .inl ⟨by assumption, rfl⟩
    · exact .inr ⟨by assumption, hb⟩
  have at_ : ∀ b x, b ≠ S.length → (S ++ [k])[b]? = some x → S[b]? = some x := by
    intro b x hb hx
    have hl := (List.getElem?_eq_some_iff.1 hx).1
    rw [List.getElem?_append_left (by simp at hl; omega)] at hx; exact hx
  have hkk : (S ++ [k])[S.length]? = some k := by simp
  refine ⟨⟨fun b x r hb hr => ?_, fun b r hr => ?_, fun b d r hb hd => ?_, fun r hr => ?_, fun b x r hx hr => ?_⟩, ⟨hext, cold, fun b r e => ?_, by simp, fun b hb d => d.pre fun y hy => by rw [List.getElem?_append_left hb] at hy; exact hy, fun b e1 e2 => ?_, fun r e1 e2 => ?_, by rw [size_new]; omega, rfl, rfl, rfl⟩⟩
  · rcases new b r hr with ⟨rfl, rfl⟩ | ⟨hb2, hr2⟩
    · rw [hkk] at hb; cases hb
      exact ⟨_, heap_new _ _, hro.mono hext⟩
    · obtain ⟨o2, h1, h2⟩ := h.blk b x r (at_ b x hb2 hb) hr2
      exact ⟨o2, by rw [Below.heap_alloc _ _ _ (h.low b r hr2)]; exact h1, h2.mono hext⟩
  · rcases new b r hr with ⟨rfl, rfl⟩ | ⟨_, hr2⟩
    · rw [size_new]; omega
    · have := h.low b r hr2; rw [size_new]; omega
  · rcases new b r hb with ⟨rfl, rfl⟩ | ⟨b2, hb2⟩ <;> rcases new d _ hd with ⟨rfl, hd2⟩ | ⟨d2, hd2⟩
    · exact .inl rfl
    · have := h.low d _ hd2; omega
    · have := h.low b r hb2; omega
    · exact (h.inj b d r hb2 hd2).imp id fun e => e.imp (fun e => e.pre (at_ b · b2)) (fun e => e.pre (at_ d · d2))
  · rw [size_new] at hr
    unfold bufRen; simp only
    rw [if_neg (by omega)]
    exact h.zero r (by omega)
  · rcases new b r hr with ⟨rfl, rfl⟩ | ⟨hb2, hr2⟩
    · rw [hkk] at hx; cases hx
      exact hroom
    · exact (h.room b x r (at_ b x hb2 hx) hr2).ext (cold r (h.low b r hr2)) (Below.heap_alloc _ _ _ (h.low b r hr2))
  · rcases new b r e with ⟨rfl, rfl⟩ | ⟨_, hr2⟩
    · exact .inr ⟨Nat.le_refl _, by simp, .inl (Nat.le_refl _)⟩
    · exact .inl hr2
  · rw [List.getElem?_append_left e2]
  · exact Below.heap_alloc _ _ _ e1
theorem Good.newBuf {φ : Ren} {S : List Blk} {w : World} (h : Good φ S w) (fl : Nat) (hn : φ S.length = none) {k : Blk} {sz c : Nat} {cells : Array Value} (hk : bufSz k = some sz) (hc : c ≠ 0)
    (hcs : cells.size = c * sz) (hro : BRel φ k (.cells cells k.elem)) (hcu : c < unk := by assumption) :
    Good (bufRen φ S.length w.heap.size c) (S ++ [k]) (w.alloc (.cells cells k.elem)) ∧ Step fl φ S w (bufRen φ S.length w.heap.size c) (S ++ [k]) (w.alloc (.cells cells k.elem)) :=
  h.newQ fl hn (.of_buf hk ⟨by unfold bufRen; simpa using hc, by unfold bufRen; simpa using hcu, cells, k.elem, (0, 0), heap_new _ _, by unfold bufRen; simpa using hcs⟩) hro
def deadBlk : Blk := ⟨[], 0, true, some .dead⟩
/-- A block of the world that another block of the shadow stands for from now on. -/
theorem Good.adoptQ {φ : Ren} {S : List Blk} {w w' : World} (good : Good φ S w) {fl b r : Nat} (hbl : b < S.length) (hb : φ b = some r) (hfl : fl ≤ b) (hlive : ¬ Dead S b) (hn : φ S.length = none) {k : Blk} {cells : Array Value}
    (hroom : Room φ r k w') (hro : BRel φ k (.cells cells k.elem))
    (hheap : ∀ s, w'.heap[s]? = if s = r then some (.cells cells k.elem) else w.heap[s]?) (hsz : w'.heap.size = w.heap.size) (hos : w'.os = w.os) (htape : w'.tape = w.tape) (hout : w'.output = w.output) :
    Good (newRen φ S.length r) (S.set b deadBlk ++ [k]) w' ∧ Step fl φ S w (newRen φ S.length r) (S.set b deadBlk ++ [k]) w' := by
  obtain ⟨g1, s1⟩ := good.turn (k := deadBlk) (o := .cells cells k.elem) hbl hb hfl trivial hlive trivial hheap hsz hos htape hout
  have hl1 : (S.set b deadBlk).length = S.length := by simp
  have hdb : Dead (S.set b deadBlk) b := fun x hx => by rw [List.getElem?_set_self hbl] at hx; cases hx; rfl
  have hall : ∀ c, φ c = some r → Dead (S.set b deadBlk) c := by
    intro c hc
    rcases good.inj c b r hc hb with e | d | d
    · rw [e]; exact hdb
    · by_cases hcl : c < S.length
      · exact s1.dead c hcl d
      · intro x hx
        have := (List.getElem?_eq_some_iff.1 hx).1
        omega
    · exact absurd d hlive
  have new : ∀ c s, newRen φ S.length r c = some s → (c = S.length ∧ s = r) ∨ (c ≠ S.length ∧ φ c = some s) := by
    intro c s hc
    unfold newRen at hc; simp only at hc; split at hc
    · cases hc; exact .inl ⟨by assumption, rfl⟩
    · exact .inr ⟨by assumption, hc⟩
  have at_ : ∀ c x, c ≠ S.length → (S.set b deadBlk ++ [k])[c]? = some x → (S.set b deadBlk)[c]? = some x := by
    intro c x hc hx
    have hl := (List.getElem?_eq_some_iff.1 hx).1
    rw [List.getElem?_append_left (by simp at hl; rw [hl1]; omega)] at hx; exact hx
  have hkk : (S.set b deadBlk ++ [k])[S.length]? = some k := by
    rw [List.getElem?_append_right (by rw [hl1]; exact Nat.le_refl _), hl1]; simp
  have hext : RExt φ (newRen φ S.length r) := newRen_ext hn
  have hheapr : w'.heap[r]? = some (.cells cells k.elem) := by rw [hheap, if_pos rfl]
  refine ⟨⟨fun c x s hc hs => ?_, fun c s hs => ?_, fun c d s hc hd => ?_, fun s hs => g1.zero s hs, fun c x s hx hs => ?_⟩, ⟨hext, fun _ _ => rfl, fun c s e => ?_, by simp, fun c hc d => (s1.dead c hc d).pre (at_ c · (by omega)), fun c e1 e2 => ?_, s1.frame, s1.size, hos, htape, hout⟩⟩
  · rcases new c s hs with ⟨rfl, rfl⟩ | ⟨hc2, hs2⟩
    · rw [hkk] at hc; cases hc
      exact ⟨_, hheapr, hro.mono hext⟩
    · obtain ⟨o2, h1, h2⟩ := g1.blk c x s (at_ c x hc2 hc) hs2
      exact ⟨o2, h1, h2.mono hext⟩
  · rcases new c s hs with ⟨rfl, rfl⟩ | ⟨_, hs2⟩
    · exact g1.low b _ hb
    · exact g1.low c s hs2
  · rcases new c s hc with ⟨rfl, rfl⟩ | ⟨c2, hc2⟩ <;> rcases new d _ hd with ⟨rfl, hd2⟩ | ⟨d2, hd2⟩
    · exact .inl rfl
    · exact .inr (.inr ((hall d hd2).pre (at_ d · d2)))
    · subst hd2; exact .inr (.inl ((hall c hc2).pre (at_ c · c2)))
    · exact (g1.inj c d s hc2 hd2).imp id fun e => e.imp (fun e => e.pre (at_ c · c2)) (fun e => e.pre (at_ d · d2))
  · rcases new c s hs with ⟨rfl, rfl⟩ | ⟨hc2, hs2⟩
    · rw [hkk] at hx; cases hx
      exact hroom.ext rfl rfl
    · exact g1.room c x s (at_ c x hc2 hx) hs2
  · rcases new c s e with ⟨rfl, rfl⟩ | ⟨_, hs2⟩
    · exact .inr ⟨Nat.le_refl _, by simp, .inr ⟨b, hfl, hbl, hb, hlive, hdb.pre (at_ b · (by omega))⟩⟩
    · exact .inl hs2
  · rw [List.getElem?_append_left (by rw [hl1]; exact e2), s1.keep c e1 e2]
theorem Good.adopt {φ : Ren} {S : List Blk} {w w' : World} (good : Good φ S w) {fl b r : Nat} (hbl : b < S.length) (hb : φ b = some r) (hfl : fl ≤ b) (hlive : ¬ Dead S b) (hn : φ S.length = none) {k : Blk} {sz : Nat} {cells : Array Value}
    (hk : bufSz k = some sz) (hcap : φ.cap r ≠ 0) (hcs : cells.size = φ.cap r * sz) (hro : BRel φ k (.cells cells k.elem))
    (hheap : ∀ s, w'.heap[s]? = if s = r then some (.cells cells k.elem) else w.heap[s]?) (hsz : w'.heap.size = w.heap.size) (hos : w'.os = w.os) (htape : w'.tape = w.tape) (hout : w'.output = w.output) (hcu : φ.cap r < unk := by omega) :
    Good (newRen φ S.length r) (S.set b deadBlk ++ [k]) w' ∧ Step fl φ S w (newRen φ S.length r) (S.set b deadBlk ++ [k]) w' :=
  good.adoptQ hbl hb hfl hlive hn (.of_buf hk ⟨hcap, hcu, cells, k.elem, (0, 0), by rw [hheap, if_pos rfl], hcs⟩) hro hheap hsz hos htape hout
end Go.Proofs.XX.Vm
/- A small evaluator over a shadow heap, part 2: operations. -/
namespace Go.Proofs.XX.Vm
open Go Go.RowKit

noncomputable section
/- By the recursors outright: so the kernel reckons it fast. -/
def nthD (T : List Value) : Nat → Value := List.rec (fun _ => undef) (fun v _ ih n => Nat.rec v (fun m _ => ih m) n) T
theorem nthD_eq (T : List Value) (n : Nat) : nthD T n = T[n]?.getD undef := by
  induction T generalizing n with
  | nil => rfl
  | cons v T ih => cases n with
    | zero => rfl
    | succ n => exact (ih n).trans (by simp)
/-- The list reckoned through, and handed on. -/
def forceK {α β : Type} (l : List α) : (List α → β) → β := List.rec (fun k => k []) (fun v _ ih k => ih fun m => k (v :: m)) l
theorem forceK_eq {α β : Type} (l : List α) (k : List α → β) : forceK l k = k l := by
  induction l generalizing k with
  | nil => rfl
  | cons v l ih => exact ih _
def setK {β : Type} (T : List Value) : Nat → Value → (List Value → β) → β :=
  List.rec (fun _ _ k => k []) (fun v l ih n u k => Nat.rec (k (u :: l)) (fun m _ => ih m u fun l' => k (v :: l')) n) T
theorem setK_eq {β : Type} (T : List Value) (n : Nat) (u : Value) (k : List Value → β) : setK T n u k = k (T.set n u) := by
  induction T generalizing n k with
  | nil => rfl
  | cons v T ih => cases n with
    | zero => rfl
    | succ n => exact ih n fun m => k (v :: m)

def anyR {α : Type} (p : α → Bool) (l : List α) : Bool := List.rec false (fun a _ ih => match p a with | true => true | false => ih) l
theorem anyR_eq {α : Type} (p : α → Bool) (l : List α) : anyR p l = l.any p := by
  induction l with
  | nil => rfl
  | cons a l ih =>
    have : anyR p (a :: l) = (match p a with | true => true | false => anyR p l) := rfl
    rw [this, ih, List.any_cons]; cases p a <;> rfl
def allR {α : Type} (p : α → Bool) (l : List α) : Bool := List.rec true (fun a _ ih => match p a with | true => ih | false => false) l
theorem allR_eq {α : Type} (p : α → Bool) (l : List α) : allR p l = l.all p := by
  induction l with
  | nil => rfl
  | cons a l ih =>
    have : allR p (a :: l) = (match p a with | true => allR p l | false => false) := rfl
    rw [this, ih, List.all_cons]; cases p a <;> rfl
def getR {α : Type} (l : List α) : Nat → Option α := List.rec (fun _ => none) (fun v _ ih n => Nat.rec (some v) (fun m _ => ih m) n) l
theorem getR_eq {α : Type} (l : List α) (n : Nat) : getR l n = l[n]? := by
  induction l generalizing n with
  | nil => rfl
  | cons v l ih => cases n with
    | zero => rfl
    | succ n => exact (ih n).trans (by simp)

/- Lists once more, by the recursors. -/
def lenR {α : Type} (l : List α) : Nat := List.rec 0 (fun _ _ n => n + 1) l
theorem lenR_eq {α : Type} (l : List α) : lenR l = l.length := by
  induction l with
  | nil => rfl
  | cons v l ih => show lenR l + 1 = _; rw [ih]; rfl
def dropR {α : Type} (l : List α) : Nat → List α := List.rec (fun _ => []) (fun v l ih n => Nat.rec (v :: l) (fun m _ => ih m) n) l
theorem dropR_eq {α : Type} (l : List α) (n : Nat) : dropR l n = l.drop n := by
  induction l generalizing n with
  | nil => exact List.drop_nil.symm
  | cons v l ih => cases n with
    | zero => rfl
    | succ n => exact ih n
def takeR {α : Type} (l : List α) : Nat → List α := List.rec (fun _ => []) (fun v _ ih n => Nat.rec [] (fun m _ => v :: ih m) n) l
theorem takeR_eq {α : Type} (l : List α) (n : Nat) : takeR l n = l.take n := by
  induction l generalizing n with
  | nil => exact List.take_nil.symm
  | cons v l ih => cases n with
    | zero => rfl
    | succ n => show v :: takeR l n = _; rw [ih]; rfl
def setG {α β : Type} (l : List α) : Nat → α → (List α → β) → β :=
  List.rec (fun _ _ k => k []) (fun v l ih n u k => Nat.rec (k (u :: l)) (fun m _ => ih m u fun l' => k (v :: l')) n) l
theorem setG_eq {α β : Type} (l : List α) (n : Nat) (u : α) (k : List α → β) : setG l n u k = k (l.set n u) := by
  induction l generalizing n k with
  | nil => rfl
  | cons v T ih => cases n with
    | zero => rfl
    | succ n => exact ih n fun m => k (v :: m)
def appG {α β : Type} (l m : List α) (k : List α → β) : β := List.rec (fun k => k m) (fun v _ ih k => ih fun l' => k (v :: l')) l k
theorem appG_eq {α β : Type} (l m : List α) (k : List α → β) : appG l m k = k (l ++ m) := by
  induction l generalizing k with
  | nil => rfl
  | cons v l ih => exact ih fun l' => k (v :: l')
def forceN {β : Type} (n : Nat) (k : Nat → β) : β := Nat.rec (k 0) (fun m _ => k (m + 1)) n
theorem forceN_eq {β : Type} (n : Nat) (k : Nat → β) : forceN n k = k n := by cases n <;> rfl
/-- One more block, and its number. -/
def newK {α β : Type} (S : List α) (b : α) (k : Nat → List α → β) : β := forceN (lenR S) fun n => appG S [b] fun S' => k n S'
theorem newK_eq {α β : Type} (S : List α) (b : α) (k : Nat → List α → β) : newK S b k = k S.length (S ++ [b]) := by
  unfold newK; rw [forceN_eq, appG_eq, lenR_eq]

def opd (gl : Nat) (T : List Value) : Operand → Option Value
  | .tmp t => some (nthD T t)
  | .const v => if plain v then some v else none
  | .global g => if g < gl then some (.pointer (some ⟨g, 0, none⟩)) else none
  | .func f => some (.func (.func f) #[] #[])

def opds (gl : Nat) (T : List Value) : List Operand → Option (List Value)
  | [] => some []
  | x :: l => match opd gl T x, opds gl T l with
    | some v, some vs => some (v :: vs)
    | _, _ => none

def pureSem (P : Program) {α : Type} : Sem α → Option α
  | .pure a => some a
  | .program k => pureSem P (k P)
  | .mark _ k => pureSem P k
  | .choose q k => if q.forced then pureSem P (k 0) else none
  | _ => none

theorem pureSem_run {P : Program} {α : Type} {e : Sem α} {a : α} (h : pureSem P e = some a) (w : World) : e.run P w = .ok a w := by
  induction e with
  | pure b => simp only [pureSem, Option.some.injEq] at h; subst h; rfl
  | program k ih => simp only [pureSem] at h; simp only [Sem.run]; exact ih _ h
  | mark m k ih => simp only [pureSem] at h; simp only [Sem.run]; exact ih h
  | choose q k ih =>
    simp only [pureSem] at h
    split at h
    · rename_i hq; simp only [Sem.run, hq, if_true]; exact ih _ h
    · cases h
  | _ => simp [pureSem] at h

def isAggT (P : Program) (t : TypeId) : Option Bool :=
  match P.underlying t with
  | some (.struct _) => some true
  | some (.array _ _) => some true
  | some _ => some false
  | none => none
def sizeT (P : Program) (t : TypeId) : Option Nat :=
  match P.info? t with
  | some i => some i.size
  | none => none
def zeroT (P : Program) (t : TypeId) : Option Value :=
  match P.info? t with
  | some i => i.zero
  | none => none

/-- A variable of type t at offset o among cells. -/
def readAt (P : Program) (t : TypeId) (cs : List Value) (o : Nat) : Option Value :=
  match isAggT P t with
  | some false => getR cs o
  | some true => match sizeT P t with
    | some n => if Nat.ble (o + n) (lenR cs) then forceK (takeR (dropR cs o) n) fun l => some (.agg l.toArray) else none
    | none => none
  | none => none
/-- Integers of a block, of which nothing need be known. -/
def nthI (L : List Int) : Nat → Int := List.rec (fun _ => 0) (fun v _ ih n => Nat.rec v (fun m _ => ih m) n) L
theorem nthI_eq (L : List Int) (n : Nat) : nthI L n = L[n]?.getD 0 := by
  induction L generalizing n with
  | nil => rfl
  | cons v T ih => cases n with
    | zero => rfl
    | succ n => exact (ih n).trans (by simp)
theorem nthI_some {L : List Int} {n : Nat} (h : n < L.length) : L[n]? = some (nthI L n) := by
  rw [nthI_eq, List.getElem?_eq_getElem h]; rfl
def intCells (kd : IntKind) (L : List Int) : Nat → Nat → List Value
  | _, 0 => []
  | i, n + 1 => .int kd (nthI L i) :: intCells kd L (i + 1) n
def insideI (lo : Nat) (L : List Int) (o n : Nat) : Bool := Nat.ble lo o && Nat.ble (o + n) (lo + L.length)
/-- What is read there, and whether it is there. -/
def intsC (P : Program) (t : TypeId) (kd : IntKind) (lo : Nat) (L : List Int) (o : Nat) : Option (Bool × Value) :=
  match isAggT P t with
  | some false => some (insideI lo L o 1, .int kd (nthI L (o - lo)))
  | some true => match sizeT P t with
    | some n => forceK (intCells kd L (o - lo) n) fun l => some (insideI lo L o n, .agg l.toArray)
    | none => none
  | none => none
def readInts (P : Program) (t : TypeId) (kd : IntKind) (lo : Nat) (L : List Int) (o : Nat) : Option Value :=
  match intsC P t kd lo L o with
  | some (true, v) => some v
  | _ => none
def load (P : Program) (t : TypeId) (S : List Blk) : Value → Option Value
  | .pointer (some ⟨b, o, none⟩) => match getR S b with
    | some ⟨cs, _, _, none⟩ => readAt P t cs o
    | some ⟨cs, _, _, some (.bufc _)⟩ => readAt P t cs o
    | some ⟨_, _, _, some (.ints kd lo L)⟩ => readInts P t kd lo L o
    | some ⟨_, _, _, some (.buf kd _ L)⟩ => readInts P t kd 0 L o
    | _ => none
  | .iface _ (.pointer (some ⟨b, o, none⟩)) => match getR S b with
    | some ⟨cs, _, _, some (.bufc _)⟩ => readAt P t cs o
    | some ⟨_, _, _, some (.buf kd _ L)⟩ => readInts P t kd 0 L o
    | some ⟨_, _, _, some (.que kd _ lo L)⟩ => readInts P t kd lo L o
    | _ => none
  | _ => none

def setI (L : List Int) : Nat → Int → List Int := List.rec (fun _ _ => []) (fun v l ih n m => Nat.rec (m :: l) (fun j _ => v :: ih j m) n) L
theorem setI_eq (L : List Int) (n : Nat) (m : Int) : setI L n m = L.set n m := by
  induction L generalizing n with
  | nil => rfl
  | cons v L ih => cases n with
    | zero => rfl
    | succ n => show v :: setI L n m = _; rw [ih]; rfl
/-- Cells that are integers of one kind. -/
def intsOf (kd : IntKind) : List Value → Option (List Int)
  | [] => some []
  | .int k n :: l => if k = kd then (match intsOf kd l with
    | some L => some (n :: L)
    | none => none) else none
  | _ => none
/-- Integers set in a row. -/
def setM (L : List Int) (o : Nat) : List Int → List Int
  | [] => L
  | m :: ms => setM (setI L o m) (o + 1) ms
def cellish : Value → Bool
  | .agg _ | .tuple _ | .chan _ => false
  | _ => true
def writeAt (l : List Value) (o : Nat) : List Value → List Value
  | [] => l
  | v :: vs => setG l o v fun l' => writeAt l' (o + 1) vs
def store (P : Program) (fl : Nat) (t : TypeId) (S : List Blk) (p v : Value) : Option (List Blk) :=
  match p with
  | .pointer (some ⟨b, o, none⟩) => match getR S b, sizeT P t with
    | some ⟨cs0, e, ro, none⟩, some n =>
      if decide (fl ≤ b) && !ro && Nat.beq (lenR v.cells.toList) n && allR cellish v.cells.toList && Nat.ble (o + n) (lenR cs0) then
        forceK (writeAt cs0 o v.cells.toList) fun cs => setG S b ⟨cs, e, ro, none⟩ some
      else none
    | some ⟨cs0, e, ro, some (.bufc sz)⟩, some n =>
      if decide (fl ≤ b) && Nat.beq (lenR v.cells.toList) n && allR cellish v.cells.toList && Nat.ble (o + n) (lenR cs0) then
        forceK (writeAt cs0 o v.cells.toList) fun cs => setG S b ⟨cs, e, ro, some (.bufc sz)⟩ some
      else none
    | some ⟨cs0, e, ro, some (.buf kd sz L)⟩, some n => match v with
      | .int kd2 m => if decide (fl ≤ b) && decide (n = 1) && decide (kd2 = kd) && Nat.blt o (lenR L) then setG L o m fun L2 => setG S b ⟨cs0, e, ro, some (.buf kd sz L2)⟩ some else none
      | .agg xs => match intsOf kd xs.toList with
        | some ms => if decide (fl ≤ b) && Nat.beq (lenR ms) n && Nat.ble (o + n) (lenR L) then forceK (setM L o ms) fun L2 => setG S b ⟨cs0, e, ro, some (.buf kd sz L2)⟩ some else none
        | none => none
      | _ => none
    | _, _ => none
  | _ => none

def fieldP (P : Program) (s : TypeId) (f : Nat) : Value → Option Value
  | .pointer (some a) => match P.underlying s with
    | some (.struct fs) => match fs[f]? with
      | some fd => match sizeT P fd.type with
        | some (_ + 1) => some (.pointer (some (a.add fd.offset)))
        | _ => none
      | none => none
    | _ => none
  | _ => none
def indexP (P : Program) (t : TypeId) (x ix : Value) : Option Value :=
  match ix with
  | .int _ i => match P.underlying t, x with
    | some (.array len elem), .pointer (some a) =>
      if decide (0 ≤ i) && decide (i < (len : Int)) then match sizeT P elem with
        | some n => some (.pointer (some (a.add (i.toNat * n))))
        | none => none
      else none
    | some (.slice elem), .slice (some a) len _ =>
      if decide (0 ≤ i) && decide (i < (len : Int)) then match sizeT P elem with
        | some n => some (.pointer (some (a.add (i.toNat * n))))
        | none => none
      else none
    | some (.slice elem), .iface sz (.slice (some ⟨b, o, none⟩) len _) =>
      if decide (0 ≤ i) && decide (i < (len : Int)) then match sizeT P elem with
        | some n => some (.iface sz (.pointer (some ⟨b, o + i.toNat * n, none⟩)))
        | none => none
      else none
    | _, _ => none
  | _ => none

/-- Operations whose operands bear no address, by their own text. -/
def pureOp : Op → Bool
  | .binOp .. | .unOp .. | .convert .. | .extract .. | .field .. | .index .. | .build .. => true
  | .call { callee := .builtin b, .. } => match b with
    | .min | .max | .len | .cap => true
    | _ => false
  | .slice .. => true
  | _ => false

inductive R where
  | val (v : Value) (S : List Blk)
  | call (f : FuncId) (args : List Value)
  | round (l : Nat) (args : List Value)

def callee (P : Program) (f : Value) (args : List Value) : Option R :=
  match f with
  | .func (.func g) x c => match P.funcs[g]? with
    | some fn => if fn.name == "runtime.NumGoroutine" then none else match fn.body with
      | some _ => some (.call g (x.toList ++ args ++ c.toList))
      | none => none
    | none => none
  | .func (.yield l) x c => if x.toList.isEmpty && c.toList.isEmpty then some (.round l args) else none
  | _ => none

def buildSliceCells (P : Program) (t : TypeId) (len : Nat) (parts : Array (Nat × Value)) : Option (TypeId × Array Value) :=
  match P.underlying t with
  | some (.slice elem) => match P.info? elem with
    | some i =>
      if len * i.size > 2 ^ 24 then none
      else if len * i.size = 0 then (match parts.toList with
        | [] => some (elem, #[])
        | _ => none)
      else match i.zero with
        | some z => match Instr.fill (fun j => some (j * i.size, i.size)) ((Array.range (len * i.size)).map (z.cells[· % z.cells.size]!)) parts.toList with
          | some cells => some (elem, cells)
          | none => none
        | none => none
    | none => none
  | _ => none

def makeC (P : Program) (t : TypeId) (n c : Int) : Option (TypeId × Array Value) :=
  match P.underlying t with
  | some (.slice e) => match P.info? e with
    | some i => match i.zero with
      | some z => if decide (0 ≤ n) && decide (n ≤ c) && Nat.ble c.toNat 65536 && Nat.ble i.bytes 4096 then some (e, madeCells z.cells (c.toNat * i.size)) else none
      | none => none
    | none => none
  | _ => none
/-- Whether the zero of a slice's elements bears no address. -/
def zeroOk (P : Program) (t : TypeId) : Bool :=
  match P.underlying t with
  | some (.slice e) => match P.info? e with
    | some i => match i.zero with
      | some z => z.cells.toList.all scalar && Nat.ble 1 z.cells.size
      | none => false
    | none => false
  | _ => false
/-- A struct whose parts may bear addresses. -/
def placesOf (P : Program) : List Field → Option (List (Nat × Nat))
  | [] => some []
  | f :: fs => match sizeT P f.type with
    | some n => match placesOf P fs with
      | some l => some ((f.offset, n) :: l)
      | none => none
    | none => none
def buildCells (P : Program) (t : TypeId) (parts : List (Nat × Value)) : Option (Array Value) :=
  match P.underlying t with
  | some (.struct fields) => match zeroT P t with
    | some z => match placesOf P fields.toList with
      | some places => if z.cells.toList.all scalar then Instr.fill (places.toArray[·]?) z.cells parts else none
      | none => none
    | none => none
  | _ => none

/-- An operation whose operands bear no address, run by its own text. -/
def pureTry (P : Program) (gl : Nat) (o : Oper) (T : List Value) (S : List Blk) : Option R :=
  match opds gl T o.op.operands.toList with
  | some vs => if pureOp o.op && vs.all plain then
      match pureSem P (execOp (fun x => (opd gl T x).getD undef) o) with
      | some (.value v) => if plain v then some (.val v S) else none
      | _ => none
    else none
  | none => none

/-- Maps whose keys and values bear no address. -/
def mapBlk (es : List MapEntry) (clock : Nat) : Blk := ⟨[], 0, true, some (.map es clock)⟩
def mapAt (S : List Blk) : Value → Option (Nat × List MapEntry × Nat)
  | .map (some b) => match getR S b with
    | some ⟨_, _, _, some (.map es clock)⟩ => some (b, es, clock)
    | _ => none
  | _ => none
/-- Structs and arrays of integers, compared cell by cell. -/
def eqIs (xs ys : List Value) (n : Nat) : List Nat → Option Bool
  | [] => some true
  | i :: is => match xs[i * n]?, ys[i * n]? with
    | some (.int j a), some (.int k b) => if j = k then match eqIs xs ys n is with
        | some r => some ((a == b) && r)
        | none => none
      else none
    | _, _ => none
def eqFs (P : Program) (xs ys : List Value) : List Field → Option Bool
  | [] => some true
  | f :: fs => if f.name = "_" then none else match P.underlying f.type with
    | some (.int _) => match xs[f.offset]?, ys[f.offset]? with
      | some (.int j a), some (.int k b) => if j = k then match eqFs P xs ys fs with
        | some r => some ((a == b) && r)
        | none => none
        else none
      | _, _ => none
    | some (.array n e) => match P.underlying e with
      | some (.int _) => match eqIs ((xs.drop f.offset).take (P.cellsOf f.type)) ((ys.drop f.offset).take (P.cellsOf f.type)) (P.cellsOf e) (List.range n) with
        | some r1 => match eqFs P xs ys fs with
          | some r => some (r1 && r)
          | none => none
        | none => none
      | _ => none
    | _ => none
def eqAgg (P : Program) (t : TypeId) (xs ys : List Value) : Option Bool :=
  if P.eqGuardType P.depth t then none else
  match P.underlying t with
  | some (.struct fs) => if P.stoodInHeld t then none else eqFs P xs ys fs.toList
  | some (.array n e) => match P.underlying e with
    | some (.int _) => eqIs xs ys (P.cellsOf e) (List.range n)
    | _ => none
  | _ => none
/-- Keys that are structs of integers. -/
def keyEq (P : Program) (kt : TypeId) (k k2 : Value) : Option Bool :=
  match k with
  | .agg xs => match k2 with
    | .agg ys => eqAgg P kt xs.toList ys.toList
    | _ => none
  | .int j a => match k2 with
    | .int l b => match P.underlying kt with
      | some (.int _) => if j = l then some (a == b) else none
      | _ => none
    | _ => none
  | _ => none
def okKeys (P : Program) (kt : TypeId) (k : Value) : List MapEntry → Bool
  | [] => true
  | e :: es => (match keyEq P kt k e.key with | some _ => true | none => false) && okKeys P kt k es
def hitK (P : Program) (kt : TypeId) (k : Value) (e : MapEntry) : Bool := match keyEq P kt k e.key with
  | some b => b
  | none => false
def firstK (P : Program) (kt : TypeId) (k : Value) : List MapEntry → Nat → Option (Nat × Value)
  | [], _ => none
  | e :: es, i => bif hitK P kt k e then some (i, e.val) else firstK P kt k es (i + 1)
def structT (P : Program) (kt : TypeId) : Bool := match P.underlying kt with
  | some (.struct _) => true
  | some (.int _) => true
  | _ => false
def findFast (P : Program) (kt : TypeId) (k : Value) (es : List MapEntry) : Option (Option (Nat × Value)) :=
  bif structT P kt && okKeys P kt k es then some (firstK P kt k es 0) else none
def findIn (P : Program) (kt : TypeId) (empty : Bool) (es : List MapEntry) (k : Value) : Option (Option (Nat × Value)) :=
  if plain k then match pureSem P (Instr.checkKey empty 10000 kt k) with
    | some _ => match findFast P kt k es with
      | some q => some q
      | none => pureSem P (Instr.findKey kt k es)
    | none => none
  else none
def plainly (r : Value) : Option Value := if plain r then some r else none
def okVal (ok : Bool) (v : Value) (b : Bool) : Value := if ok then .tuple #[v, .bool b] else v
def lookupP (P : Program) (t : TypeId) (S : List Blk) (x k : Value) (ok : Bool) : Option Value :=
  match P.underlying t, mapAt S x with
  | some (.map kt et), some (_, es, _) => match findIn P kt es.toArray.isEmpty es k with
    | some (some (_, v)) => plainly (okVal ok v true)
    | some none => match zeroT P et with
      | some z => plainly (okVal ok z false)
      | none => none
    | none => none
  | _, _ => none
def updateP (P : Program) (fl : Nat) (t : TypeId) (S : List Blk) (x k v : Value) : Option (List Blk) :=
  match P.underlying t, mapAt S x with
  | some (.map kt _), some (b, es, clock) => if decide (fl ≤ b) && plain v then match findIn P kt false es k with
      | some (some (i, _)) => match pureSem P (Instr.keyThatStays (((es.toArray[i]?).map (·.key)).getD k) k) with
        | some key => setG S b (mapBlk (es.toArray.modify i fun e => { e with key := key, val := v }).toList clock) some
        | none => none
      | some none => setG S b (mapBlk (es ++ [{ key := k, val := v, born := clock }]) (clock + 1)) some
      | none => none
    else none
  | _, _ => none
/-- Maps whose values bear addresses. -/
def mapVAt (S : List Blk) : Value → Option (Nat × List MapEntry × Nat)
  | .map (some b) => match getR S b with
    | some ⟨_, _, _, some (.map es clock)⟩ => if allR (fun e => plain e.val) es then some (b, es, clock) else none
    | some ⟨_, _, _, some (.mapv es clock)⟩ => some (b, es, clock)
    | _ => none
  | _ => none
def findV (P : Program) (kt : TypeId) (empty : Bool) (es : List MapEntry) (k : Value) : Option (Option (Nat × Value)) :=
  if plain k then match pureSem P (Instr.checkKey empty 10000 kt k) with
    | some _ => findFast P kt k es
    | none => none
  else none
def lookupV (P : Program) (t : TypeId) (S : List Blk) (x k : Value) (ok : Bool) : Option Value :=
  match P.underlying t, mapVAt S x with
  | some (.map kt et), some (_, es, _) => match findV P kt es.isEmpty es k with
    | some (some (_, v)) => some (okVal ok v true)
    | some none => match zeroT P et with
      | some z => plainly (okVal ok z false)
      | none => none
    | none => none
  | _, _ => none
def updateV (P : Program) (fl : Nat) (t : TypeId) (S : List Blk) (x k v : Value) : Option (List Blk) :=
  match P.underlying t, mapVAt S x with
  | some (.map kt _), some (b, es, clock) => if decide (fl ≤ b) then match findV P kt false es k with
      | some none => appG es [{ key := k, val := v, born := clock }] fun es2 => setG S b ⟨[], 0, true, some (.mapv es2 (clock + 1))⟩ some
      | _ => none
    else none
  | _, _ => none

/-- A slice of a slice, and whether it is one. -/
def bound (d : Nat) : Option Value → Option (Bool × Nat)
  | none => some (true, d)
  | some (.int _ i) => some (decide (0 ≤ i), i.toNat)
  | _ => none
def optV (gl : Nat) (T : List Value) : Option Operand → Option (Option Value)
  | none => some none
  | some x => match opd gl T x with
    | some v => some (some v)
    | none => none
def sliceW (sz b off n c : Nat) (lo hi mx : Option Value) : Option (Bool × Value) :=
  match bound 0 lo with
  | some (t1, l) => match bound n hi with
    | some (t2, h) => match mx with
      | none => some (t1 && t2 && Nat.ble l h && Nat.ble h n && (Nat.beq l 0 || Nat.blt l n), .slice (some ⟨b, off + l * sz, none⟩) (h - l) (bif Nat.beq c unk then unk else c - l))
      | some v => match bound 0 (some v) with
        | some (t3, m) => match hi with
          | none => none
          | some _ => some (t1 && t2 && t3 && Nat.ble l h && Nat.ble h m && Nat.ble m n && (Nat.beq l 0 || Nat.blt l m), .slice (some ⟨b, off + l * sz, none⟩) (h - l) (m - l))
        | none => none
    | none => none
  | none => none
/-- The first elements of an array. -/
def sliceA (P : Program) (t : TypeId) (b off : Nat) (lo hi mx : Option (Option Value)) : Option Value :=
  match lo, hi, mx with
  | some none, some (some (.int _ h)), some none => match P.underlying t with
    | some (.array n e) => match sizeT P e with
      | some _ => if decide (0 ≤ h) && Nat.ble h.toNat n && Nat.ble 1 n && Nat.blt n unk then some (.slice (some ⟨b, off, none⟩) h.toNat n) else none
      | none => none
    | _ => none
  | _, _, _ => none
def sliceC (P : Program) (t : TypeId) (x : Value) (lo hi mx : Option Value) : Option (Bool × Value) :=
  match P.underlying t with
  | some (.slice e) => match sizeT P e with
    | some sz => if Nat.ble 1 sz then match x with
      | .slice (some ⟨b, off, none⟩) n c => sliceW sz b off n c lo hi mx
      | _ => none
      else none
    | none => none
  | _ => none

/-- A slice of an append's block whose first elements are left out: it may be appended to (for structs). -/
def sliceQ (P : Program) (t : TypeId) (x : Value) (lo hi mx : Option (Option Value)) : Option Value :=
  match lo, hi, mx with
  | some (some (.int _ l)), some none, some none => match P.underlying t with
    | some (.slice e) => match sizeT P e with
      | some sz => match x with
        | .slice (some ⟨b, 0, none⟩) n c => if Nat.ble 2 sz && Nat.beq c unk && decide (1 ≤ l) && Nat.blt l.toNat n then some (.iface sz (.slice (some ⟨b, l.toNat * sz, none⟩) (n - l.toNat) unk)) else none
        | .iface z (.slice (some ⟨b, o, none⟩) n c) => if Nat.beq z sz && Nat.beq c unk && decide (0 ≤ l) && Nat.ble l.toNat n then
            some (bif Nat.beq l.toNat n then .slice (some ⟨b, o, some 0⟩) 0 unk else .iface sz (.slice (some ⟨b, o + l.toNat * sz, none⟩) (n - l.toNat) unk)) else none
        | _ => none
      | none => none
    | _ => none
  | _, _, _ => none
def sliceQO (P : Program) (gl : Nat) (T : List Value) (t : TypeId) (x : Operand) (lo hi mx : Option Operand) : Option Value :=
  match opd gl T x with
  | some u => sliceQ P t u (optV gl T lo) (optV gl T hi) (optV gl T mx)
  | none => none
/-- A slice of nothing, at a slice's end. -/
def emptyV (n c : Nat) : Value := bif Nat.beq c unk then .slice (some ⟨0, 0, some 0⟩) 0 unk else .slice (some ⟨0, 0, none⟩) 0 (c - n)
def sliceZ (P : Program) (t : TypeId) (n c : Nat) (lo hi mx : Option Value) : Option (Bool × Value) :=
  match P.underlying t with
  | some (.slice e) => match sizeT P e with
    | some _ => match mx with
      | none => match bound 0 lo with
        | some (t1, l) => match bound n hi with
          | some (t2, h) => some (t1 && t2 && Nat.beq l n && Nat.beq h n && Nat.ble c unk, emptyV n c)
          | none => none
        | none => none
      | some _ => none
    | none => none
  | _ => none

def kindOf : List Value → IntKind
  | .int k _ :: _ => k
  | _ => .i64
/-- The integers of a slice. -/
def sliceInts (S : List Blk) (sz : Nat) : Value → Option (Bool × IntKind × List Int)
  | .slice none 0 _ => some (true, .i64, [])
  | .slice (some ⟨b, off, none⟩) n _ => match getR S b with
    | some ⟨_, _, _, some (.ints kd lo L)⟩ => some (insideI lo L off (n * sz), kd, (L.drop (off - lo)).take (n * sz))
    | some ⟨_, _, _, some (.buf kd _ L)⟩ => some (insideI 0 L off (n * sz), kd, (L.drop (off - 0)).take (n * sz))
    | some ⟨cs, _, _, none⟩ => match intsOf (kindOf cs) cs with
      | some L => some (insideI 0 L off (n * sz), kindOf cs, (L.drop (off - 0)).take (n * sz))
      | none => none
    | _ => none
  | _ => none
/-- Integers appended to a slice without capacity: a new block. -/
def appendC (P : Program) (S : List Blk) (argTypes : List TypeId) (d s : Value) : Option (Bool × Value × Value × Blk) :=
  match argTypes with
  | [t, t2] => if t = t2 then match P.underlying t with
    | some (.slice e) => match P.info? e with
      | some i => match i.zero with
        | some z => if Nat.beq z.cells.size i.size && Nat.ble 1 i.size && Nat.ble i.bytes 4096 then match d with
          | .slice d0 0 0 => match sliceInts S i.size s with
            | some (t1, kd, L) => match s with
              | .slice _ n _ => some (t1 && Nat.ble n 34359738368, .slice d0 0 0, .slice (some ⟨lenR S, 0, none⟩) n unk, ⟨[], e, false, some (.buf kd i.size L)⟩)
              | _ => none
            | none => none
          | _ => none
          else none
        | none => none
      | none => none
    | _ => none
    else none
  | _ => none
def lenV : Value → Nat
  | .slice _ n _ => n
  | _ => 0
def appendP (P : Program) (S : List Blk) (argTypes : List TypeId) (d s : Value) : Option (Value × List Blk) :=
  match appendC P S argTypes d s with
  | some (true, d', v, k) => if lenV s = 0 then some (d', S) else appG S [k] fun S' => some (v, S')
  | _ => none

/-- Appended to what an append has made: in place or anew, the old block must not be looked at any more. -/
def appendD (P : Program) (fl : Nat) (S : List Blk) (argTypes : List TypeId) (d s : Value) : Option (Value × List Blk) :=
  match argTypes with
  | [t, t2] => if t = t2 then match P.underlying t with
    | some (.slice e) => match P.info? e with
      | some i => match i.zero with
        | some z => if Nat.beq z.cells.size i.size && Nat.ble 1 i.size && Nat.ble i.bytes 4096 then match d with
          | .slice (some ⟨b, 0, none⟩) n c => match getR S b with
            | some ⟨_, e2, _, some (.buf kd sz L)⟩ => match sliceInts S i.size s with
              | some (true, kd2, Ls) => match s with
                | .slice (some _) (m + 1) _ => if Nat.beq c unk && Nat.ble fl b && Nat.beq sz i.size && decide (e2 = e) && decide (kd2 = kd) && Nat.ble (n * i.size) L.length && Nat.ble (n + (m + 1)) 34359738368 then
                    appG (takeR L (n * i.size)) Ls fun L2 => setG S b deadBlk fun S1 => newK S1 ⟨[], e, false, some (.buf kd sz L2)⟩ fun b2 S' => some (.slice (some ⟨b2, 0, none⟩) (n + (m + 1)) unk, S')
                  else none
                | .slice _ 0 _ => some (.slice (some ⟨b, 0, none⟩) n c, S)
                | _ => none
              | _ => none
            | _ => none
          | _ => none
          else none
        | none => none
      | none => none
    | _ => none
    else none
  | _ => none

/-- What an append has made, whatever was left out of it. -/
def queAt (S : List Blk) (b : Nat) : Option (TypeId × IntKind × Nat × Nat × List Int) := match getR S b with
  | some ⟨_, e, _, some (.buf kd sz L)⟩ => some (e, kd, sz, 0, L)
  | some ⟨cs, e, _, some (.bufc sz)⟩ => match intsOf (kindOf cs) cs with
    | some L => some (e, kindOf cs, sz, 0, L)
    | none => none
  | some ⟨_, e, _, some (.que kd sz lo L)⟩ => some (e, kd, sz, lo, L)
  | _ => none
/-- Appended to a slice of which the first elements were left out. -/
def appendQ (P : Program) (fl : Nat) (S : List Blk) (argTypes : List TypeId) (d s : Value) : Option (Value × List Blk) :=
  match argTypes with
  | [t, t2] => if t = t2 then match P.underlying t with
    | some (.slice e) => match P.info? e with
      | some i => match i.zero with
        | some z => if Nat.beq z.cells.size i.size && Nat.ble 1 i.size && Nat.ble i.bytes 4096 then match d with
          | .iface zz (.slice (some ⟨b, o, none⟩) n c) => match queAt S b with
            | some (e2, kd, sz, lo, L) => match sliceInts S i.size s with
              | some (true, kd2, Ls) => match s with
                | .slice (some _) (m + 1) _ => if Nat.beq c unk && Nat.ble fl b && Nat.beq sz i.size && Nat.beq zz i.size && decide (e2 = e) && decide (kd2 = kd) && Nat.ble lo o && Nat.ble (o - lo + n * i.size) (lenR L) && Nat.ble (n + (m + 1)) 34359738368 then
                    appG (takeR (dropR L (o - lo)) (n * i.size)) Ls fun L2 => setG S b deadBlk fun S1 => newK S1 ⟨[], e, false, some (.que kd sz o L2)⟩ fun b2 S' => some (.iface sz (.slice (some ⟨b2, o, none⟩) (n + (m + 1)) unk), S')
                  else none
                | _ => none
              | _ => none
            | none => none
          | _ => none
          else none
        | none => none
      | none => none
    | _ => none
    else none
  | _ => none
/-- Zeros appended (an append of a make). -/
def appendZ (P : Program) (S : List Blk) (argTypes : List TypeId) (d s : Value) : Option (Value × List Blk) :=
  match argTypes with
  | [t, tn] => match P.underlying t with
    | some (.slice e) => match P.underlying tn with
      | some (.int _) => match P.info? e with
        | some i => match i.zero with
          | some z => if Nat.beq z.cells.size i.size && Nat.ble 1 i.size && Nat.ble i.bytes 4096 then match d with
            | .slice _ 0 0 => match s with
              | .int _ n => if decide (0 < n) && decide (n ≤ 65536) then
                  match intsOf (kindOf z.cells.toList) (Builtin.zeroCells z.cells n.toNat).toList with
                  | some L => forceK L fun L' => newK S ⟨[], e, false, some (.buf (kindOf z.cells.toList) i.size L')⟩ fun b2 S' => some (.slice (some ⟨b2, 0, none⟩) n.toNat unk, S')
                  | none => none
                else none
              | _ => none
            | _ => none
            else none
          | none => none
        | none => none
      | _ => none
    | _ => none
  | _ => none

/-- The cells of a slice, whatever they hold. -/
def cellsOf (S : List Blk) (sz : Nat) : Value → Option (List Value)
  | .slice (some ⟨b, off, none⟩) n _ => match getR S b with
    | some ⟨cs, _, _, none⟩ => if Nat.ble (off + n * sz) (lenR cs) && Nat.ble 1 n then some (takeR (dropR cs off) (n * sz)) else none
    | some ⟨cs, _, _, some (.bufc _)⟩ => if Nat.ble (off + n * sz) (lenR cs) && Nat.ble 1 n then some (takeR (dropR cs off) (n * sz)) else none
    | _ => none
  | _ => none
/-- Whatever there is appended, onto nothing or onto what an append has made. -/
def appendE (P : Program) (fl : Nat) (S : List Blk) (argTypes : List TypeId) (d s : Value) : Option (Value × List Blk) :=
  match argTypes with
  | [t, t2] => if t = t2 then match P.underlying t with
    | some (.slice e) => match P.info? e with
      | some i => match i.zero with
        | some z => if Nat.beq z.cells.size i.size && Nat.ble 1 i.size && Nat.ble i.bytes 4096 then match cellsOf S i.size s with
          | some news => if allR cellish news && Nat.ble (lenV s) 34359738368 then match d with
            | .slice _ 0 0 => forceK news fun cs => newK S ⟨cs, e, false, some (.bufc i.size)⟩ fun b2 S' => some (.slice (some ⟨b2, 0, none⟩) (lenV s) unk, S')
            | .slice (some ⟨b, 0, none⟩) n c => match getR S b with
              | some ⟨cs, e2, _, some (.bufc sz)⟩ => if Nat.beq c unk && Nat.ble fl b && Nat.beq sz i.size && decide (e2 = e) && Nat.ble (n * i.size) (lenR cs) && Nat.ble (n + lenV s) 34359738368 then
                  appG (takeR cs (n * i.size)) news fun cs2 => setG S b deadBlk fun S1 => newK S1 ⟨cs2, e, false, some (.bufc i.size)⟩ fun b2 S' => some (.slice (some ⟨b2, 0, none⟩) (n + lenV s) unk, S')
                else none
              | _ => none
            | _ => none
            else none
          | none => none
          else none
        | none => none
      | none => none
    | _ => none
    else none
  | _ => none

/-- Cells written into a block, and cells of one. -/
def putC (fl : Nat) (S : List Blk) (b off : Nat) (news : List Value) : Option (List Blk) :=
  match getR S b with
  | some ⟨cs, e, false, none⟩ => if Nat.ble fl b && allR cellish news && Nat.ble (off + lenR news) (lenR cs) then forceK (writeAt cs off news) fun cs2 => setG S b ⟨cs2, e, false, none⟩ some else none
  | some ⟨cs, e, ro, some (.bufc sz)⟩ => if Nat.ble fl b && allR cellish news && Nat.ble (off + lenR news) (lenR cs) then forceK (writeAt cs off news) fun cs2 => setG S b ⟨cs2, e, ro, some (.bufc sz)⟩ some else none
  | _ => none
def cellsAt (S : List Blk) (b off n : Nat) : Option (List Value) :=
  match getR S b with
  | some ⟨cs, _, _, none⟩ => if Nat.ble (off + n) (lenR cs) then some (takeR (dropR cs off) n) else none
  | some ⟨cs, _, _, some (.bufc _)⟩ => if Nat.ble (off + n) (lenR cs) then some (takeR (dropR cs off) n) else none
  | some ⟨_, _, _, some (.buf kd _ L)⟩ => if Nat.ble (off + n) (lenR L) then some ((takeR (dropR L off) n).map (Value.int kd)) else none
  | _ => none
def clearP (P : Program) (fl : Nat) (S : List Blk) (t : TypeId) (x : Value) : Option (List Blk) :=
  match P.underlying t with
  | some (.slice e) => match x with
    | .slice _ 0 _ => some S
    | .slice (some ⟨b, off, none⟩) (n + 1) _ => match zeroT P e with
      | some z => match (Builtin.zeroCells z.cells (n + 1)).toList with
        | zs => if allR scalar zs then forceK zs fun zs2 => putC fl S b off zs2 else none
      | none => none
    | _ => none
  | _ => none
def copyP (P : Program) (fl : Nat) (S : List Blk) (t : TypeId) (d s : Value) : Option (Value × List Blk) :=
  match P.underlying t with
  | some (.slice e) => match sizeT P e with
    | some sz => match d with
      | .slice (some ⟨b, off, none⟩) (dn + 1) _ => match s with
        | .slice (some ⟨b2, off2, none⟩) (sn + 1) _ => match cellsAt S b2 off2 (Nat.min (sn + 1) (dn + 1) * sz) with
            | some news => match putC fl S b off news with
              | some S' => some (goInt (Nat.min (sn + 1) (dn + 1)), S')
              | none => none
            | none => none
        | .slice _ 0 _ => some (goInt 0, S)
        | _ => none
      | .slice _ 0 _ => match s with
        | .slice _ _ _ => some (goInt 0, S)
        | _ => none
      | _ => none
    | none => none
  | _ => none
def indexV (P : Program) (t : TypeId) (i : Int) (cs : List Value) : Option Value :=
  match P.underlying t with
  | some (.array n e) => if decide (0 ≤ i) && decide (i < (n : Int)) then match sizeT P e with
      | some sz => readAt P e cs (i.toNat * sz)
      | none => none
    else none
  | _ => none

/-- Appended to a slice of which the capacity is known: anew, or behind its elements. -/
def appendF (P : Program) (_fl : Nat) (S : List Blk) (argTypes : List TypeId) (d s : Value) : Option (Value × List Blk) :=
  match argTypes with
  | [t, t2] => if t = t2 then match P.underlying t with
    | some (.slice e) => match P.info? e with
      | some i => match i.zero with
        | some z => if Nat.beq z.cells.size i.size && Nat.ble 1 i.size && Nat.ble i.bytes 4096 then match s with
          | .slice (some ⟨b3, off3, none⟩) (m + 1) _ => match cellsAt S b3 off3 ((m + 1) * i.size) with
            | some news => match d with
              | .slice (some ⟨b, off, none⟩) (n + 1) c => match cellsAt S b off ((n + 1) * i.size) with
                | some olds => if Nat.blt c (n + 1 + (m + 1)) && Nat.ble (n + 1 + (m + 1)) 34359738368 then
                    appG olds news fun cs => newK S ⟨cs, e, false, some (.bufc i.size)⟩ fun b2 S' => some (.slice (some ⟨b2, 0, none⟩) (n + 1 + (m + 1)) unk, S')
                  else none
                | none => none
              | _ => none
            | none => none
          | _ => none
          else none
        | none => none
      | none => none
    | _ => none
    else none
  | _ => none

/-- A walk over a string. -/
def iterBlk (s : ByteArray) (pos : Nat) : Blk := ⟨[], 0, true, some (.iter s pos)⟩
def rangeP (P : Program) (t : TypeId) (x : Value) : Option ByteArray :=
  match P.underlying t, x with
  | some .string, .string s => some s
  | _, _ => none
def nextP (fl : Nat) (S : List Blk) (x : Value) : Option (Value × List Blk) :=
  match x with
  | .pointer (some ⟨b, 0, none⟩) => match getR S b with
    | some ⟨_, _, _, some (.iter s pos)⟩ => if decide (fl ≤ b) then
        if pos < s.size then match Utf8.decode s pos with
          | (c, width) => setG S b (iterBlk s (pos + width)) fun S' => some (.tuple #[.bool true, goInt pos, .int .i32 c], S')
        else some (.tuple #[.bool false], S)
      else none
    | _ => none
  | _ => none

/-- Integers' operations. -/
def fastBin (op : BinOp) (k : IntKind) (a b : Int) : Option Value :=
  match op with
  | .add => some (.int k (k.wrap (a + b)))
  | .sub => some (.int k (k.wrap (a - b)))
  | .mul => some (.int k (k.wrap (a * b)))
  | .eql => some (.bool (a == b))
  | .neq => some (.bool (a != b))
  | .lss => some (.bool (a < b))
  | .leq => some (.bool (a ≤ b))
  | .gtr => some (.bool (a > b))
  | .geq => some (.bool (a ≥ b))
  | .and => some (.int k (k.wrap ((BitVec.ofInt k.bits a &&& BitVec.ofInt k.bits b).toNat : Nat)))
  | .or => some (.int k (k.wrap ((BitVec.ofInt k.bits a ||| BitVec.ofInt k.bits b).toNat : Nat)))
  | .xor => some (.int k (k.wrap ((BitVec.ofInt k.bits a ^^^ BitVec.ofInt k.bits b).toNat : Nat)))
  | .andNot => some (.int k (k.wrap ((BitVec.ofInt k.bits a &&& ~~~ BitVec.ofInt k.bits b).toNat : Nat)))
  | _ => none
def minN (a b : Nat) : Nat := bif Nat.ble a b then a else b
theorem minN_eq (a b : Nat) : minN a b = min a b := by
  unfold minN
  cases h : Nat.ble a b with
  | true => rw [cond_true]; exact (Nat.min_eq_left (Nat.le_of_ble_eq_true h)).symm
  | false =>
    have h2 : ¬ a ≤ b := fun e => by rw [Nat.ble_eq_true_of_le e] at h; cases h
    rw [cond_false]; exact (Nat.min_eq_right (by omega)).symm
/-- A shift's value, where the count is not below 0. -/
def shlN (k : IntKind) (a b : Int) : Int := k.wrap (a * ((2 ^ minN b.toNat k.bits : Nat) : Int))
def shrN (k : IntKind) (a b : Int) : Int := a.fdiv ((2 ^ minN b.toNat k.bits : Nat) : Int)

def fastEql (P : Program) (op : BinOp) (t : TypeId) (xs ys : List Value) : Option Value :=
  match op with
  | .eql => match eqAgg P t xs ys with
    | some r => some (.bool r)
    | none => none
  | .neq => match eqAgg P t xs ys with
    | some r => some (.bool (!r))
    | none => none
  | _ => none

def fieldV (P : Program) (t : TypeId) (f : Nat) (cs : List Value) : Option Value :=
  match P.underlying t with
  | some (.struct fields) => match fields[f]? with
    | some fd => readAt P fd.type cs fd.offset
    | none => none
  | _ => none

def evOp (P : Program) (gl fl : Nat) (o : Oper) (T : List Value) (S : List Blk) : Option R :=
  match o.op with
  | .move x => match opd gl T x with
    | some v => some (.val v S)
    | none => none
  | .assign x => match opd gl T x with
    | some v => some (.val v S)
    | none => none
  | .pick c a b => match opd gl T c, opd gl T a, opd gl T b with
    | some (.bool β), some v, some u => some (.val (bif β then v else u) S)
    | _, _, _ => none
  | .alloc t => match zeroT P t with
    | some z => if allR scalar z.cells.toList then newK S (⟨z.cells.toList, t, false, none⟩) fun b2 S' => some (.val (.pointer (some ⟨b2, 0, none⟩)) S') else none
    | none => none
  | .box t x => match opd gl T x with
    | some v => if isJ v then none else forceK v.cells.toList fun cs => newK S (⟨cs, t, false, none⟩) fun b2 S' => some (.val (.pointer (some ⟨b2, 0, none⟩)) S')
    | none => none
  | .load t x => match opd gl T x with
    | some p => match load P t S p with
      | some v => some (.val v S)
      | none => none
    | none => none
  | .store t x y => match opd gl T x, opd gl T y with
    | some p, some v => match store P fl t S p v with
      | some S' => some (.val undef S')
      | none => none
    | _, _ => none
  | .nilCheck x => match opd gl T x with
    | some (.pointer (some a)) => some (.val (.pointer (some a)) S)
    | _ => none
  | .fieldAddr t x f => match opd gl T x with
    | some p => match fieldP P t f p with
      | some v => some (.val v S)
      | none => none
    | none => none
  | .indexAddr t x i => match opd gl T x, opd gl T i with
    | some p, some j => match indexP P t p j with
      | some v => some (.val v S)
      | none => none
    | _, _ => none
  | .makeFunc (.func f) first captured => match opds gl T first.toList, opds gl T captured.toList with
    | some xs, some cs => some (.val (.func (.func f) xs.toArray cs.toArray) S)
    | _, _ => none
  | .call { callee := .value f, args, .. } => match opd gl T f, opds gl T args.toList with
    | some g, some vs => callee P g vs
    | _, _ => none
  | .buildSlice t len parts => match opds gl T (parts.toList.map (·.2)) with
    | some vs => if vs.all plain then match buildSliceCells P t len ((parts.toList.map (·.1)).zip vs).toArray with
        | some (elem, cells) => if allR scalar cells.toList then newK S (⟨cells.toList, elem, false, none⟩) fun b2 S' => some (.val (.slice (some ⟨b2, 0, none⟩) len len) S') else none
        | none => none
      else if vs.any isJ then none else if zeroOk P t then match buildSliceCells P t len ((parts.toList.map (·.1)).zip vs).toArray with
        | some (elem, cells) => forceK cells.toList fun cs => newK S (⟨cs, elem, false, none⟩) fun b2 S' => some (.val (.slice (some ⟨b2, 0, none⟩) len len) S')
        | none => none
      else none
    | none => none
  | .binOp op bt x y _ => match opd gl T x, opd gl T y with
    | some (.agg xs), some (.agg ys) => match fastEql P op bt xs.toList ys.toList with
      | some v => some (.val v S)
      | none => pureTry P gl o T S
    | some (.int k a), some (.int j b) => if k = j then match fastBin op k a b with
        | some v => some (.val v S)
        | none => pureTry P gl o T S
      else pureTry P gl o T S
    | some (.slice (some _) _ _), some (.slice none _ _) => match P.underlying bt with
      | some (.slice _) => match op with
        | .eql => some (.val (.bool false) S)
        | .neq => some (.val (.bool true) S)
        | _ => none
      | _ => none
    | _, _ => pureTry P gl o T S
  | .call { callee := .builtin .len, args, argTypes } => match opds gl T args.toList, argTypes[0]? with
    | some [.slice (some _) n _], some t => match P.underlying t with
      | some (.slice _) => some (.val (.int .i64 n) S)
      | _ => none
    | some [.iface _ (.slice (some _) n _)], some t => match P.underlying t with
      | some (.slice _) => some (.val (.int .i64 n) S)
      | _ => none
    | _, _ => pureTry P gl o T S
  | .call { callee := .builtin .cap, args, argTypes } => match opds gl T args.toList, argTypes[0]? with
    | some [.slice (some _) _ c], some t => match P.underlying t with
      | some (.slice _) => if Nat.beq c unk then none else some (.val (.int .i64 c) S)
      | _ => none
    | _, _ => pureTry P gl o T S
  | .makeSlice t l c => match opd gl T l, opd gl T c with
    | some (.int _ n), some (.int _ m) => match makeC P t n m with
      | some (elem, cells) => if allR scalar cells.toList then forceK cells.toList fun cs => newK S (⟨cs, elem, false, none⟩) fun b2 S' => some (.val (.slice (some ⟨b2, 0, none⟩) n.toNat m.toNat) S') else none
      | none => none
    | _, _ => none
  | .slice t x none none none => match opd gl T x, P.underlying t with
    | some (.pointer (some ⟨b, off, none⟩)), some (.array (n + 1) e) => match sizeT P e with
      | some _ => if Nat.blt (n + 1) unk then some (.val (.slice (some ⟨b, off, none⟩) (n + 1) (n + 1)) S) else none
      | none => none
    | _, _ => pureTry P gl o T S
  | .slice t x lo hi mx => match sliceQO P gl T t x lo hi mx with
    | some v => some (.val v S)
    | none => match opd gl T x with
    | some (.slice (some a) n c) => match optV gl T lo, optV gl T hi, optV gl T mx with
      | some l, some h, some m => match sliceC P t (.slice (some a) n c) l h m with
        | some (true, v) => some (.val v S)
        | _ => match sliceZ P t n c l h m with
          | some (true, v) => some (.val v S)
          | _ => none
      | _, _, _ => none
    | some (.pointer (some ⟨b, off, none⟩)) => match sliceA P t b off (optV gl T lo) (optV gl T hi) (optV gl T mx) with
      | some v => some (.val v S)
      | none => pureTry P gl o T S
    | _ => pureTry P gl o T S
  | .call { callee := .builtin .append, args, argTypes } => match opds gl T args.toList with
    | some [d, s] => match appendP P S argTypes.toList d s with
      | some (v, S') => some (.val v S')
      | none => match appendD P fl S argTypes.toList d s with
        | some (v, S') => some (.val v S')
        | none => match appendZ P S argTypes.toList d s with
          | some (v, S') => some (.val v S')
          | none => match appendE P fl S argTypes.toList d s with
            | some (v, S') => some (.val v S')
            | none => match appendF P fl S argTypes.toList d s with
              | some (v, S') => some (.val v S')
              | none => match appendQ P fl S argTypes.toList d s with
                | some (v, S') => some (.val v S')
                | none => none
    | _ => none
  | .build t parts => match opds gl T (parts.toList.map (·.2)) with
    | some vs => if vs.any isJ then none else match buildCells P t ((parts.toList.map (·.1)).zip vs) with
      | some cells => some (.val (.agg cells) S)
      | none => pureTry P gl o T S
    | none => none
  | .range t x => match opd gl T x with
    | some u => match rangeP P t u with
      | some s => newK S (iterBlk s 0) fun b2 S' => some (.val (.pointer (some ⟨b2, 0, none⟩)) S')
      | none => none
    | none => none
  | .next x isString => match isString with
    | true => match opd gl T x with
      | some u => match nextP fl S u with
        | some (v, S') => some (.val v S')
        | none => none
      | none => none
    | false => none
  | .makeMap _ none => newK S (mapBlk [] 0) fun b2 S' => some (.val (.map (some b2)) S')
  | .lookup t x i ok => match opd gl T x, opd gl T i with
    | some m, some k => match lookupP P t S m k ok with
      | some v => some (.val v S)
      | none => match lookupV P t S m k ok with
        | some v => some (.val v S)
        | none => none
    | _, _ => none
  | .mapUpdate t x i y => match opd gl T x, opd gl T i, opd gl T y with
    | some m, some k, some v => match updateP P fl t S m k v with
      | some S' => some (.val undef S')
      | none => match updateV P fl t S m k v with
        | some S' => some (.val undef S')
        | none => none
    | _, _, _ => none
  | .call { callee := .builtin .clear, args, argTypes } => match opds gl T args.toList, argTypes.toList with
    | some [x], [t] => match clearP P fl S t x with
      | some S' => some (.val (.tuple #[]) S')
      | none => none
    | _, _ => none
  | .call { callee := .builtin .copy, args, argTypes } => match opds gl T args.toList, argTypes.toList with
    | some [d, s], [t, _] => match copyP P fl S t d s with
      | some (v, S') => some (.val v S')
      | none => none
    | _, _ => none
  | .insert t x i y => match opd gl T x, opd gl T i, opd gl T y with
    | some m, some k, some v => match updateP P fl t S m k v with
      | some S' => some (.val undef S')
      | none => match updateV P fl t S m k v with
        | some S' => some (.val undef S')
        | none => none
    | _, _, _ => none
  | .index t x i => match opd gl T x, opd gl T i with
    | some (.agg xs), some (.int _ j) => match indexV P t j xs.toList with
      | some v => some (.val v S)
      | none => none
    | _, _ => pureTry P gl o T S
  | .convert s d x => match opd gl T x with
    | some (.int _ n) => match P.underlying s, P.underlying d with
      | some _, some (.int j) => some (.val (.int j (j.wrap n)) S)
      | _, _ => pureTry P gl o T S
    | _ => pureTry P gl o T S
  | .extract x i => match opd gl T x with
    | some (.tuple xs) => match getR xs.toList i with
      | some v => some (.val v S)
      | none => none
    | _ => pureTry P gl o T S
  | .field t x f => match opd gl T x with
    | some (.agg xs) => match fieldV P t f xs.toList with
      | some v => some (.val v S)
      | none => none
    | _ => pureTry P gl o T S
  | _ => pureTry P gl o T S
/- The same by the lists' own functions. -/
def readAtO (P : Program) (t : TypeId) (cs : List Value) (o : Nat) : Option Value :=
  match isAggT P t with
  | some false => cs[o]?
  | some true => match sizeT P t with
    | some n => if o + n ≤ cs.length then forceK ((cs.drop o).take n) fun l => some (.agg l.toArray) else none
    | none => none
  | none => none
def loadO (P : Program) (t : TypeId) (S : List Blk) : Value → Option Value
  | .pointer (some ⟨b, o, none⟩) => match S[b]? with
    | some ⟨cs, _, _, none⟩ => readAt P t cs o
    | some ⟨cs, _, _, some (.bufc _)⟩ => readAt P t cs o
    | some ⟨_, _, _, some (.ints kd lo L)⟩ => readInts P t kd lo L o
    | some ⟨_, _, _, some (.buf kd _ L)⟩ => readInts P t kd 0 L o
    | _ => none
  | .iface _ (.pointer (some ⟨b, o, none⟩)) => match S[b]? with
    | some ⟨cs, _, _, some (.bufc _)⟩ => readAt P t cs o
    | some ⟨_, _, _, some (.buf kd _ L)⟩ => readInts P t kd 0 L o
    | some ⟨_, _, _, some (.que kd _ lo L)⟩ => readInts P t kd lo L o
    | _ => none
  | _ => none
def writeAtO (l : List Value) (o : Nat) : List Value → List Value
  | [] => l
  | v :: vs => writeAtO (l.set o v) (o + 1) vs
def storeO (P : Program) (fl : Nat) (t : TypeId) (S : List Blk) (p v : Value) : Option (List Blk) :=
  match p with
  | .pointer (some ⟨b, o, none⟩) => match S[b]?, sizeT P t with
    | some ⟨cs0, e, ro, none⟩, some n =>
      if decide (fl ≤ b) && !ro && v.cells.toList.length == n && v.cells.toList.all cellish && decide (o + v.cells.toList.length ≤ cs0.length) then
        forceK (writeAt cs0 o v.cells.toList) fun cs => forceK (S.set b ⟨cs, e, ro, none⟩) some
      else none
    | some ⟨cs0, e, ro, some (.bufc sz)⟩, some n =>
      if decide (fl ≤ b) && v.cells.toList.length == n && v.cells.toList.all cellish && decide (o + v.cells.toList.length ≤ cs0.length) then
        forceK (writeAt cs0 o v.cells.toList) fun cs => forceK (S.set b ⟨cs, e, ro, some (.bufc sz)⟩) some
      else none
    | some ⟨cs0, e, ro, some (.buf kd sz L)⟩, some n => match v with
      | .int kd2 m => if decide (fl ≤ b) && decide (n = 1) && decide (kd2 = kd) && decide (o < L.length) then forceK (L.set o m) fun L2 => forceK (S.set b ⟨cs0, e, ro, some (.buf kd sz L2)⟩) some else none
      | .agg xs => match intsOf kd xs.toList with
        | some ms => if decide (fl ≤ b) && Nat.beq ms.length n && Nat.ble (o + n) L.length then forceK (setM L o ms) fun L2 => forceK (S.set b ⟨cs0, e, ro, some (.buf kd sz L2)⟩) some else none
        | none => none
      | _ => none
    | _, _ => none
  | _ => none
def mapAtO (S : List Blk) : Value → Option (Nat × List MapEntry × Nat)
  | .map (some b) => match S[b]? with
    | some ⟨_, _, _, some (.map es clock)⟩ => some (b, es, clock)
    | _ => none
  | _ => none
def updatePO (P : Program) (fl : Nat) (t : TypeId) (S : List Blk) (x k v : Value) : Option (List Blk) :=
  match P.underlying t, mapAt S x with
  | some (.map kt _), some (b, es, clock) => if decide (fl ≤ b) && plain v then match findIn P kt false es k with
      | some (some (i, _)) => match pureSem P (Instr.keyThatStays (((es.toArray[i]?).map (·.key)).getD k) k) with
        | some key => forceK (S.set b (mapBlk (es.toArray.modify i fun e => { e with key := key, val := v }).toList clock)) some
        | none => none
      | some none => forceK (S.set b (mapBlk (es ++ [{ key := k, val := v, born := clock }]) (clock + 1))) some
      | none => none
    else none
  | _, _ => none
def sliceIntsO (S : List Blk) (sz : Nat) : Value → Option (Bool × IntKind × List Int)
  | .slice none 0 _ => some (true, .i64, [])
  | .slice (some ⟨b, off, none⟩) n _ => match S[b]? with
    | some ⟨_, _, _, some (.ints kd lo L)⟩ => some (insideI lo L off (n * sz), kd, (L.drop (off - lo)).take (n * sz))
    | some ⟨_, _, _, some (.buf kd _ L)⟩ => some (insideI 0 L off (n * sz), kd, (L.drop (off - 0)).take (n * sz))
    | some ⟨cs, _, _, none⟩ => match intsOf (kindOf cs) cs with
      | some L => some (insideI 0 L off (n * sz), kindOf cs, (L.drop (off - 0)).take (n * sz))
      | none => none
    | _ => none
  | _ => none
def appendCO (P : Program) (S : List Blk) (argTypes : List TypeId) (d s : Value) : Option (Bool × Value × Value × Blk) :=
  match argTypes with
  | [t, t2] => if t = t2 then match P.underlying t with
    | some (.slice e) => match P.info? e with
      | some i => match i.zero with
        | some z => if Nat.beq z.cells.size i.size && Nat.ble 1 i.size && Nat.ble i.bytes 4096 then match d with
          | .slice d0 0 0 => match sliceInts S i.size s with
            | some (t1, kd, L) => match s with
              | .slice _ n _ => some (t1 && Nat.ble n 34359738368, .slice d0 0 0, .slice (some ⟨S.length, 0, none⟩) n unk, ⟨[], e, false, some (.buf kd i.size L)⟩)
              | _ => none
            | none => none
          | _ => none
          else none
        | none => none
      | none => none
    | _ => none
    else none
  | _ => none
def appendPO (P : Program) (S : List Blk) (argTypes : List TypeId) (d s : Value) : Option (Value × List Blk) :=
  match appendC P S argTypes d s with
  | some (true, d', v, k) => if lenV s = 0 then some (d', S) else forceK (S ++ [k]) fun S' => some (v, S')
  | _ => none
def appendDO (P : Program) (fl : Nat) (S : List Blk) (argTypes : List TypeId) (d s : Value) : Option (Value × List Blk) :=
  match argTypes with
  | [t, t2] => if t = t2 then match P.underlying t with
    | some (.slice e) => match P.info? e with
      | some i => match i.zero with
        | some z => if Nat.beq z.cells.size i.size && Nat.ble 1 i.size && Nat.ble i.bytes 4096 then match d with
          | .slice (some ⟨b, 0, none⟩) n c => match S[b]? with
            | some ⟨_, e2, _, some (.buf kd sz L)⟩ => match sliceInts S i.size s with
              | some (true, kd2, Ls) => match s with
                | .slice (some _) (m + 1) _ => if Nat.beq c unk && Nat.ble fl b && Nat.beq sz i.size && decide (e2 = e) && decide (kd2 = kd) && Nat.ble (n * i.size) L.length && Nat.ble (n + (m + 1)) 34359738368 then
                    forceK (L.take (n * i.size) ++ Ls) fun L2 => forceK (S.set b deadBlk ++ [⟨[], e, false, some (.buf kd sz L2)⟩]) fun S' => some (.slice (some ⟨S.length, 0, none⟩) (n + (m + 1)) unk, S')
                  else none
                | .slice _ 0 _ => some (.slice (some ⟨b, 0, none⟩) n c, S)
                | _ => none
              | _ => none
            | _ => none
          | _ => none
          else none
        | none => none
      | none => none
    | _ => none
    else none
  | _ => none
def appendZO (P : Program) (S : List Blk) (argTypes : List TypeId) (d s : Value) : Option (Value × List Blk) :=
  match argTypes with
  | [t, tn] => match P.underlying t with
    | some (.slice e) => match P.underlying tn with
      | some (.int _) => match P.info? e with
        | some i => match i.zero with
          | some z => if Nat.beq z.cells.size i.size && Nat.ble 1 i.size && Nat.ble i.bytes 4096 then match d with
            | .slice _ 0 0 => match s with
              | .int _ n => if decide (0 < n) && decide (n ≤ 65536) then
                  match intsOf (kindOf z.cells.toList) (Builtin.zeroCells z.cells n.toNat).toList with
                  | some L => forceK L fun L' => forceK (S ++ [⟨[], e, false, some (.buf (kindOf z.cells.toList) i.size L')⟩]) fun S' => some (.slice (some ⟨S.length, 0, none⟩) n.toNat unk, S')
                  | none => none
                else none
              | _ => none
            | _ => none
            else none
          | none => none
        | none => none
      | _ => none
    | _ => none
  | _ => none
def nextPO (fl : Nat) (S : List Blk) (x : Value) : Option (Value × List Blk) :=
  match x with
  | .pointer (some ⟨b, 0, none⟩) => match S[b]? with
    | some ⟨_, _, _, some (.iter s pos)⟩ => if decide (fl ≤ b) then
        if pos < s.size then match Utf8.decode s pos with
          | (c, width) => forceK (S.set b (iterBlk s (pos + width))) fun S' => some (.tuple #[.bool true, goInt pos, .int .i32 c], S')
        else some (.tuple #[.bool false], S)
      else none
    | _ => none
  | _ => none
def evOpO (P : Program) (gl fl : Nat) (o : Oper) (T : List Value) (S : List Blk) : Option R :=
  match o.op with
  | .move x => match opd gl T x with
    | some v => some (.val v S)
    | none => none
  | .assign x => match opd gl T x with
    | some v => some (.val v S)
    | none => none
  | .pick c a b => match opd gl T c, opd gl T a, opd gl T b with
    | some (.bool β), some v, some u => some (.val (bif β then v else u) S)
    | _, _, _ => none
  | .alloc t => match zeroT P t with
    | some z => if z.cells.toList.all scalar then forceK (S ++ [⟨z.cells.toList, t, false, none⟩]) fun S' => some (.val (.pointer (some ⟨S.length, 0, none⟩)) S') else none
    | none => none
  | .box t x => match opd gl T x with
    | some v => if isJ v then none else forceK v.cells.toList fun cs => forceK (S ++ [⟨cs, t, false, none⟩]) fun S' => some (.val (.pointer (some ⟨S.length, 0, none⟩)) S')
    | none => none
  | .load t x => match opd gl T x with
    | some p => match load P t S p with
      | some v => some (.val v S)
      | none => none
    | none => none
  | .store t x y => match opd gl T x, opd gl T y with
    | some p, some v => match store P fl t S p v with
      | some S' => some (.val undef S')
      | none => none
    | _, _ => none
  | .nilCheck x => match opd gl T x with
    | some (.pointer (some a)) => some (.val (.pointer (some a)) S)
    | _ => none
  | .fieldAddr t x f => match opd gl T x with
    | some p => match fieldP P t f p with
      | some v => some (.val v S)
      | none => none
    | none => none
  | .indexAddr t x i => match opd gl T x, opd gl T i with
    | some p, some j => match indexP P t p j with
      | some v => some (.val v S)
      | none => none
    | _, _ => none
  | .makeFunc (.func f) first captured => match opds gl T first.toList, opds gl T captured.toList with
    | some xs, some cs => some (.val (.func (.func f) xs.toArray cs.toArray) S)
    | _, _ => none
  | .call { callee := .value f, args, .. } => match opd gl T f, opds gl T args.toList with
    | some g, some vs => callee P g vs
    | _, _ => none
  | .buildSlice t len parts => match opds gl T (parts.toList.map (·.2)) with
    | some vs => if vs.all plain then match buildSliceCells P t len ((parts.toList.map (·.1)).zip vs).toArray with
        | some (elem, cells) => if cells.toList.all scalar then forceK (S ++ [⟨cells.toList, elem, false, none⟩]) fun S' => some (.val (.slice (some ⟨S.length, 0, none⟩) len len) S') else none
        | none => none
      else if vs.any isJ then none else if zeroOk P t then match buildSliceCells P t len ((parts.toList.map (·.1)).zip vs).toArray with
        | some (elem, cells) => forceK cells.toList fun cs => forceK (S ++ [⟨cs, elem, false, none⟩]) fun S' => some (.val (.slice (some ⟨S.length, 0, none⟩) len len) S')
        | none => none
      else none
    | none => none
  | .binOp op bt x y _ => match opd gl T x, opd gl T y with
    | some (.agg xs), some (.agg ys) => match fastEql P op bt xs.toList ys.toList with
      | some v => some (.val v S)
      | none => pureTry P gl o T S
    | some (.int k a), some (.int j b) => if k = j then match fastBin op k a b with
        | some v => some (.val v S)
        | none => pureTry P gl o T S
      else pureTry P gl o T S
    | some (.slice (some _) _ _), some (.slice none _ _) => match P.underlying bt with
      | some (.slice _) => match op with
        | .eql => some (.val (.bool false) S)
        | .neq => some (.val (.bool true) S)
        | _ => none
      | _ => none
    | _, _ => pureTry P gl o T S
  | .call { callee := .builtin .len, args, argTypes } => match opds gl T args.toList, argTypes[0]? with
    | some [.slice (some _) n _], some t => match P.underlying t with
      | some (.slice _) => some (.val (.int .i64 n) S)
      | _ => none
    | some [.iface _ (.slice (some _) n _)], some t => match P.underlying t with
      | some (.slice _) => some (.val (.int .i64 n) S)
      | _ => none
    | _, _ => pureTry P gl o T S
  | .call { callee := .builtin .cap, args, argTypes } => match opds gl T args.toList, argTypes[0]? with
    | some [.slice (some _) _ c], some t => match P.underlying t with
      | some (.slice _) => if Nat.beq c unk then none else some (.val (.int .i64 c) S)
      | _ => none
    | _, _ => pureTry P gl o T S
  | .makeSlice t l c => match opd gl T l, opd gl T c with
    | some (.int _ n), some (.int _ m) => match makeC P t n m with
      | some (elem, cells) => if cells.toList.all scalar then forceK cells.toList fun cs => forceK (S ++ [⟨cs, elem, false, none⟩]) fun S' => some (.val (.slice (some ⟨S.length, 0, none⟩) n.toNat m.toNat) S') else none
      | none => none
    | _, _ => none
  | .slice t x none none none => match opd gl T x, P.underlying t with
    | some (.pointer (some ⟨b, off, none⟩)), some (.array (n + 1) e) => match sizeT P e with
      | some _ => if Nat.blt (n + 1) unk then some (.val (.slice (some ⟨b, off, none⟩) (n + 1) (n + 1)) S) else none
      | none => none
    | _, _ => pureTry P gl o T S
  | .slice t x lo hi mx => match sliceQO P gl T t x lo hi mx with
    | some v => some (.val v S)
    | none => match opd gl T x with
    | some (.slice (some a) n c) => match optV gl T lo, optV gl T hi, optV gl T mx with
      | some l, some h, some m => match sliceC P t (.slice (some a) n c) l h m with
        | some (true, v) => some (.val v S)
        | _ => match sliceZ P t n c l h m with
          | some (true, v) => some (.val v S)
          | _ => none
      | _, _, _ => none
    | some (.pointer (some ⟨b, off, none⟩)) => match sliceA P t b off (optV gl T lo) (optV gl T hi) (optV gl T mx) with
      | some v => some (.val v S)
      | none => pureTry P gl o T S
    | _ => pureTry P gl o T S
  | .call { callee := .builtin .append, args, argTypes } => match opds gl T args.toList with
    | some [d, s] => match appendP P S argTypes.toList d s with
      | some (v, S') => some (.val v S')
      | none => match appendD P fl S argTypes.toList d s with
        | some (v, S') => some (.val v S')
        | none => match appendZ P S argTypes.toList d s with
          | some (v, S') => some (.val v S')
          | none => match appendE P fl S argTypes.toList d s with
            | some (v, S') => some (.val v S')
            | none => match appendF P fl S argTypes.toList d s with
              | some (v, S') => some (.val v S')
              | none => match appendQ P fl S argTypes.toList d s with
                | some (v, S') => some (.val v S')
                | none => none
    | _ => none
  | .build t parts => match opds gl T (parts.toList.map (·.2)) with
    | some vs => if vs.any isJ then none else match buildCells P t ((parts.toList.map (·.1)).zip vs) with
      | some cells => some (.val (.agg cells) S)
      | none => pureTry P gl o T S
    | none => none
  | .range t x => match opd gl T x with
    | some u => match rangeP P t u with
      | some s => forceK (S ++ [iterBlk s 0]) fun S' => some (.val (.pointer (some ⟨S.length, 0, none⟩)) S')
      | none => none
    | none => none
  | .next x isString => match isString with
    | true => match opd gl T x with
      | some u => match nextP fl S u with
        | some (v, S') => some (.val v S')
        | none => none
      | none => none
    | false => none
  | .makeMap _ none => forceK (S ++ [mapBlk [] 0]) fun S' => some (.val (.map (some S.length)) S')
  | .lookup t x i ok => match opd gl T x, opd gl T i with
    | some m, some k => match lookupP P t S m k ok with
      | some v => some (.val v S)
      | none => match lookupV P t S m k ok with
        | some v => some (.val v S)
        | none => none
    | _, _ => none
  | .mapUpdate t x i y => match opd gl T x, opd gl T i, opd gl T y with
    | some m, some k, some v => match updateP P fl t S m k v with
      | some S' => some (.val undef S')
      | none => match updateV P fl t S m k v with
        | some S' => some (.val undef S')
        | none => none
    | _, _, _ => none
  | .call { callee := .builtin .clear, args, argTypes } => match opds gl T args.toList, argTypes.toList with
    | some [x], [t] => match clearP P fl S t x with
      | some S' => some (.val (.tuple #[]) S')
      | none => none
    | _, _ => none
  | .call { callee := .builtin .copy, args, argTypes } => match opds gl T args.toList, argTypes.toList with
    | some [d, s], [t, _] => match copyP P fl S t d s with
      | some (v, S') => some (.val v S')
      | none => none
    | _, _ => none
  | .insert t x i y => match opd gl T x, opd gl T i, opd gl T y with
    | some m, some k, some v => match updateP P fl t S m k v with
      | some S' => some (.val undef S')
      | none => match updateV P fl t S m k v with
        | some S' => some (.val undef S')
        | none => none
    | _, _, _ => none
  | .index t x i => match opd gl T x, opd gl T i with
    | some (.agg xs), some (.int _ j) => match indexV P t j xs.toList with
      | some v => some (.val v S)
      | none => none
    | _, _ => pureTry P gl o T S
  | .convert s d x => match opd gl T x with
    | some (.int _ n) => match P.underlying s, P.underlying d with
      | some _, some (.int j) => some (.val (.int j (j.wrap n)) S)
      | _, _ => pureTry P gl o T S
    | _ => pureTry P gl o T S
  | .extract x i => match opd gl T x with
    | some (.tuple xs) => match getR xs.toList i with
      | some v => some (.val v S)
      | none => none
    | _ => pureTry P gl o T S
  | .field t x f => match opd gl T x with
    | some (.agg xs) => match fieldV P t f xs.toList with
      | some v => some (.val v S)
      | none => none
    | _ => pureTry P gl o T S
  | _ => pureTry P gl o T S

theorem readAt_eqO (P : Program) (t : TypeId) (cs : List Value) (o : Nat) : readAt P t cs o = readAtO P t cs o := by
  unfold readAt readAtO
  simp only [getR_eq, forceK_eq, takeR_eq, dropR_eq, lenR_eq, Nat.ble_eq]
theorem load_eqO (P : Program) (t : TypeId) (S : List Blk) (p : Value) : load P t S p = loadO P t S p := by
  unfold load loadO
  simp only [getR_eq]
theorem writeAt_eqO (l : List Value) (o : Nat) (vs : List Value) : writeAt l o vs = writeAtO l o vs := by
  induction vs generalizing l o with
  | nil => rfl
  | cons v vs ih => simp only [writeAt, writeAtO, setG_eq, ih]
theorem store_eqO (P : Program) (fl : Nat) (t : TypeId) (S : List Blk) (p v : Value) : store P fl t S p v = storeO P fl t S p v := by
  unfold store storeO
  simp only [getR_eq, lenR_eq, allR_eq, setG_eq, forceK_eq]
  split
  · split
    · rename_i cs0 e ro n _ _
      refine ite_congr (propext ?_) (fun _ => rfl) (fun _ => rfl)
      simp only [Bool.and_eq_true, Nat.beq_eq, Nat.ble_eq, beq_iff_eq, decide_eq_true_eq]
      constructor
      · rintro ⟨⟨⟨⟨h1, h2⟩, h3⟩, h4⟩, h5⟩; exact ⟨⟨⟨⟨h1, h2⟩, h3⟩, h4⟩, by omega⟩
      · rintro ⟨⟨⟨⟨h1, h2⟩, h3⟩, h4⟩, h5⟩; exact ⟨⟨⟨⟨h1, h2⟩, h3⟩, h4⟩, by omega⟩
    · refine ite_congr (propext ?_) (fun _ => rfl) (fun _ => rfl)
      simp only [Bool.and_eq_true, Nat.beq_eq, Nat.ble_eq, beq_iff_eq, decide_eq_true_eq]
      constructor
      · rintro ⟨⟨⟨h1, h3⟩, h4⟩, h5⟩; exact ⟨⟨⟨h1, h3⟩, h4⟩, by omega⟩
      · rintro ⟨⟨⟨h1, h3⟩, h4⟩, h5⟩; exact ⟨⟨⟨h1, h3⟩, h4⟩, by omega⟩
    · split
      · refine ite_congr (propext ?_) (fun _ => rfl) (fun _ => rfl)
        simp only [Bool.and_eq_true, Nat.blt_eq, decide_eq_true_eq]
      · rfl
      · rfl
    · rfl
  · rfl
theorem mapAt_eqO (S : List Blk) (v : Value) : mapAt S v = mapAtO S v := by
  unfold mapAt mapAtO
  simp only [getR_eq]
theorem updateP_eqO (P : Program) (fl : Nat) (t : TypeId) (S : List Blk) (x k v : Value) : updateP P fl t S x k v = updatePO P fl t S x k v := by
  unfold updateP updatePO
  simp only [setG_eq, forceK_eq]
theorem sliceInts_eqO (S : List Blk) (sz : Nat) (v : Value) : sliceInts S sz v = sliceIntsO S sz v := by
  unfold sliceInts sliceIntsO
  simp only [getR_eq]
theorem appendC_eqO (P : Program) (S : List Blk) (l : List TypeId) (d s : Value) : appendC P S l d s = appendCO P S l d s := by
  unfold appendC appendCO
  simp only [lenR_eq]
theorem appendP_eqO (P : Program) (S : List Blk) (l : List TypeId) (d s : Value) : appendP P S l d s = appendPO P S l d s := by
  unfold appendP appendPO
  simp only [appG_eq, forceK_eq]
theorem appendD_eqO (P : Program) (fl : Nat) (S : List Blk) (l : List TypeId) (d s : Value) : appendD P fl S l d s = appendDO P fl S l d s := by
  unfold appendD appendDO
  simp only [getR_eq, appG_eq, takeR_eq, setG_eq, newK_eq, forceK_eq, List.length_set]
theorem appendZ_eqO (P : Program) (S : List Blk) (l : List TypeId) (d s : Value) : appendZ P S l d s = appendZO P S l d s := by
  unfold appendZ appendZO
  simp only [newK_eq, forceK_eq]
theorem nextP_eqO (fl : Nat) (S : List Blk) (x : Value) : nextP fl S x = nextPO fl S x := by
  unfold nextP nextPO
  simp only [getR_eq, setG_eq, forceK_eq]
theorem evOp_eqO (P : Program) (gl fl : Nat) (o : Oper) (T : List Value) (S : List Blk) : evOp P gl fl o T S = evOpO P gl fl o T S := by
  unfold evOp evOpO
  simp only [newK_eq, forceK_eq, allR_eq]
end
end Go.Proofs.XX.Vm
/- A small evaluator over a shadow heap, part 3: what is evaluated is what the model runs, operation by operation. -/
namespace Go.Proofs.XX.Vm
open Go Go.RowKit

structure Ok (gl : Nat) (φ : Ren) (S : List Blk) (w : World) : Prop where
  good : Good φ S w
  glob : ∀ g, g < gl → φ g = some g

theorem opd_rel {gl : Nat} {φ : Ren} {S : List Blk} {w : World} (ok : Ok gl φ S w) {T : List Value} {a : Act} (hT : LRel φ T a.tmps.toList) {x : Operand} {v : Value}
    (h : opd gl T x = some v) : VRel φ v (a.eval x) := by
  cases x with
  | tmp t =>
    simp only [opd, nthD_eq, Option.some.injEq] at h
    subst h
    simp only [Act.eval]
    cases ht : T[t]? with
    | none =>
      have := hT.none ht
      simp only [Array.getElem?_toList] at this
      simp [this, undef_refl]
    | some v =>
      obtain ⟨v', h1, h2⟩ := hT.get ht
      simp only [Array.getElem?_toList] at h1
      simpa [h1] using h2
  | const v =>
    simp only [opd] at h
    split at h
    · rename_i hp; cases h; exact plain_refl hp
    · cases h
  | global g =>
    simp only [opd] at h
    split at h
    · rename_i hp; cases h; exact .ptr (ok.glob g hp)
    · cases h
  | func f => simp only [opd, Option.some.injEq] at h; subst h; exact plain_refl (by simp [plain, flat, scalar])

theorem opds_rel {gl : Nat} {φ : Ren} {S : List Blk} {w : World} (ok : Ok gl φ S w) {T : List Value} {a : Act} (hT : LRel φ T a.tmps.toList) {l : List Operand} {vs : List Value}
    (h : opds gl T l = some vs) : LRel φ vs (l.map a.eval) := by
  induction l generalizing vs with
  | nil => simp only [opds, Option.some.injEq] at h; subst h; exact LRel.nil φ
  | cons x l ih =>
    simp only [opds] at h
    split at h
    · rename_i v vs' h1 h2; cases h; exact LRel.cons (opd_rel ok hT h1) (ih h2)
    · cases h

section
variable {P : Program} {w : World}
theorem run_isAgg {t : TypeId} {b : Bool} (h : isAggT P t = some b) : (isAgg t).run P w = .ok b w := by
  unfold isAggT at h
  cases hu : P.underlying t with
  | none => rw [hu] at h; cases h
  | some d =>
    rw [hu] at h
    unfold isAgg
    simp only [Sem.run_bind, run_underlying hu, Result.andThen_ok]
    cases d <;> simp_all
theorem run_sizeT {t : TypeId} {n : Nat} (h : sizeT P t = some n) : (sizeOf t).run P w = .ok n w := by
  unfold sizeT at h
  cases hi : P.info? t with
  | none => rw [hi] at h; cases h
  | some i => rw [hi] at h; cases h; simp [sizeOf, run_typeInfo w hi]
theorem run_zeroT {t : TypeId} {z : Value} (h : zeroT P t = some z) : (zeroValue t).run P w = .ok z w := by
  unfold zeroT at h
  cases hi : P.info? t with
  | none => rw [hi] at h; cases h
  | some i =>
    rw [hi] at h
    simp only at h
    unfold zeroValue
    simp [Sem.run_bind, run_typeInfo w hi, h]

theorem cell_of_heap {r o : Nat} {c : Array Value} {e : TypeId} {fz : Nat × Nat} (h : w.heap[r]? = some (.cells c e fz)) : w.cell? ⟨r, o, none⟩ = c[o]? := by
  simp [World.cell?, h]
theorem run_loadCellsFrom {r o : Nat} {c : Array Value} {e : TypeId} {fz : Nat × Nat} (h : w.heap[r]? = some (.cells c e fz)) : ∀ (n i : Nat) (acc : Array Value), o + i + n ≤ c.size →
    (loadCellsFrom ⟨r, o, none⟩ i n acc).run P w = .ok (acc ++ ((c.toList.drop (o + i)).take n).toArray) w := by
  intro n
  induction n with
  | zero => intro i acc _; simp [loadCellsFrom, Sem.run_pure]
  | succ n ih =>
    intro i acc hn
    have hadd : (⟨r, o, none⟩ : Addr).add i = ⟨r, o + i, none⟩ := by unfold Addr.add; split <;> simp_all
    have hc : w.cell? ⟨r, o + i, none⟩ = some c[o + i] := by rw [cell_of_heap h]; simp
    simp only [loadCellsFrom, Sem.run_bind, hadd, Go.load, Sem.run, hc, Result.andThen_ok]
    rw [ih _ _ (by omega)]
    have : c.toList.drop (o + i) = c[o + i] :: c.toList.drop (o + (i + 1)) := by
      rw [List.drop_eq_getElem_cons (by simp; omega)]; simp [Nat.add_assoc]
    rw [this]
    simp

theorem intCells_len (kd : IntKind) (L : List Int) : ∀ n i, (intCells kd L i n).length = n
  | 0, _ => rfl
  | n + 1, i => by simp [intCells, intCells_len kd L n]
theorem intCells_get (kd : IntKind) (L : List Int) : ∀ n i j, j < n → (intCells kd L i n)[j]? = some (.int kd (nthI L (i + j)))
  | 0, _, _, h => absurd h (Nat.not_lt_zero _)
  | n + 1, i, 0, _ => rfl
  | n + 1, i, j + 1, h => by
    have := intCells_get kd L n (i + 1) j (by omega)
    simp only [intCells, List.getElem?_cons_succ, this]
    rw [show i + 1 + j = i + (j + 1) by omega]
theorem intCells_scalar (kd : IntKind) (L : List Int) : ∀ n i, (intCells kd L i n).all scalar = true
  | 0, _ => rfl
  | n + 1, i => by simp [intCells, intCells_scalar kd L n, scalar]
theorem insideI_spec {lo : Nat} {L : List Int} {o n : Nat} (h : insideI lo L o n = true) : lo ≤ o ∧ o + n ≤ lo + L.length := by
  simpa [insideI, Nat.ble_eq] using h
theorem run_loadInts {r o : Nat} {c' : Array Value} {e : TypeId} {fz : Nat × Nat} {kd : IntKind} {lo : Nat} {L : List Int} (h1 : w.heap[r]? = some (.cells c' e fz)) (h2 : ∀ (i : Nat) (n : Int), L[i]? = some n → c'.toList[lo + i]? = some (.int kd n))
    {t : TypeId} {v : Value} (h : readInts P t kd lo L o = some v) : (Instr.loadAt t (.pointer (some ⟨r, o, none⟩))).run P w = .ok v w ∧ plain v = true := by
  have cell : ∀ j, lo ≤ o → o + j < lo + L.length → c'.toList[o + j]? = some (.int kd (nthI L (o - lo + j))) := by
    intro j g1 g2
    have := h2 (o - lo + j) _ (nthI_some (by omega))
    rwa [show lo + (o - lo + j) = o + j by omega] at this
  unfold readInts intsC at h
  simp only [forceK_eq] at h
  unfold Instr.loadAt loadVar
  simp only [Instr.sureAddr, Sem.run_bind, Sem.run_pure, Result.andThen_ok]
  cases ha : isAggT P t with
  | none => simp only [ha] at h; cases h
  | some ag =>
    simp only [ha] at h
    cases ag with
    | false =>
      cases hi : insideI lo L o 1 with
      | false => simp only [hi] at h; cases h
      | true =>
        simp only [hi, Option.some.injEq] at h
        subst h
        obtain ⟨g1, g2⟩ := insideI_spec hi
        have hc : w.cell? ⟨r, o, none⟩ = some (.int kd (nthI L (o - lo))) := by
          have := cell 0 g1 (by omega)
          rw [cell_of_heap h1]; simpa using this
        refine ⟨by simp [run_isAgg ha, Go.load, Sem.run, hc], rfl⟩
    | true =>
      cases hz : sizeT P t with
      | none => simp only [hz] at h; cases h
      | some n =>
        simp only [hz] at h
        cases hi : insideI lo L o n with
        | false => simp only [hi] at h; cases h
        | true =>
          simp only [hi, Option.some.injEq] at h
          subst h
          obtain ⟨g1, g2⟩ := insideI_spec hi
          have hsz : n = 0 ∨ o + n ≤ c'.size := by
            cases n with
            | zero => exact .inl rfl
            | succ n =>
              have := cell n g1 (by omega)
              have := (List.getElem?_eq_some_iff.1 this).1
              simp only [Array.length_toList] at this
              exact .inr (by omega)
          have heq : (c'.toList.drop o).take n = intCells kd L (o - lo) n := by
            refine List.ext_getElem? fun j => ?_
            rw [List.getElem?_take]
            by_cases hj : j < n
            · rw [if_pos hj, List.getElem?_drop, cell j g1 (by omega), intCells_get kd L n _ j hj]
            · rw [if_neg hj, List.getElem?_eq_none (by rw [intCells_len]; omega)]
          refine ⟨?_, by simpa [plain, flat] using intCells_scalar kd L n (o - lo)⟩
          simp only [run_isAgg ha, Result.andThen_ok, if_true, Sem.run_bind, run_sizeT hz, loadCells]
          rcases hsz with rfl | hsz
          · simp [loadCellsFrom, intCells]
          · rw [run_loadCellsFrom h1 n 0 #[] (by omega)]
            simp only [Nat.add_zero, heq, Result.andThen_ok, Sem.run_pure]
            simp

theorem run_readAt {φ : Ren} {t : TypeId} {r o : Nat} {cs : List Value} {c' : Array Value} {e : TypeId} {fz : Nat × Nat} {v : Value} (h1 : w.heap[r]? = some (.cells c' e fz)) (h2 : LRel φ cs (c'.toList.take cs.length)) (h : readAt P t cs o = some v) :
    ∃ v', (Instr.loadAt t (.pointer (some ⟨r, o, none⟩))).run P w = .ok v' w ∧ VRel φ v v' := by
  rw [readAt_eqO] at h; unfold readAtO at h
  simp only [forceK_eq] at h
  unfold Instr.loadAt loadVar
  simp only [Instr.sureAddr, Sem.run_bind, Sem.run_pure, Result.andThen_ok]
  split at h
  · rename_i ha
    obtain ⟨v', g1, g2⟩ := h2.get h
    refine ⟨v', ?_, g2⟩
    have hc : w.cell? ⟨r, o, none⟩ = some v' := by rw [cell_of_heap h1]; simpa using take_get g1
    simp [run_isAgg ha, Go.load, Sem.run, hc]
  · rename_i ha
    split at h
    · rename_i n hn
      split at h
      · rename_i hle
        cases h
        have hl := take_len h2
        have hr := (h2.drop o).take n
        rw [take_drop_take hle] at hr
        refine ⟨.agg ((c'.toList.drop o).take n).toArray, ?_, .agg (by simpa using hr.1) (by simpa using hr.2)⟩
        simp only [run_isAgg ha, Result.andThen_ok, if_true, Sem.run_bind, run_sizeT hn, loadCells]
        rw [run_loadCellsFrom h1 n 0 #[] (by omega)]
        simp [Sem.run_pure]
      · cases h
    · cases h
  · cases h
theorem run_load {φ : Ren} {S : List Blk} (good : Good φ S w) {t : TypeId} {p p' v : Value} (hp : VRel φ p p') (h : load P t S p = some v) :
    ∃ v', (Instr.loadAt t p').run P w = .ok v' w ∧ VRel φ v v' := by
  rw [load_eqO] at h; unfold loadO at h
  split at h
  · rename_i b o
    cases hp with
    | ptr hb =>
      rename_i r
      split at h
      · rename_i cs e ro hk
        obtain ⟨c', fz, h1, h2, _⟩ := good.cells hk hb
        exact run_readAt h1 h2 h
      · rename_i cs e ro sz hk
        obtain ⟨c', h1, h2, _⟩ := good.bufc hk hb
        exact run_readAt h1 h2 h
      · rename_i cs e ro kd lo L hk
        obtain ⟨c', fz, h1, h2, _⟩ := good.ints hk hb
        obtain ⟨g1, g2⟩ := run_loadInts (P := P) h1 h2 h
        exact ⟨v, g1, plain_refl g2⟩
      · rename_i cs e ro kd sz L hk
        obtain ⟨c', h1, h2, _⟩ := good.buf hk hb
        obtain ⟨g1, g2⟩ := run_loadInts (P := P) h1 h2 h
        exact ⟨v, g1, plain_refl g2⟩
      · cases h
  · rename_i sz b o
    cases hp with
    | qp hb hso =>
      rename_i r
      split at h
      · rename_i cs e ro sz2 hk
        obtain ⟨c', h1, h2, _⟩ := good.bufc hk hb
        have hz : φ.cap r / unk = 0 := Nat.div_eq_of_lt (good.bufcU hk hb)
        rw [hz]
        exact run_readAt h1 h2 h
      · rename_i cs e ro kd sz2 L hk
        obtain ⟨c', h1, h2, _⟩ := good.buf hk hb
        have hz : φ.cap r / unk = 0 := Nat.div_eq_of_lt (good.bufU hk hb)
        obtain ⟨g1, g2⟩ := run_loadInts (P := P) h1 h2 h
        exact ⟨v, by rw [hz]; exact g1, plain_refl g2⟩
      · rename_i cs e ro kd sz2 lo L hk
        obtain ⟨_, hlo, c', h1, _, h2⟩ := good.room _ _ _ hk hb
        have hin : lo ≤ o := by
          unfold readInts intsC at h
          simp only [forceK_eq] at h
          cases ha : isAggT P t with
          | none => simp only [ha] at h; cases h
          | some ag =>
            simp only [ha] at h
            cases ag with
            | false =>
              cases hi : insideI lo L o 1 with
              | false => simp only [hi] at h; cases h
              | true => exact (insideI_spec hi).1
            | true =>
              cases hz : sizeT P t with
              | none => simp only [hz] at h; cases h
              | some n =>
                simp only [hz] at h
                cases hi : insideI lo L o n with
                | false => simp only [hi] at h; cases h
                | true => exact (insideI_spec hi).1
        have hsh : readInts P t kd (lo - φ.cap r / unk) L (o - φ.cap r / unk) = readInts P t kd lo L o := by
          have e1 : o - φ.cap r / unk - (lo - φ.cap r / unk) = o - lo := by omega
          have e2 : ∀ n, insideI (lo - φ.cap r / unk) L (o - φ.cap r / unk) n = insideI lo L o n := by
            intro n
            simp only [insideI]
            have : Nat.ble (lo - φ.cap r / unk) (o - φ.cap r / unk) = Nat.ble lo o := by
              rw [Nat.ble_eq_true_of_le (by omega), Nat.ble_eq_true_of_le hin]
            rw [this]
            congr 1
            cases hq : Nat.ble (o + n) (lo + L.length) with
            | true => exact Nat.ble_eq_true_of_le (by have := Nat.le_of_ble_eq_true hq; omega)
            | false =>
              cases hq2 : Nat.ble (o - φ.cap r / unk + n) (lo - φ.cap r / unk + L.length) with
              | false => rfl
              | true =>
                have := Nat.le_of_ble_eq_true hq2
                rw [Nat.ble_eq_true_of_le (by omega)] at hq
                cases hq
          unfold readInts intsC
          simp only [e1, e2]
        obtain ⟨g1, g2⟩ := run_loadInts (P := P) h1 h2 (hsh.trans h)
        exact ⟨v, g1, plain_refl g2⟩
      · cases h
  · cases h

/-- One store. -/
theorem store_cell {φ : Ren} {S : List Blk} {fl : Nat} {ob : Option SObj} (good : Good φ S w) {b r o : Nat} {cs : List Value} {e : TypeId} {ro : Bool} (hk : S[b]? = some ⟨cs, e, ro, ob⟩) (hb : φ b = some r) (hfl : fl ≤ b) (hro : (ob = none ∧ ro = false) ∨ ∃ sz, ob = some (.bufc sz))
    {v v' : Value} (hv : VRel φ v v') (hc : cellish v = true) (ho : o < cs.length) :
    (Go.store ⟨r, o, none⟩ v').run P w = .ok () (w.setCell ⟨r, o, none⟩ v') ∧ Good φ (S.set b ⟨cs.set o v, e, ro, ob⟩) (w.setCell ⟨r, o, none⟩ v') ∧
      Step fl φ S w φ (S.set b ⟨cs.set o v, e, ro, ob⟩) (w.setCell ⟨r, o, none⟩ v') := by
  obtain ⟨c', h1, h2⟩ := good.row hk hb hro
  have hlen := take_len h2
  have hcell : w.cell? ⟨r, o, none⟩ = some (c'[o]'(by omega)) := by rw [cell_of_heap h1]; exact Array.getElem?_eq_getElem (by omega)
  have hfz : w.frozen? ⟨r, o, none⟩ = false := by simp [World.frozen?, h1]
  have hheap : ∀ s, (w.setCell ⟨r, o, none⟩ v').heap[s]? = if s = r then some (.cells (c'.setIfInBounds o v') e) else w.heap[s]? := by
    intro s
    simp only [World.setCell, Array.getElem?_modify]
    by_cases hs : s = r
    · subst hs; simp [h1]
    · rw [if_neg (by omega), if_neg hs]
  have hbl : b < S.length := (List.getElem?_eq_some_iff.1 hk).1
  have hset : LRel φ (cs.set o v) ((c'.setIfInBounds o v').toList.take (cs.set o v).length) := by simpa [List.take_set] using h2.set hv o
  have hlive : ¬ Dead S b := fun d => d.not hk (by rcases hro with ⟨rfl, _⟩ | ⟨sz, rfl⟩ <;> simp)
  have key : BRel φ ⟨cs.set o v, e, ro, ob⟩ (.cells (c'.setIfInBounds o v') e) ∧ Room φ r ⟨cs.set o v, e, ro, ob⟩ (w.setCell ⟨r, o, none⟩ v') := by
    have hroom := good.room b _ r hk hb
    have hbr := good.blk b _ r hk hb
    rcases hro with ⟨rfl, rfl⟩ | ⟨sz, rfl⟩
    · exact ⟨⟨_, (0, 0), rfl, hset, fun _ => rfl, fun h => by cases h⟩, hroom⟩
    · obtain ⟨_, _, _, _, _, b3⟩ := hbr
      obtain ⟨g1, gu, c, e2, fz, g2, g3⟩ := hroom
      rw [h1] at g2
      cases g2
      exact ⟨⟨_, rfl, hset, b3⟩, g1, gu, _, _, _, by rw [hheap, if_pos rfl], by simpa using g3⟩
  refine ⟨?_, good.turn hbl hb hfl key.1 hlive key.2 hheap (by simp [World.setCell]) rfl rfl rfl⟩
  cases hv <;> first | (simp [Go.store, Sem.run, hcell, hfz]; done) | (simp [cellish] at hc; done)

theorem store_cells {φ : Ren} {fl : Nat} {b r : Nat} {ob : Option SObj} (hb : φ b = some r) (hfl : fl ≤ b) : ∀ (vs vs' : List Value) (S : List Blk) (w : World) (cs : List Value) (e : TypeId) (ro : Bool) (o i : Nat), Good φ S w → S[b]? = some ⟨cs, e, ro, ob⟩ → ((ob = none ∧ ro = false) ∨ ∃ sz, ob = some (.bufc sz)) →
    LRel φ vs vs' → vs.all cellish = true → o + i + vs.length ≤ cs.length →
    ∃ w', (storeCells ⟨r, o, none⟩ vs' i).run P w = .ok () w' ∧ Good φ (S.set b ⟨writeAtO cs (o + i) vs, e, ro, ob⟩) w' ∧
      Step fl φ S w φ (S.set b ⟨writeAtO cs (o + i) vs, e, ro, ob⟩) w' := by
  intro vs
  induction vs with
  | nil =>
    intro vs' S w cs e ro o i good hk _ hvs _ _
    cases vs' with
    | cons _ _ => simp [LRel] at hvs
    | nil =>
      have : S.set b ⟨writeAtO cs (o + i) [], e, ro, ob⟩ = S := by
        refine List.ext_getElem? fun j => ?_
        by_cases hj : b = j
        · subst hj; rw [List.getElem?_set_self (List.getElem?_eq_some_iff.1 hk).1, hk]; rfl
        · rw [List.getElem?_set_ne hj]
      rw [this]
      exact ⟨w, by simp [storeCells], good, Step.refl _ _ _ _⟩
  | cons v vs ih =>
    intro vs' S w cs e ro o i good hk hro hvs hall hle
    cases vs' with
    | nil => simp [LRel] at hvs
    | cons v' vs' =>
      simp only [List.all_cons, Bool.and_eq_true] at hall
      simp only [List.length_cons] at hle
      obtain ⟨e1, e2, e3⟩ := store_cell (P := P) good hk hb hfl hro hvs.head hall.1 (show o + i < cs.length by omega)
      have hbl : b < S.length := (List.getElem?_eq_some_iff.1 hk).1
      obtain ⟨w', f1, f2, f3⟩ := ih vs' (S.set b ⟨cs.set (o + i) v, e, ro, ob⟩) (w.setCell ⟨r, o + i, none⟩ v') (cs.set (o + i) v) e ro o (i + 1) e2
        (by rw [List.getElem?_set_self hbl]) hro hvs.tail hall.2 (by simp; omega)
      have hadd : (⟨r, o, none⟩ : Addr).add i = ⟨r, o + i, none⟩ := by unfold Addr.add; split <;> simp_all
      rw [List.set_set] at f2 f3
      refine ⟨w', ?_, f2, e3.trans f3 ?_⟩
      · simp only [storeCells, Sem.run_bind, hadd, e1, Result.andThen_ok, f1]
      · intro x h1 h2; simp at h2; omega

theorem store_int {φ : Ren} {S : List Blk} {fl : Nat} (good : Good φ S w) {b r o : Nat} {cs : List Value} {e : TypeId} {ro : Bool} {kd : IntKind} {sz : Nat} {L : List Int} (hk : S[b]? = some ⟨cs, e, ro, some (.buf kd sz L)⟩) (hb : φ b = some r) (c1 : fl ≤ b) (m : Int) (c4 : o < L.length) :
    (Go.store ⟨r, o, none⟩ (.int kd m)).run P w = .ok () (w.setCell ⟨r, o, none⟩ (.int kd m)) ∧ Good φ (S.set b ⟨cs, e, ro, some (.buf kd sz (L.set o m))⟩) (w.setCell ⟨r, o, none⟩ (.int kd m)) ∧
      Step fl φ S w φ (S.set b ⟨cs, e, ro, some (.buf kd sz (L.set o m))⟩) (w.setCell ⟨r, o, none⟩ (.int kd m)) := by
  obtain ⟨c', w1, w2, w3, w4⟩ := good.buf hk hb
  have ho : o < c'.size := by
    have := w2 o _ (List.getElem?_eq_getElem c4)
    have := (List.getElem?_eq_some_iff.1 this).1
    simp at this
    omega
  have hbl : b < S.length := (List.getElem?_eq_some_iff.1 hk).1
  have hold : c'[o]? = some (.int kd L[o]) := by
    have := w2 o _ (List.getElem?_eq_getElem c4)
    simpa using this
  have hcell : w.cell? ⟨r, o, none⟩ = some (.int kd L[o]) := by rw [cell_of_heap w1]; exact hold
  have hfz : w.frozen? ⟨r, o, none⟩ = false := by simp [World.frozen?, w1]
  have hheap : ∀ s, (w.setCell ⟨r, o, none⟩ (.int kd m)).heap[s]? = if s = r then some (.cells (c'.setIfInBounds o (.int kd m)) e) else w.heap[s]? := by
    intro s
    simp only [World.setCell, Array.getElem?_modify]
    by_cases hs : s = r
    · subst hs; simp [w1]
    · rw [if_neg (by omega), if_neg hs]
  obtain ⟨_, _, _, b1, b2⟩ := good.blk b _ r hk hb
  obtain ⟨g2, g3⟩ := good.turn (fl := fl) (w' := w.setCell ⟨r, o, none⟩ (.int kd m)) (k := ⟨cs, e, ro, some (.buf kd sz (L.set o m))⟩) (o := .cells (c'.setIfInBounds o (.int kd m)) e) hbl hb c1
    ⟨_, rfl, fun i q hq => by
      rw [List.getElem?_set] at hq
      by_cases hi : o = i
      · subst hi
        rw [if_pos rfl, if_pos c4] at hq
        cases hq
        simp [ho]
      · rw [if_neg hi] at hq
        have := w2 i q hq
        rw [Nat.zero_add] at this
        simp only [Array.toList_setIfInBounds]
        rw [List.getElem?_set_ne hi]
        exact this, b2.2⟩ (fun d => d.not hk (by simp)) ⟨w3, good.bufU hk hb, _, _, _, by rw [hheap, if_pos rfl], by simpa using w4⟩ hheap (by simp [World.setCell]) rfl rfl rfl
  exact ⟨by simp [Go.store, Sem.run, hcell, hfz], g2, g3⟩
theorem store_ints {φ : Ren} {fl : Nat} {b r : Nat} {kd : IntKind} {sz : Nat} (hb : φ b = some r) (hfl : fl ≤ b) : ∀ (ms : List Int) (S : List Blk) (w : World) (L : List Int) (cs : List Value) (e : TypeId) (ro : Bool) (o i : Nat), Good φ S w → S[b]? = some ⟨cs, e, ro, some (.buf kd sz L)⟩ →
    o + i + ms.length ≤ L.length →
    ∃ w', (storeCells ⟨r, o, none⟩ (ms.map (Value.int kd)) i).run P w = .ok () w' ∧ Good φ (S.set b ⟨cs, e, ro, some (.buf kd sz (setM L (o + i) ms))⟩) w' ∧
      Step fl φ S w φ (S.set b ⟨cs, e, ro, some (.buf kd sz (setM L (o + i) ms))⟩) w' := by
  intro ms
  induction ms with
  | nil =>
    intro S w L cs e ro o i good hk _
    have : S.set b ⟨cs, e, ro, some (.buf kd sz (setM L (o + i) []))⟩ = S := by
      refine List.ext_getElem? fun j => ?_
      by_cases hj : b = j
      · subst hj; rw [List.getElem?_set_self (List.getElem?_eq_some_iff.1 hk).1, hk]; rfl
      · rw [List.getElem?_set_ne hj]
    rw [this]
    exact ⟨w, by simp [storeCells], good, Step.refl _ _ _ _⟩
  | cons m ms ih =>
    intro S w L cs e ro o i good hk hle
    simp only [List.length_cons] at hle
    obtain ⟨e1, e2, e3⟩ := store_int (P := P) good hk hb hfl m (show o + i < L.length by omega)
    have hbl : b < S.length := (List.getElem?_eq_some_iff.1 hk).1
    obtain ⟨w', f1, f2, f3⟩ := ih (S.set b ⟨cs, e, ro, some (.buf kd sz (L.set (o + i) m))⟩) (w.setCell ⟨r, o + i, none⟩ (.int kd m)) (L.set (o + i) m) cs e ro o (i + 1) e2
      (by rw [List.getElem?_set_self hbl]) (by simp; omega)
    have hadd : (⟨r, o, none⟩ : Addr).add i = ⟨r, o + i, none⟩ := by unfold Addr.add; split <;> simp_all
    rw [List.set_set] at f2 f3
    have hm : setM (L.set (o + i) m) (o + (i + 1)) ms = setM L (o + i) (m :: ms) := by simp only [setM, setI_eq]; rfl
    rw [hm] at f2 f3
    refine ⟨w', ?_, f2, e3.trans f3 ?_⟩
    · simp only [List.map_cons, storeCells, Sem.run_bind, hadd, e1, Result.andThen_ok, f1]
    · intro x h1 h2; simp at h2; omega
theorem intsOf_map {kd : IntKind} : ∀ {l : List Value} {L : List Int}, intsOf kd l = some L → l = L.map (Value.int kd) := by
  intro l
  induction l with
  | nil => intro L h; cases h; rfl
  | cons v l ih =>
    intro L h
    unfold intsOf at h
    split at h
    · rename_i e; cases e
    · rename_i k n l2 e
      cases e
      split at h
      · rename_i hk
        subst hk
        split at h
        · rename_i L2 hL
          cases h
          rw [ih hL]; rfl
        · cases h
      · cases h
    · cases h
theorem run_store {φ : Ren} {S S' : List Blk} {fl : Nat} (good : Good φ S w) {t : TypeId} {p p' v v' : Value} (hp : VRel φ p p') (hv : VRel φ v v') (h : store P fl t S p v = some S') :
    ∃ w', (Instr.storeAt t p' v').run P w = .ok () w' ∧ Good φ S' w' ∧ Step fl φ S w φ S' w' := by
  rw [store_eqO] at h; unfold storeO at h
  simp only [forceK_eq, writeAt_eqO] at h
  split at h
  · rename_i b o
    cases hp with
    | ptr hb =>
      rename_i r
      split at h
      · rename_i cs e ro n hk hn
        split at h
        · rename_i hc
          simp only [Bool.and_eq_true, decide_eq_true_eq, Bool.not_eq_true', beq_iff_eq] at hc
          obtain ⟨⟨⟨⟨c1, c2⟩, c3⟩, c4⟩, c5⟩ := hc
          cases h
          have hcl : LRel φ v.cells.toList v'.cells.toList := by
            cases hv
            case agg hx ex => exact ⟨hx, ex⟩
            case junk => simp [Value.cells, cellish] at c4
            all_goals exact LRel.cons (by constructor <;> assumption) (LRel.nil φ)
          obtain ⟨w', g1, g2, g3⟩ := store_cells (P := P) hb c1 v.cells.toList v'.cells.toList S w cs e ro o 0 good hk (.inl ⟨rfl, c2⟩) hcl c4 (by omega)
          refine ⟨w', ?_, g2, g3⟩
          unfold Instr.storeAt storeVar
          have hsz : v'.cells.size = n := by have := hcl.1; simp at this c3; omega
          simp [Instr.sureAddr, run_sizeT hn, hsz, g1]
        · cases h
      · rename_i cs e ro sz n hk hn
        split at h
        · rename_i hc
          simp only [Bool.and_eq_true, decide_eq_true_eq, beq_iff_eq] at hc
          obtain ⟨⟨⟨c1, c3⟩, c4⟩, c5⟩ := hc
          cases h
          have hcl : LRel φ v.cells.toList v'.cells.toList := by
            cases hv
            case agg hx ex => exact ⟨hx, ex⟩
            case junk => simp [Value.cells, cellish] at c4
            all_goals exact LRel.cons (by constructor <;> assumption) (LRel.nil φ)
          obtain ⟨w', g1, g2, g3⟩ := store_cells (P := P) hb c1 v.cells.toList v'.cells.toList S w cs e ro o 0 good hk (.inr ⟨sz, rfl⟩) hcl c4 (by omega)
          refine ⟨w', ?_, g2, g3⟩
          unfold Instr.storeAt storeVar
          have hsz : v'.cells.size = n := by have := hcl.1; simp at this c3; omega
          simp [Instr.sureAddr, run_sizeT hn, hsz, g1]
        · cases h
      · rename_i cs e ro kd sz L n hk hn
        split at h
        · rename_i kd2 m
          split at h
          · rename_i hc
            simp only [Bool.and_eq_true, decide_eq_true_eq] at hc
            obtain ⟨⟨⟨c1, rfl⟩, rfl⟩, c4⟩ := hc
            cases h
            cases hv
            obtain ⟨g1, g2, g3⟩ := store_int (P := P) good hk hb c1 m c4
            refine ⟨_, ?_, g2, g3⟩
            unfold Instr.storeAt storeVar
            have hadd : (⟨r, o, none⟩ : Addr).add 0 = ⟨r, o, none⟩ := by unfold Addr.add; rfl
            simp [Instr.sureAddr, run_sizeT hn, Value.cells, storeCells, hadd, g1]
          · cases h
        · rename_i xs
          split at h
          · rename_i ms hms
            split at h
            · rename_i hc
              simp only [Bool.and_eq_true, decide_eq_true_eq, Nat.beq_eq, Nat.ble_eq] at hc
              obtain ⟨⟨c1, c2⟩, c3⟩ := hc
              cases h
              cases hv with
              | agg hx ex =>
                rename_i xs'
                have hxe := intsOf_map hms
                have hx' : xs'.toList = ms.map (Value.int kd) := by
                  have := list_eq scalar (fun _ _ => scalar_eq) (by rw [hxe]; simp [scalar]) (⟨hx, ex⟩ : LRel φ xs.toList xs'.toList)
                  rw [this, hxe]
                obtain ⟨w', g1, g2, g3⟩ := store_ints (P := P) hb c1 ms S w L cs e ro o 0 good hk (by omega)
                refine ⟨w', ?_, g2, g3⟩
                unfold Instr.storeAt storeVar
                have hsz : xs'.size = n := by rw [← c2, ← Array.length_toList, hx', List.length_map]
                simp [Instr.sureAddr, run_sizeT hn, Value.cells, hsz, hx', g1]
            · cases h
          · cases h
        · cases h
      · cases h
  · cases h
end
end Go.Proofs.XX.Vm
