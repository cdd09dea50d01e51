/- A small evaluator over a shadow heap, operations. -/
import Derived.WalkKit
import Derived.Orders
import Derived.LoopN
import Derived.KernelRfl
import Derived.Below
import Derived.RangeFuncLeaves
import Derived.RangeFuncCalls
import Derived.LoopNIn
import Derived.OrdersIn
import Derived.DeepKeys
import Derived.Laws.MakeOwn
import Derived.Lib.AppendZerosOnto
/- A small evaluator over a shadow heap, part 1: values that correspond under a renaming of blocks, shadow heaps, and what a step keeps. -/
namespace Go.Proofs.XX.Vm
open Go Go.RowKit

/-- The record of a range over a function. -/
structure LoopS where
  state : LoopState
  pending : Option Code
  tmps : List Value
  params : Array Tmp
  assign : Code
  body : Code
inductive SObj where
  | loop (l : LoopS)
  | map (es : List MapEntry) (clock : Nat)
  | iter (s : ByteArray) (pos : Nat)
  | ints (kd : IntKind) (lo : Nat) (L : List Int)
  | buf (kd : IntKind) (sz : Nat) (L : List Int)
  | dead
/-- A capacity of which nothing is known. -/
def unk : Nat := 1180591620717411303424
/-- A block of the shadow heap: cells, or (obj) something else. -/
structure Blk where
  cells : List Value
  elem : TypeId
  ro : Bool
  obj : Option SObj

/-- Where the shadow's blocks lie in the world; and how many elements a block of the world that came of an append has room for (0: nothing is known). -/
structure Ren where
  f : Nat → Option Nat
  cap : Nat → Nat
instance : CoeFun Ren fun _ => Nat → Option Nat := ⟨Ren.f⟩
/-- Which capacities slices of a block have. -/
def CapOk (φ : Ren) (r o c c' : Nat) : Prop := φ.cap r ≠ 0 → c' < unk ∧ (c = unk → o = 0 → c' = φ.cap r)
theorem CapOk.zero {φ : Ren} {r o c c' : Nat} (h : φ.cap r = 0) : CapOk φ r o c c' := fun h2 => absurd h h2
structure RExt (φ ψ : Ren) : Prop where
  fn : ∀ b r, φ b = some r → ψ b = some r
  cap : ∀ b r, φ b = some r → ψ.cap r = φ.cap r
instance {φ ψ : Ren} : CoeFun (RExt φ ψ) fun _ => ∀ b r, φ b = some r → ψ b = some r := ⟨RExt.fn⟩
theorem RExt.refl (φ : Ren) : RExt φ φ := ⟨fun _ _ h => h, fun _ _ _ => rfl⟩
theorem RExt.trans {φ ψ χ : Ren} (h : RExt φ ψ) (k : RExt ψ χ) : RExt φ χ := ⟨fun b r e => k.fn b r (h.fn b r e), fun b r e => (k.cap b r (h.fn b r e)).trans (h.cap b r e)⟩

/-- 'v' of the shadow and 'v'' of the world say the same, blocks being renamed. Of 'chan none', which the evaluator never makes, nothing is known. -/
inductive VRel (φ : Ren) : Value → Value → Prop
  | bool (b : Bool) : VRel φ (.bool b) (.bool b)
  | int (k : IntKind) (n : Int) : VRel φ (.int k n) (.int k n)
  | string (s : ByteArray) : VRel φ (.string s) (.string s)
  | nilPtr : VRel φ (.pointer none) (.pointer none)
  | ptr {b r o : Nat} {s : Option Nat} (h : φ b = some r) : VRel φ (.pointer (some ⟨b, o, s⟩)) (.pointer (some ⟨r, o, s⟩))
  | nilSlice (n c : Nat) : VRel φ (.slice none n c) (.slice none n c)
  | slice {b r o : Nat} {s : Option Nat} {n c c' : Nat} (h : φ b = some r) (hc : c' = c ∨ c = unk) (hn : n ≤ c') (hk : CapOk φ r o c c') : VRel φ (.slice (some ⟨b, o, s⟩) n c) (.slice (some ⟨r, o, s⟩) n c')
  | empty (a a' : Addr) (c : Nat) (hc : c ≠ unk) : VRel φ (.slice (some a) 0 c) (.slice (some a') 0 c)
  | nilMap : VRel φ (.map none) (.map none)
  | junk (v' : Value) : VRel φ (.chan none) v'
  | map {b r : Nat} (h : φ b = some r) : VRel φ (.map (some b)) (.map (some r))
  | nilFunc : VRel φ .nilFunc .nilFunc
  | yield {l r : Nat} (h : φ l = some r) : VRel φ (.func (.yield l) #[] #[]) (.func (.yield r) #[] #[])
  | func (f : FuncId) {x x' c c' : Array Value} (hx : x.toList.length = x'.toList.length) (ex : ∀ (i : Nat) (v v' : Value), x.toList[i]? = some v → x'.toList[i]? = some v' → VRel φ v v')
      (hc : c.toList.length = c'.toList.length) (ec : ∀ (i : Nat) (v v' : Value), c.toList[i]? = some v → c'.toList[i]? = some v' → VRel φ v v') :
      VRel φ (.func (.func f) x c) (.func (.func f) x' c')
  | agg {x x' : Array Value} (hx : x.toList.length = x'.toList.length) (ex : ∀ (i : Nat) (v v' : Value), x.toList[i]? = some v → x'.toList[i]? = some v' → VRel φ v v') : VRel φ (.agg x) (.agg x')
  | tuple {x x' : Array Value} (hx : x.toList.length = x'.toList.length) (ex : ∀ (i : Nat) (v v' : Value), x.toList[i]? = some v → x'.toList[i]? = some v' → VRel φ v v') : VRel φ (.tuple x) (.tuple x')

/-- Of which nothing is known. -/
def isJ : Value → Bool
  | .chan _ => true
  | _ => false
def LRel (φ : Ren) (l l' : List Value) : Prop := l.length = l'.length ∧ ∀ (i : Nat) (v v' : Value), l[i]? = some v → l'[i]? = some v' → VRel φ v v'

theorem LRel.nil (φ : Ren) : LRel φ [] [] := ⟨rfl, by simp⟩
theorem LRel.cons {φ : Ren} {v v' : Value} {l l' : List Value} (h : VRel φ v v') (hl : LRel φ l l') : LRel φ (v :: l) (v' :: l') := by
  refine ⟨by simp [hl.1], fun i x x' hx hx' => ?_⟩
  cases i with
  | zero => simp at hx hx'; subst hx; subst hx'; exact h
  | succ i => exact hl.2 i x x' (by simpa using hx) (by simpa using hx')
theorem LRel.head {φ : Ren} {v v' : Value} {l l' : List Value} (h : LRel φ (v :: l) (v' :: l')) : VRel φ v v' := h.2 0 _ _ rfl rfl
theorem LRel.tail {φ : Ren} {v v' : Value} {l l' : List Value} (h : LRel φ (v :: l) (v' :: l')) : LRel φ l l' :=
  ⟨by simpa using h.1, fun i x x' hx hx' => h.2 (i + 1) x x' (by simpa using hx) (by simpa using hx')⟩
theorem LRel.get {φ : Ren} {l l' : List Value} (h : LRel φ l l') {i : Nat} {v : Value} (hv : l[i]? = some v) : ∃ v', l'[i]? = some v' ∧ VRel φ v v' := by
  have hi : i < l.length := (List.getElem?_eq_some_iff.1 hv).1
  have hi' : i < l'.length := h.1 ▸ hi
  exact ⟨l'[i], List.getElem?_eq_getElem hi', h.2 i _ _ hv (List.getElem?_eq_getElem hi')⟩
theorem LRel.none {φ : Ren} {l l' : List Value} (h : LRel φ l l') {i : Nat} (hv : l[i]? = none) : l'[i]? = none := by
  rw [List.getElem?_eq_none_iff] at *; rw [← h.1]; exact hv
theorem LRel.append {φ : Ren} {l l' m m' : List Value} (h : LRel φ l l') (hm : LRel φ m m') : LRel φ (l ++ m) (l' ++ m') := by
  induction l generalizing l' with
  | nil => cases l' with
    | nil => simpa using hm
    | cons _ _ => simp [LRel] at h
  | cons v l ih => cases l' with
    | nil => simp [LRel] at h
    | cons v' l' => exact LRel.cons h.head (ih h.tail)
theorem LRel.set {φ : Ren} {l l' : List Value} (h : LRel φ l l') {v v' : Value} (hv : VRel φ v v') (i : Nat) : LRel φ (l.set i v) (l'.set i v') := by
  induction l generalizing l' i with
  | nil => cases l' with
    | nil => simpa using h
    | cons _ _ => simp [LRel] at h
  | cons x l ih => cases l' with
    | nil => simp [LRel] at h
    | cons x' l' => cases i with
      | zero => exact LRel.cons hv h.tail
      | succ i => exact LRel.cons h.head (ih h.tail i)
theorem LRel.drop {φ : Ren} {l l' : List Value} (h : LRel φ l l') (n : Nat) : LRel φ (l.drop n) (l'.drop n) := by
  refine ⟨by simp [h.1], fun i v v' hv hv' => ?_⟩
  rw [List.getElem?_drop] at hv hv'
  exact h.2 _ v v' hv hv'
theorem LRel.take {φ : Ren} {l l' : List Value} (h : LRel φ l l') (n : Nat) : LRel φ (l.take n) (l'.take n) := by
  refine ⟨by simp [h.1], fun i v v' hv hv' => ?_⟩
  rw [List.getElem?_take] at hv hv'
  split at hv
  · simp_all; exact h.2 _ v v' hv hv'
  · simp at hv

theorem VRel.mono {φ ψ : Ren} (hφ : RExt φ ψ) {v v' : Value} (h : VRel φ v v') : VRel ψ v v' := by
  induction h with
  | bool b => exact .bool b
  | int k n => exact .int k n
  | string s => exact .string s
  | nilPtr => exact .nilPtr
  | ptr h => exact .ptr (hφ.fn _ _ h)
  | nilSlice n c => exact .nilSlice n c
  | slice h hc hn hk => exact .slice (hφ.fn _ _ h) hc hn (by unfold CapOk at *; rw [hφ.cap _ _ h]; exact hk)
  | empty a a' c hc => exact .empty a a' c hc
  | nilMap => exact .nilMap
  | junk v' => exact .junk v'
  | map h => exact .map (hφ.fn _ _ h)
  | nilFunc => exact .nilFunc
  | yield h => exact .yield (hφ.fn _ _ h)
  | func f hx _ hc _ ih1 ih2 => exact .func f hx (fun i v v' a b => ih1 i v v' a b) hc (fun i v v' a b => ih2 i v v' a b)
  | agg hx _ ih => exact .agg hx fun i v v' a b => ih i v v' a b
  | tuple hx _ ih => exact .tuple hx fun i v v' a b => ih i v v' a b
theorem LRel.mono {φ ψ : Ren} (hφ : RExt φ ψ) {l l' : List Value} (h : LRel φ l l') : LRel ψ l l' :=
  ⟨h.1, fun i v v' a b => (h.2 i v v' a b).mono hφ⟩

/-- One cell's value without an address. -/
def scalar : Value → Bool
  | .bool _ | .int _ _ | .string _ | .pointer none | .slice none _ _ | .map none | .nilFunc => true
  | .func (.func _) x c => x.toList.isEmpty && c.toList.isEmpty
  | _ => false
def flat : Value → Bool
  | .agg x => x.toList.all scalar
  | v => scalar v
/-- A value without an address. -/
def plain : Value → Bool
  | .tuple x => x.toList.all flat
  | v => flat v

theorem scalar_eq {φ : Ren} {v v' : Value} (h : scalar v = true) (r : VRel φ v v') : v' = v := by
  cases r
  case func f x x' c c' hx ex hc ec =>
    simp [scalar] at h
    obtain ⟨h1, h2⟩ := h
    subst h1; subst h2
    have e1 : x' = #[] := Array.eq_empty_of_size_eq_zero (by simpa using hx.symm)
    have e2 : c' = #[] := Array.eq_empty_of_size_eq_zero (by simpa using hc.symm)
    rw [e1, e2]
  all_goals simp_all [scalar]
theorem list_eq {φ : Ren} {l l' : List Value} (p : Value → Bool) (hp : ∀ v v', p v = true → VRel φ v v' → v' = v) (h : l.all p = true) (r : LRel φ l l') : l' = l := by
  induction l generalizing l' with
  | nil => cases l' with
    | nil => rfl
    | cons _ _ => simp [LRel] at r
  | cons v l ih => cases l' with
    | nil => simp [LRel] at r
    | cons v' l' =>
      simp only [List.all_cons, Bool.and_eq_true] at h
      rw [hp v v' h.1 r.head, ih h.2 r.tail]
theorem flat_eq {φ : Ren} {v v' : Value} (h : flat v = true) (r : VRel φ v v') : v' = v := by
  cases r
  case agg x x' hx ex =>
    have := list_eq (φ := φ) scalar (fun _ _ => scalar_eq) (l := x.toList) (l' := x'.toList) (by simpa [flat] using h) ⟨hx, ex⟩
    cases x; cases x'; simp_all
  all_goals exact scalar_eq (φ := φ) (by simpa [flat] using h) (by constructor <;> assumption)
theorem plain_eq {φ : Ren} {v v' : Value} (h : plain v = true) (r : VRel φ v v') : v' = v := by
  cases r
  case tuple x x' hx ex =>
    have := list_eq (φ := φ) flat (fun _ _ => flat_eq) (l := x.toList) (l' := x'.toList) (by simpa [plain] using h) ⟨hx, ex⟩
    cases x; cases x'; simp_all
  all_goals exact flat_eq (φ := φ) (by simpa [plain] using h) (by constructor <;> assumption)
theorem scalar_refl {φ : Ren} {v : Value} (h : scalar v = true) : VRel φ v v := by
  cases v
  case bool b => exact .bool b
  case int k n => exact .int k n
  case string s => exact .string s
  case pointer a => cases a with
    | none => exact .nilPtr
    | some a => simp [scalar] at h
  case slice a n c => cases a with
    | none => exact .nilSlice n c
    | some a => simp [scalar] at h
  case map r => cases r with
    | none => exact .nilMap
    | some a => simp [scalar] at h
  case nilFunc => exact .nilFunc
  case func fn x c =>
    cases fn
    case func f =>
      simp [scalar] at h
      exact .func f rfl (fun i v v' a _ => by simp [h.1] at a) rfl (fun i v v' a _ => by simp [h.2] at a)
    all_goals simp [scalar] at h
  all_goals simp [scalar] at h
theorem list_refl {φ : Ren} {l : List Value} (p : Value → Bool) (hp : ∀ v, p v = true → VRel φ v v) (h : l.all p = true) : LRel φ l l :=
  ⟨rfl, fun i v v' a b => by
    rw [a] at b; cases b
    exact hp v ((List.all_eq_true.1 h) v (List.mem_of_getElem? a))⟩
theorem flat_refl {φ : Ren} {v : Value} (h : flat v = true) : VRel φ v v := by
  cases v
  case agg x => exact .agg rfl (list_refl (φ := φ) scalar (fun _ => scalar_refl) (by simpa [flat] using h)).2
  all_goals exact scalar_refl (by simpa [flat] using h)
theorem plain_refl {φ : Ren} {v : Value} (h : plain v = true) : VRel φ v v := by
  cases v
  case tuple x => exact .tuple rfl (list_refl (φ := φ) flat (fun _ => flat_refl) (by simpa [plain] using h)).2
  all_goals exact flat_refl (by simpa [plain] using h)
theorem plains_refl {φ : Ren} {l : List Value} (h : l.all plain = true) : LRel φ l l := list_refl plain (fun _ => plain_refl) h
theorem undef_refl (φ : Ren) : VRel φ undef undef := plain_refl (by simp [undef, plain])

/-- A block of the shadow and an object of the world say the same. -/
def BRel (φ : Ren) (k : Blk) (o : Obj) : Prop :=
  match k.obj with
  | none => ∃ c' fz, o = .cells c' k.elem fz ∧ LRel φ k.cells (c'.toList.take k.cells.length) ∧ (k.ro = false → fz = (0, 0)) ∧ (k.ro = true → c'.toList.length = k.cells.length)
  | some (.ints kd lo L) => ∃ c' fz, o = .cells c' k.elem fz ∧ (∀ (i : Nat) (n : Int), L[i]? = some n → c'.toList[lo + i]? = some (.int kd n)) ∧ (k.ro = false → fz = (0, 0))
  | some (.loop l) => ∃ fn tmps' d, o = .loop { state := l.state, pending := l.pending, fn := fn, tmps := tmps', params := l.params, assign := l.assign, body := l.body, defers := d } ∧ LRel φ l.tmps tmps'.toList
  | some (.map es clock) => o = .map es.toArray clock
  | some (.iter s pos) => o = .stringIter s pos
  | some (.buf kd sz L) => ∃ c', o = .cells c' k.elem (0, 0) ∧ (∀ (i : Nat) (n : Int), L[i]? = some n → c'.toList[i]? = some (.int kd n)) ∧ 1 ≤ sz
  | some .dead => True
theorem BRel.mono {φ ψ : Ren} (hφ : RExt φ ψ) {k : Blk} {o : Obj} (h : BRel φ k o) : BRel ψ k o := by
  unfold BRel at *
  split at h
  · obtain ⟨c', fz, h1, h2, h3⟩ := h; exact ⟨c', fz, h1, h2.mono hφ, h3⟩
  · exact h
  · obtain ⟨fn, t', d, h1, h2⟩ := h; exact ⟨fn, t', d, h1, h2.mono hφ⟩
  · exact h
  · exact h
  · exact h
  · exact h

/-- A block that must not be used any more (what lies behind the heap is none, either). -/
def Dead (S : List Blk) (b : Nat) : Prop := ∀ k, S[b]? = some k → k.obj = some .dead
theorem Dead.not {S : List Blk} {b : Nat} {k : Blk} (h : Dead S b) (hk : S[b]? = some k) (ho : k.obj ≠ some .dead) : False := ho (h k hk)
theorem Dead.pre {S S' : List Blk} {b : Nat} (h : Dead S' b) (he : ∀ k, S[b]? = some k → S'[b]? = some k) : Dead S b := fun k hk => h k (he k hk)
/-- How much room a block has. -/
def Room (φ : Ren) (r : Nat) (k : Blk) (w : World) : Prop :=
  match k.obj with
  | some (.buf _ sz _) => φ.cap r ≠ 0 ∧ ∃ c e fz, w.heap[r]? = some (.cells c e fz) ∧ c.size = φ.cap r * sz
  | some .dead => True
  | _ => φ.cap r = 0
def isBuf (k : Blk) : Bool := match k.obj with
  | some (.buf _ _ _) => true
  | _ => false
theorem Room.none {φ : Ren} {r : Nat} {k : Blk} {w : World} (h : φ.cap r = 0) (hk : isBuf k = false) : Room φ r k w := by
  unfold isBuf at hk
  unfold Room
  split
  · rename_i e; rw [e] at hk; cases hk
  · trivial
  · exact h
theorem Room.ext {φ ψ : Ren} {r : Nat} {k : Blk} {w w' : World} (h : Room φ r k w) (hc : ψ.cap r = φ.cap r) (hw : w'.heap[r]? = w.heap[r]?) : Room ψ r k w' := by
  unfold Room at *
  split
  · rename_i e; rw [e] at h; rw [hc, hw]; exact h
  · trivial
  · rename_i n1 n2; split at h
    · rename_i e; exact absurd e (n1 _ _ _)
    · rename_i e; exact absurd e n2
    · rw [hc]; exact h
/-- The shadow heap corresponds to the world. -/
structure Good (φ : Ren) (S : List Blk) (w : World) : Prop where
  blk : ∀ b k r, S[b]? = some k → φ b = some r → ∃ o, w.heap[r]? = some o ∧ BRel φ k o
  low : ∀ b r, φ b = some r → r < w.heap.size
  inj : ∀ b c r, φ b = some r → φ c = some r → b = c ∨ Dead S b ∨ Dead S c
  zero : ∀ r, w.heap.size ≤ r → φ.cap r = 0
  room : ∀ b k r, S[b]? = some k → φ b = some r → Room φ r k w
theorem Good.cells {φ : Ren} {S : List Blk} {w : World} (h : Good φ S w) {b r : Nat} {cs : List Value} {t : TypeId} {ro : Bool} (hb : S[b]? = some ⟨cs, t, ro, none⟩) (hr : φ b = some r) :
    ∃ c' fz, w.heap[r]? = some (.cells c' t fz) ∧ LRel φ cs (c'.toList.take cs.length) ∧ (ro = false → fz = (0, 0)) ∧ (ro = true → c'.toList.length = cs.length) := by
  obtain ⟨o, h1, c', fz, rfl, h2, h3⟩ := h.blk b _ r hb hr
  exact ⟨c', fz, h1, h2, h3⟩
theorem Good.buf {φ : Ren} {S : List Blk} {w : World} (h : Good φ S w) {b r : Nat} {cs : List Value} {t : TypeId} {ro : Bool} {kd : IntKind} {sz : Nat} {L : List Int} (hb : S[b]? = some ⟨cs, t, ro, some (.buf kd sz L)⟩) (hr : φ b = some r) :
    ∃ c', w.heap[r]? = some (.cells c' t (0, 0)) ∧ (∀ (i : Nat) (n : Int), L[i]? = some n → c'.toList[0 + i]? = some (.int kd n)) ∧ φ.cap r ≠ 0 ∧ c'.size = φ.cap r * sz := by
  obtain ⟨o, h1, c', rfl, h2, h3⟩ := h.blk b _ r hb hr
  obtain ⟨g1, c, e, fz, g2, g3⟩ := h.room b _ r hb hr
  rw [h1] at g2
  cases g2
  exact ⟨c', h1, fun i n hi => by rw [Nat.zero_add]; exact h2 i n hi, g1, g3⟩
theorem Good.ints {φ : Ren} {S : List Blk} {w : World} (h : Good φ S w) {b r : Nat} {cs : List Value} {t : TypeId} {ro : Bool} {kd : IntKind} {lo : Nat} {L : List Int} (hb : S[b]? = some ⟨cs, t, ro, some (.ints kd lo L)⟩) (hr : φ b = some r) :
    ∃ c' fz, w.heap[r]? = some (.cells c' t fz) ∧ (∀ (i : Nat) (n : Int), L[i]? = some n → c'.toList[lo + i]? = some (.int kd n)) ∧ (ro = false → fz = (0, 0)) := by
  obtain ⟨o, h1, c', fz, rfl, h2, h3⟩ := h.blk b _ r hb hr
  exact ⟨c', fz, h1, h2, h3⟩
/-- Cells ahead of others. -/
theorem take_get {α : Type} {l : List α} {n i : Nat} {v : α} (h : (l.take n)[i]? = some v) : l[i]? = some v := by
  rw [List.getElem?_take] at h
  split at h
  · exact h
  · cases h
theorem take_len {φ : Ren} {cs : List Value} {c' : Array Value} (h : LRel φ cs (c'.toList.take cs.length)) : cs.length ≤ c'.size := by
  have := h.1
  simp only [List.length_take, Array.length_toList] at this
  omega
theorem take_drop_take {α : Type} {l : List α} {m o n : Nat} (h : o + n ≤ m) : ((l.take m).drop o).take n = (l.drop o).take n := by
  rw [List.drop_take, List.take_take]
  congr 1
  omega

/-- What has become of renaming, shadow and world; only blocks from 'fl' on may have been written. -/
structure Step (fl : Nat) (φ : Ren) (S : List Blk) (w : World) (ψ : Ren) (S' : List Blk) (w' : World) : Prop where
  ext : RExt φ ψ
  caps : ∀ r, r < w.heap.size → ψ.cap r = φ.cap r
  dom : ∀ b r, ψ b = some r → φ b = some r ∨ (S.length ≤ b ∧ b < S'.length ∧ (w.heap.size ≤ r ∨ ∃ c, fl ≤ c ∧ c < S.length ∧ φ c = some r ∧ ¬ Dead S c ∧ Dead S' c))
  len : S.length ≤ S'.length
  dead : ∀ b, b < S.length → Dead S b → Dead S' b
  keep : ∀ b, b < fl → b < S.length → S'[b]? = S[b]?
  frame : ∀ r, r < w.heap.size → (∀ b, fl ≤ b → b < S.length → ¬ Dead S b → φ b ≠ some r) → w'.heap[r]? = w.heap[r]?
  size : w.heap.size ≤ w'.heap.size
  os : w'.os = w.os
  tape : w'.tape = w.tape
  output : w'.output = w.output

/-- The shadow blocks from n to m stand for nothing yet. -/
def Fresh (φ : Ren) (n m : Nat) : Prop := ∀ b, n ≤ b → b < m → φ b = none

theorem Step.refl (fl : Nat) (φ : Ren) (S : List Blk) (w : World) : Step fl φ S w φ S w :=
  ⟨RExt.refl φ, fun _ _ => rfl, fun _ _ h => .inl h, Nat.le_refl _, fun _ _ h => h, fun _ _ _ => rfl, fun _ _ _ => rfl, Nat.le_refl _, rfl, rfl, rfl⟩
theorem Step.fresh {fl : Nat} {φ ψ : Ren} {S S' : List Blk} {w w' : World} {m : Nat} (h : Step fl φ S w ψ S' w') (hf : Fresh φ S.length m) : Fresh ψ S'.length m := by
  intro b h1 h2
  cases hb : ψ b with
  | none => rfl
  | some r =>
    rcases h.dom b r hb with h3 | ⟨_, h3, _⟩
    · have := hf b (Nat.le_trans h.len h1) h2; rw [this] at h3; cases h3
    · omega
theorem Step.trans {fl : Nat} {φ ψ χ : Ren} {S S' S'' : List Blk} {w w' w'' : World} (h : Step fl φ S w ψ S' w') (k : Step fl ψ S' w' χ S'' w'') (hf : Fresh φ S.length S''.length) :
    Step fl φ S w χ S'' w'' := by
  refine ⟨h.ext.trans k.ext, fun r hr => (k.caps r (Nat.lt_of_lt_of_le hr h.size)).trans (h.caps r hr), fun b r e => ?_, Nat.le_trans h.len k.len, fun b hb d => k.dead b (Nat.lt_of_lt_of_le hb h.len) (h.dead b hb d), fun b e1 e2 => ?_, fun r e1 e2 => ?_, Nat.le_trans h.size k.size, k.os.trans h.os, k.tape.trans h.tape, k.output.trans h.output⟩
  · rcases k.dom b r e with e | ⟨e1, e2, e3⟩
    · rcases h.dom b r e with e | ⟨e1, e2, e3⟩
      · exact .inl e
      · exact .inr ⟨e1, Nat.lt_of_lt_of_le e2 k.len, e3.imp id fun ⟨d, d1, d2, d3, d4, d5⟩ => ⟨d, d1, d2, d3, d4, k.dead d (Nat.lt_of_lt_of_le d2 h.len) d5⟩⟩
    · refine .inr ⟨Nat.le_trans h.len e1, e2, ?_⟩
      rcases e3 with e3 | ⟨c, c1, c2, c3, c4, c5⟩
      · exact .inl (Nat.le_trans h.size e3)
      · rcases h.dom c r c3 with g | ⟨_, _, g | ⟨d, d1, d2, d3, d4, d5⟩⟩
        · by_cases hc : c < S.length
          · exact .inr ⟨c, c1, hc, g, fun d => c4 (h.dead c hc d), c5⟩
          · have := hf c (by omega) (Nat.lt_of_lt_of_le c2 k.len); rw [this] at g; cases g
        · exact .inl g
        · exact .inr ⟨d, d1, d2, d3, d4, k.dead d (Nat.lt_of_lt_of_le d2 h.len) d5⟩
  · rw [k.keep b e1 (Nat.lt_of_lt_of_le e2 h.len), h.keep b e1 e2]
  · rw [k.frame r (Nat.lt_of_lt_of_le e1 h.size) ?_, h.frame r e1 e2]
    intro b f1 f2 f4 f3
    rcases h.dom b r f3 with g | ⟨_, _, g | ⟨c, c1, c2, c3, c4, _⟩⟩
    · by_cases hb : b < S.length
      · exact e2 b f1 hb (fun d => f4 (h.dead b hb d)) g
      · have := hf b (by omega) (Nat.lt_of_lt_of_le f2 k.len); rw [this] at g; cases g
    · omega
    · exact e2 c c1 c2 c4 c3
theorem Step.weaken {fl fl' : Nat} {φ ψ : Ren} {S S' : List Blk} {w w' : World} (h : Step fl φ S w ψ S' w') (hl : fl' ≤ fl) : Step fl' φ S w ψ S' w' :=
  ⟨h.ext, h.caps, fun b r e => (h.dom b r e).imp id fun ⟨e1, e2, e3⟩ => ⟨e1, e2, e3.imp id fun ⟨c, c1, c2, c3⟩ => ⟨c, Nat.le_trans hl c1, c2, c3⟩⟩, h.len, h.dead, fun b e1 e2 => h.keep b (by omega) e2, fun r e1 e2 => h.frame r e1 fun b f1 f2 => e2 b (by omega) f2, h.size, h.os, h.tape, h.output⟩
/-- Where nothing below was turned. -/
theorem Step.dom' {fl : Nat} {φ ψ : Ren} {S S' : List Blk} {w w' : World} (h : Step fl φ S w ψ S' w') (hl : S.length ≤ fl) (b r : Nat) (e : ψ b = some r) : φ b = some r ∨ (S.length ≤ b ∧ b < S'.length ∧ w.heap.size ≤ r) :=
  (h.dom b r e).imp id fun ⟨e1, e2, e3⟩ => ⟨e1, e2, e3.resolve_right fun ⟨c, c1, c2, _⟩ => by omega⟩

/-- A new block. -/
def newRen (φ : Ren) (n r : Nat) : Ren := ⟨fun b => if b = n then some r else φ b, φ.cap⟩
theorem newRen_old {φ : Ren} {n r : Nat} (hn : φ n = none) (b s : Nat) (h : φ b = some s) : newRen φ n r b = some s := by
  unfold newRen; simp only; split
  · rename_i e; subst e; rw [hn] at h; cases h
  · exact h
theorem newRen_ext {φ : Ren} {n r : Nat} (hn : φ n = none) : RExt φ (newRen φ n r) := ⟨newRen_old hn, fun _ _ _ => rfl⟩
theorem newRen_new (φ : Ren) (n r : Nat) : newRen φ n r n = some r := by simp [newRen]

theorem size_new (w : World) (o : Obj) : (w.alloc o).heap.size = w.heap.size + 1 := by
  show (w.heap.push o).size = _; simp
theorem heap_new (w : World) (o : Obj) : (w.alloc o).heap[w.heap.size]? = some o := by
  show (w.heap.push o)[w.heap.size]? = _; simp
theorem Good.new {φ : Ren} {S : List Blk} {w : World} (h : Good φ S w) (fl : Nat) (hn : φ S.length = none) (k : Blk) (o : Obj) (hro : BRel φ k o) (hnb : isBuf k = false) :
    Good (newRen φ S.length w.heap.size) (S ++ [k]) (w.alloc o) ∧ Step fl φ S w (newRen φ S.length w.heap.size) (S ++ [k]) (w.alloc o) := by
  have hext := newRen_ext (r := w.heap.size) hn
  refine ⟨⟨fun b x r hb hr => ?_, fun b r hr => ?_, fun b c r hb hc => ?_, fun r hr => h.zero r (by rw [size_new] at hr; omega), fun b x r hx hr => ?_⟩, ⟨hext, fun _ _ => rfl, fun b r e => ?_, by simp, fun b hb d => d.pre fun y hy => by rw [List.getElem?_append_left hb] at hy; exact hy, fun b e1 e2 => ?_, fun r e1 e2 => ?_, by rw [size_new]; omega, rfl, rfl, rfl⟩⟩
  · by_cases hbn : b = S.length
    · subst hbn
      simp at hb
      rw [newRen_new] at hr; cases hr
      subst hb
      exact ⟨o, heap_new _ _, hro.mono hext⟩
    · have hb' : S[b]? = some x := by
        have : b < (S ++ [k]).length := (List.getElem?_eq_some_iff.1 hb).1
        rw [List.getElem?_append_left (by simp at this; omega)] at hb; exact hb
      have hr' : φ b = some r := by simpa [newRen, hbn] using hr
      obtain ⟨o2, h1, h2⟩ := h.blk b x r hb' hr'
      exact ⟨o2, by rw [Below.heap_alloc _ _ _ (h.low b r hr')]; exact h1, h2.mono hext⟩
  · by_cases hbn : b = S.length
    · subst hbn; rw [newRen_new] at hr; cases hr; rw [size_new]; omega
    · have := h.low b r (by simpa [newRen, hbn] using hr); rw [size_new]; omega
  · unfold newRen at hb hc
    simp only at hb hc
    split at hb <;> split at hc
    · simp_all
    · have := h.low c r hc; cases hb; omega
    · have := h.low b r hb; cases hc; omega
    · rename_i nb nc
      have old : ∀ x, x ≠ S.length → Dead S x → Dead (S ++ [k]) x := fun x nx d => d.pre fun y hy => by
        have hl := (List.getElem?_eq_some_iff.1 hy).1
        rw [List.getElem?_append_left (by simp at hl; omega)] at hy; exact hy
      exact (h.inj b c r hb hc).imp id fun d => d.imp (old b nb) (old c nc)
  · by_cases hbn : b = S.length
    · subst hbn
      simp at hx
      rw [newRen_new] at hr; cases hr
      subst hx
      exact .none (h.zero _ (Nat.le_refl _)) hnb
    · have hb' : S[b]? = some x := by
        have : b < (S ++ [k]).length := (List.getElem?_eq_some_iff.1 hx).1
        rw [List.getElem?_append_left (by simp at this; omega)] at hx; exact hx
      have hr' : φ b = some r := by simpa [newRen, hbn] using hr
      exact (h.room b x r hb' hr').ext rfl (Below.heap_alloc _ _ _ (h.low b r hr'))
  · by_cases hbn : b = S.length
    · subst hbn; rw [newRen_new] at e; cases e; exact .inr ⟨Nat.le_refl _, by simp, .inl (Nat.le_refl _)⟩
    · exact .inl (by simpa [newRen, hbn] using e)
  · rw [List.getElem?_append_left e2]
  · exact Below.heap_alloc _ _ _ e1

/-- A block turned in place. -/
theorem Good.turn {φ : Ren} {S : List Blk} {w w' : World} (good : Good φ S w) {fl b r : Nat} {k : Blk} {o : Obj} (hbl : b < S.length) (hb : φ b = some r) (hfl : fl ≤ b) (hk : BRel φ k o) (hlive : ¬ Dead S b) (hroom : Room φ r k w')
    (hheap : ∀ s, w'.heap[s]? = if s = r then some o else w.heap[s]?) (hsz : w'.heap.size = w.heap.size) (hos : w'.os = w.os) (htape : w'.tape = w.tape) (hout : w'.output = w.output) :
    Good φ (S.set b k) w' ∧ Step fl φ S w φ (S.set b k) w' := by
  refine ⟨⟨fun x y s hx hs => ?_, fun x s hs => by rw [hsz]; exact good.low x s hs, fun x y s hx hy => ?_, fun s hs => good.zero s (by omega), fun x y s hx hs => ?_⟩, ⟨RExt.refl φ, fun _ _ => rfl, fun _ _ e => .inl e, by simp, fun x hx d => d.pre fun u hu => by rw [List.getElem?_set_ne (fun e => hlive (by rw [e]; exact d))] at hu; exact hu, fun x e1 _ => ?_, fun s e1 e2 => ?_, by omega, hos, htape, hout⟩⟩
  · by_cases hxb : x = b
    · subst hxb
      rw [hb] at hs; cases hs
      rw [List.getElem?_set_self hbl] at hx; cases hx
      exact ⟨o, by rw [hheap, if_pos rfl], hk⟩
    · rw [List.getElem?_set_ne (fun e => hxb e.symm)] at hx
      obtain ⟨o2, g1, g2⟩ := good.blk x y s hx hs
      by_cases hsr : s = r
      · rcases good.inj x b r (hsr ▸ hs) hb with e | d | d
        · exact absurd e hxb
        · have := d y hx
          exact ⟨o, by rw [hheap, if_pos hsr], by unfold BRel; rw [this]; trivial⟩
        · exact absurd d hlive
      · exact ⟨o2, by rw [hheap, if_neg hsr]; exact g1, g2⟩
  · have old : ∀ z, z ≠ b → Dead S z → Dead (S.set b k) z := fun z nz d => d.pre fun u hu => by
      rw [List.getElem?_set_ne (fun e => nz e.symm)] at hu; exact hu
    rcases good.inj x y s hx hy with e | d | d
    · exact .inl e
    · exact .inr (.inl (old x (fun e => hlive (e ▸ d)) d))
    · exact .inr (.inr (old y (fun e => hlive (e ▸ d)) d))
  · by_cases hxb : x = b
    · subst hxb
      rw [hb] at hs; cases hs
      rw [List.getElem?_set_self hbl] at hx; cases hx
      exact hroom
    · rw [List.getElem?_set_ne (fun e => hxb e.symm)] at hx
      by_cases hsr : s = r
      · rcases good.inj x b r (hsr ▸ hs) hb with e | d | d
        · exact absurd e hxb
        · have := d y hx; unfold Room; rw [this]; trivial
        · exact absurd d hlive
      · exact (good.room x y s hx hs).ext rfl (by rw [hheap, if_neg hsr])
  · rw [List.getElem?_set_ne (by omega)]
  · rw [hheap, if_neg]
    intro e; subst e; exact e2 b hfl hbl hlive hb
/-- Of a heap that goes on, its beginning. -/
theorem Good.pre {φ : Ren} {S S' : List Blk} {w : World} (h : Good φ S' w) (he : ∀ (b : Nat) (k : Blk), S[b]? = some k → S'[b]? = some k) : Good φ S w :=
  ⟨fun b k r hk hr => h.blk b k r (he b k hk) hr, h.low, fun b c r hb hc => (h.inj b c r hb hc).imp id fun d => d.imp (fun (d : Dead S' b) => Dead.pre d (he b)) (fun (d : Dead S' c) => Dead.pre d (he c)), h.zero, fun b k r hk hr => h.room b k r (he b k hk) hr⟩
/-- A heap that goes on where nothing stands for anything yet. -/
theorem Good.grow {φ : Ren} {S S' : List Blk} {w : World} (h : Good φ S w) (he : ∀ (b : Nat), b < S.length → S'[b]? = S[b]?) (hf : ∀ b, S.length ≤ b → b < S'.length → φ b = none) : Good φ S' w := by
  have old : ∀ b r, φ b = some r → Dead S b → Dead S' b := by
    intro b r hr d k hk
    by_cases hb : b < S.length
    · exact d k (by rw [← he b hb]; exact hk)
    · rw [hf b (by omega) (List.getElem?_eq_some_iff.1 hk).1] at hr; cases hr
  have key : ∀ b k r, S'[b]? = some k → φ b = some r → S[b]? = some k := by
    intro b k r hk hr
    by_cases hb : b < S.length
    · rw [← he b hb]; exact hk
    · rw [hf b (by omega) (List.getElem?_eq_some_iff.1 hk).1] at hr; cases hr
  exact ⟨fun b k r hk hr => h.blk b k r (key b k r hk hr) hr, h.low, fun b c r hb hc => (h.inj b c r hb hc).imp id fun d => d.imp (old b r hb) (old c r hc), h.zero, fun b k r hk hr => h.room b k r (key b k r hk hr) hr⟩
/-- What a step that turns nothing has made, among what else there is. -/
theorem Good.glue {fl : Nat} {φ ψ : Ren} {S S' Sm : List Blk} {w w' : World} (good : Good φ Sm w) (hg : Good ψ S' w') (hs : Step fl φ S w ψ S' w') (hl : S.length ≤ fl) (hm : ∀ (b : Nat), b < S'.length → Sm[b]? = S'[b]?) : Good ψ Sm w' := by
  have hfr : ∀ r, r < w.heap.size → w'.heap[r]? = w.heap[r]? := fun r hr => hs.frame r hr fun b h1 h2 => by omega
  have old : ∀ b r, ψ b = some r → ¬ b < S'.length → φ b = some r := by
    intro b r hr hb
    rcases hs.dom b r hr with h | ⟨_, h, _⟩
    · exact h
    · omega
  have up : ∀ b, b < S'.length → Dead S' b → Dead Sm b := fun b hb d k hk => d k (by rw [← hm b hb]; exact hk)
  refine ⟨fun b k r hk hr => ?_, hg.low, fun b c r hb hc => ?_, hg.zero, fun b k r hk hr => ?_⟩
  · by_cases hb : b < S'.length
    · exact hg.blk b k r (by rw [← hm b hb]; exact hk) hr
    · obtain ⟨o2, g1, g2⟩ := good.blk b k r hk (old b r hr hb)
      exact ⟨o2, by rw [hfr r (good.low b r (old b r hr hb))]; exact g1, g2.mono hs.ext⟩
  · rcases hs.dom' hl b r hb with h1 | ⟨h1, h2, h3⟩ <;> rcases hs.dom' hl c r hc with k1 | ⟨k1, k2, k3⟩
    · exact good.inj b c r h1 k1
    · have := good.low b r h1; omega
    · have := good.low c r k1; omega
    · exact (hg.inj b c r hb hc).imp id fun d => d.imp (up b h2) (up c k2)
  · by_cases hb : b < S'.length
    · exact hg.room b k r (by rw [← hm b hb]; exact hk) hr
    · have h1 := old b r hr hb
      have h2 := good.low b r h1
      exact (good.room b k r hk h1).ext (hs.caps r h2) (hfr r h2)
/-- A new block that an append has made. -/
def bufRen (φ : Ren) (n r c : Nat) : Ren := ⟨fun b => if b = n then some r else φ b, fun x => if x = r then c else φ.cap x⟩
theorem Good.newBuf {φ : Ren} {S : List Blk} {w : World} (h : Good φ S w) (fl : Nat) (hn : φ S.length = none) {k : Blk} {kd : IntKind} {sz c : Nat} {L : List Int} {cells : Array Value} (hk : k.obj = some (.buf kd sz L)) (hc : c ≠ 0)
    (hcs : cells.size = c * sz) (hro : BRel φ k (.cells cells k.elem)) :
    Good (bufRen φ S.length w.heap.size c) (S ++ [k]) (w.alloc (.cells cells k.elem)) ∧ Step fl φ S w (bufRen φ S.length w.heap.size c) (S ++ [k]) (w.alloc (.cells cells k.elem)) := by
  have old : ∀ b s, φ b = some s → bufRen φ S.length w.heap.size c b = some s := by
    intro b s hb
    unfold bufRen; simp only; split
    · rename_i e; subst e; rw [hn] at hb; cases hb
    · exact hb
  have cold : ∀ r, r < w.heap.size → (bufRen φ S.length w.heap.size c).cap r = φ.cap r := by
    intro r hr
    unfold bufRen; simp only; rw [if_neg (by omega)]
  have hext : RExt φ (bufRen φ S.length w.heap.size c) := ⟨old, fun b r hb => cold r (h.low b r hb)⟩
  have new : ∀ b r, bufRen φ S.length w.heap.size c b = some r → (b = S.length ∧ r = w.heap.size) ∨ (b ≠ S.length ∧ φ b = some r) := by
    intro b r hb
    unfold bufRen at hb; simp only at hb; split at hb
    · cases hb; exact .inl ⟨by assumption, rfl⟩
    · exact .inr ⟨by assumption, hb⟩
  have at_ : ∀ b x, b ≠ S.length → (S ++ [k])[b]? = some x → S[b]? = some x := by
    intro b x hb hx
    have hl := (List.getElem?_eq_some_iff.1 hx).1
    rw [List.getElem?_append_left (by simp at hl; omega)] at hx; exact hx
  have hkk : (S ++ [k])[S.length]? = some k := by simp
  refine ⟨⟨fun b x r hb hr => ?_, fun b r hr => ?_, fun b d r hb hd => ?_, fun r hr => ?_, fun b x r hx hr => ?_⟩, ⟨hext, cold, fun b r e => ?_, by simp, fun b hb d => d.pre fun y hy => by rw [List.getElem?_append_left hb] at hy; exact hy, fun b e1 e2 => ?_, fun r e1 e2 => ?_, by rw [size_new]; omega, rfl, rfl, rfl⟩⟩
  · rcases new b r hr with ⟨rfl, rfl⟩ | ⟨hb2, hr2⟩
    · rw [hkk] at hb; cases hb
      exact ⟨_, heap_new _ _, hro.mono hext⟩
    · obtain ⟨o2, h1, h2⟩ := h.blk b x r (at_ b x hb2 hb) hr2
      exact ⟨o2, by rw [Below.heap_alloc _ _ _ (h.low b r hr2)]; exact h1, h2.mono hext⟩
  · rcases new b r hr with ⟨rfl, rfl⟩ | ⟨_, hr2⟩
    · rw [size_new]; omega
    · have := h.low b r hr2; rw [size_new]; omega
  · rcases new b r hb with ⟨rfl, rfl⟩ | ⟨b2, hb2⟩ <;> rcases new d _ hd with ⟨rfl, hd2⟩ | ⟨d2, hd2⟩
    · exact .inl rfl
    · have := h.low d _ hd2; omega
    · have := h.low b r hb2; omega
    · exact (h.inj b d r hb2 hd2).imp id fun e => e.imp (fun e => e.pre (at_ b · b2)) (fun e => e.pre (at_ d · d2))
  · rw [size_new] at hr
    unfold bufRen; simp only
    rw [if_neg (by omega)]
    exact h.zero r (by omega)
  · rcases new b r hr with ⟨rfl, rfl⟩ | ⟨hb2, hr2⟩
    · rw [hkk] at hx; cases hx
      unfold Room; rw [hk]
      exact ⟨by unfold bufRen; simpa using hc, cells, k.elem, (0, 0), heap_new _ _, by unfold bufRen; simpa using hcs⟩
    · exact (h.room b x r (at_ b x hb2 hx) hr2).ext (cold r (h.low b r hr2)) (Below.heap_alloc _ _ _ (h.low b r hr2))
  · rcases new b r e with ⟨rfl, rfl⟩ | ⟨_, hr2⟩
    · exact .inr ⟨Nat.le_refl _, by simp, .inl (Nat.le_refl _)⟩
    · exact .inl hr2
  · rw [List.getElem?_append_left e2]
  · exact Below.heap_alloc _ _ _ e1
def deadBlk : Blk := ⟨[], 0, true, some .dead⟩
/-- A block of the world that another block of the shadow stands for from now on. -/
theorem Good.adopt {φ : Ren} {S : List Blk} {w w' : World} (good : Good φ S w) {fl b r : Nat} (hbl : b < S.length) (hb : φ b = some r) (hfl : fl ≤ b) (hlive : ¬ Dead S b) (hn : φ S.length = none) {k : Blk} {kd : IntKind} {sz : Nat} {L : List Int} {cells : Array Value}
    (hk : k.obj = some (.buf kd sz L)) (hcap : φ.cap r ≠ 0) (hcs : cells.size = φ.cap r * sz) (hro : BRel φ k (.cells cells k.elem))
    (hheap : ∀ s, w'.heap[s]? = if s = r then some (.cells cells k.elem) else w.heap[s]?) (hsz : w'.heap.size = w.heap.size) (hos : w'.os = w.os) (htape : w'.tape = w.tape) (hout : w'.output = w.output) :
    Good (newRen φ S.length r) (S.set b deadBlk ++ [k]) w' ∧ Step fl φ S w (newRen φ S.length r) (S.set b deadBlk ++ [k]) w' := by
  obtain ⟨g1, s1⟩ := good.turn (k := deadBlk) (o := .cells cells k.elem) hbl hb hfl trivial hlive trivial hheap hsz hos htape hout
  have hl1 : (S.set b deadBlk).length = S.length := by simp
  have hdb : Dead (S.set b deadBlk) b := fun x hx => by rw [List.getElem?_set_self hbl] at hx; cases hx; rfl
  have hall : ∀ c, φ c = some r → Dead (S.set b deadBlk) c := by
    intro c hc
    rcases good.inj c b r hc hb with e | d | d
    · rw [e]; exact hdb
    · by_cases hcl : c < S.length
      · exact s1.dead c hcl d
      · intro x hx
        have := (List.getElem?_eq_some_iff.1 hx).1
        omega
    · exact absurd d hlive
  have new : ∀ c s, newRen φ S.length r c = some s → (c = S.length ∧ s = r) ∨ (c ≠ S.length ∧ φ c = some s) := by
    intro c s hc
    unfold newRen at hc; simp only at hc; split at hc
    · cases hc; exact .inl ⟨by assumption, rfl⟩
    · exact .inr ⟨by assumption, hc⟩
  have at_ : ∀ c x, c ≠ S.length → (S.set b deadBlk ++ [k])[c]? = some x → (S.set b deadBlk)[c]? = some x := by
    intro c x hc hx
    have hl := (List.getElem?_eq_some_iff.1 hx).1
    rw [List.getElem?_append_left (by simp at hl; rw [hl1]; omega)] at hx; exact hx
  have hkk : (S.set b deadBlk ++ [k])[S.length]? = some k := by
    rw [List.getElem?_append_right (by rw [hl1]; exact Nat.le_refl _), hl1]; simp
  have hext : RExt φ (newRen φ S.length r) := newRen_ext hn
  have hheapr : w'.heap[r]? = some (.cells cells k.elem) := by rw [hheap, if_pos rfl]
  refine ⟨⟨fun c x s hc hs => ?_, fun c s hs => ?_, fun c d s hc hd => ?_, fun s hs => g1.zero s hs, fun c x s hx hs => ?_⟩, ⟨hext, fun _ _ => rfl, fun c s e => ?_, by simp, fun c hc d => (s1.dead c hc d).pre (at_ c · (by omega)), fun c e1 e2 => ?_, s1.frame, s1.size, hos, htape, hout⟩⟩
  · rcases new c s hs with ⟨rfl, rfl⟩ | ⟨hc2, hs2⟩
    · rw [hkk] at hc; cases hc
      exact ⟨_, hheapr, hro.mono hext⟩
    · obtain ⟨o2, h1, h2⟩ := g1.blk c x s (at_ c x hc2 hc) hs2
      exact ⟨o2, h1, h2.mono hext⟩
  · rcases new c s hs with ⟨rfl, rfl⟩ | ⟨_, hs2⟩
    · exact g1.low b _ hb
    · exact g1.low c s hs2
  · rcases new c s hc with ⟨rfl, rfl⟩ | ⟨c2, hc2⟩ <;> rcases new d _ hd with ⟨rfl, hd2⟩ | ⟨d2, hd2⟩
    · exact .inl rfl
    · exact .inr (.inr ((hall d hd2).pre (at_ d · d2)))
    · subst hd2; exact .inr (.inl ((hall c hc2).pre (at_ c · c2)))
    · exact (g1.inj c d s hc2 hd2).imp id fun e => e.imp (fun e => e.pre (at_ c · c2)) (fun e => e.pre (at_ d · d2))
  · rcases new c s hs with ⟨rfl, rfl⟩ | ⟨hc2, hs2⟩
    · rw [hkk] at hx; cases hx
      unfold Room; rw [hk]
      exact ⟨hcap, cells, k.elem, (0, 0), hheapr, hcs⟩
    · exact g1.room c x s (at_ c x hc2 hx) hs2
  · rcases new c s e with ⟨rfl, rfl⟩ | ⟨_, hs2⟩
    · exact .inr ⟨Nat.le_refl _, by simp, .inr ⟨b, hfl, hbl, hb, hlive, hdb.pre (at_ b · (by omega))⟩⟩
    · exact .inl hs2
  · rw [List.getElem?_append_left (by rw [hl1]; exact e2), s1.keep c e1 e2]
end Go.Proofs.XX.Vm
/- A small evaluator over a shadow heap, part 2: operations. -/
namespace Go.Proofs.XX.Vm
open Go Go.RowKit

noncomputable section
/- By the recursors outright: so the kernel reckons it fast. -/
def nthD (T : List Value) : Nat → Value := List.rec (fun _ => undef) (fun v _ ih n => Nat.rec v (fun m _ => ih m) n) T
theorem nthD_eq (T : List Value) (n : Nat) : nthD T n = T[n]?.getD undef := by
  induction T generalizing n with
  | nil => rfl
  | cons v T ih => cases n with
    | zero => rfl
    | succ n => exact (ih n).trans (by simp)
/-- The list reckoned through, and handed on. -/
def forceK {α β : Type} (l : List α) : (List α → β) → β := List.rec (fun k => k []) (fun v _ ih k => ih fun m => k (v :: m)) l
theorem forceK_eq {α β : Type} (l : List α) (k : List α → β) : forceK l k = k l := by
  induction l generalizing k with
  | nil => rfl
  | cons v l ih => exact ih _
def setK {β : Type} (T : List Value) : Nat → Value → (List Value → β) → β :=
  List.rec (fun _ _ k => k []) (fun v l ih n u k => Nat.rec (k (u :: l)) (fun m _ => ih m u fun l' => k (v :: l')) n) T
theorem setK_eq {β : Type} (T : List Value) (n : Nat) (u : Value) (k : List Value → β) : setK T n u k = k (T.set n u) := by
  induction T generalizing n k with
  | nil => rfl
  | cons v T ih => cases n with
    | zero => rfl
    | succ n => exact ih n fun m => k (v :: m)

def anyR {α : Type} (p : α → Bool) (l : List α) : Bool := List.rec false (fun a _ ih => match p a with | true => true | false => ih) l
theorem anyR_eq {α : Type} (p : α → Bool) (l : List α) : anyR p l = l.any p := by
  induction l with
  | nil => rfl
  | cons a l ih =>
    have : anyR p (a :: l) = (match p a with | true => true | false => anyR p l) := rfl
    rw [this, ih, List.any_cons]; cases p a <;> rfl
def allR {α : Type} (p : α → Bool) (l : List α) : Bool := List.rec true (fun a _ ih => match p a with | true => ih | false => false) l
theorem allR_eq {α : Type} (p : α → Bool) (l : List α) : allR p l = l.all p := by
  induction l with
  | nil => rfl
  | cons a l ih =>
    have : allR p (a :: l) = (match p a with | true => allR p l | false => false) := rfl
    rw [this, ih, List.all_cons]; cases p a <;> rfl
def getR {α : Type} (l : List α) : Nat → Option α := List.rec (fun _ => none) (fun v _ ih n => Nat.rec (some v) (fun m _ => ih m) n) l
theorem getR_eq {α : Type} (l : List α) (n : Nat) : getR l n = l[n]? := by
  induction l generalizing n with
  | nil => rfl
  | cons v l ih => cases n with
    | zero => rfl
    | succ n => exact (ih n).trans (by simp)

/- Lists once more, by the recursors. -/
def lenR {α : Type} (l : List α) : Nat := List.rec 0 (fun _ _ n => n + 1) l
theorem lenR_eq {α : Type} (l : List α) : lenR l = l.length := by
  induction l with
  | nil => rfl
  | cons v l ih => show lenR l + 1 = _; rw [ih]; rfl
def dropR {α : Type} (l : List α) : Nat → List α := List.rec (fun _ => []) (fun v l ih n => Nat.rec (v :: l) (fun m _ => ih m) n) l
theorem dropR_eq {α : Type} (l : List α) (n : Nat) : dropR l n = l.drop n := by
  induction l generalizing n with
  | nil => exact List.drop_nil.symm
  | cons v l ih => cases n with
    | zero => rfl
    | succ n => exact ih n
def takeR {α : Type} (l : List α) : Nat → List α := List.rec (fun _ => []) (fun v _ ih n => Nat.rec [] (fun m _ => v :: ih m) n) l
theorem takeR_eq {α : Type} (l : List α) (n : Nat) : takeR l n = l.take n := by
  induction l generalizing n with
  | nil => exact List.take_nil.symm
  | cons v l ih => cases n with
    | zero => rfl
    | succ n => show v :: takeR l n = _; rw [ih]; rfl
def setG {α β : Type} (l : List α) : Nat → α → (List α → β) → β :=
  List.rec (fun _ _ k => k []) (fun v l ih n u k => Nat.rec (k (u :: l)) (fun m _ => ih m u fun l' => k (v :: l')) n) l
theorem setG_eq {α β : Type} (l : List α) (n : Nat) (u : α) (k : List α → β) : setG l n u k = k (l.set n u) := by
  induction l generalizing n k with
  | nil => rfl
  | cons v T ih => cases n with
    | zero => rfl
    | succ n => exact ih n fun m => k (v :: m)
def appG {α β : Type} (l m : List α) (k : List α → β) : β := List.rec (fun k => k m) (fun v _ ih k => ih fun l' => k (v :: l')) l k
theorem appG_eq {α β : Type} (l m : List α) (k : List α → β) : appG l m k = k (l ++ m) := by
  induction l generalizing k with
  | nil => rfl
  | cons v l ih => exact ih fun l' => k (v :: l')
def forceN {β : Type} (n : Nat) (k : Nat → β) : β := Nat.rec (k 0) (fun m _ => k (m + 1)) n
theorem forceN_eq {β : Type} (n : Nat) (k : Nat → β) : forceN n k = k n := by cases n <;> rfl
/-- One more block, and its number. -/
def newK {α β : Type} (S : List α) (b : α) (k : Nat → List α → β) : β := forceN (lenR S) fun n => appG S [b] fun S' => k n S'
theorem newK_eq {α β : Type} (S : List α) (b : α) (k : Nat → List α → β) : newK S b k = k S.length (S ++ [b]) := by
  unfold newK; rw [forceN_eq, appG_eq, lenR_eq]

def opd (gl : Nat) (T : List Value) : Operand → Option Value
  | .tmp t => some (nthD T t)
  | .const v => if plain v then some v else none
  | .global g => if g < gl then some (.pointer (some ⟨g, 0, none⟩)) else none
  | .func f => some (.func (.func f) #[] #[])

def opds (gl : Nat) (T : List Value) : List Operand → Option (List Value)
  | [] => some []
  | x :: l => match opd gl T x, opds gl T l with
    | some v, some vs => some (v :: vs)
    | _, _ => none

def pureSem (P : Program) {α : Type} : Sem α → Option α
  | .pure a => some a
  | .program k => pureSem P (k P)
  | .mark _ k => pureSem P k
  | .choose q k => if q.forced then pureSem P (k 0) else none
  | _ => none

theorem pureSem_run {P : Program} {α : Type} {e : Sem α} {a : α} (h : pureSem P e = some a) (w : World) : e.run P w = .ok a w := by
  induction e with
  | pure b => simp only [pureSem, Option.some.injEq] at h; subst h; rfl
  | program k ih => simp only [pureSem] at h; simp only [Sem.run]; exact ih _ h
  | mark m k ih => simp only [pureSem] at h; simp only [Sem.run]; exact ih h
  | choose q k ih =>
    simp only [pureSem] at h
    split at h
    · rename_i hq; simp only [Sem.run, hq, if_true]; exact ih _ h
    · cases h
  | _ => simp [pureSem] at h

def isAggT (P : Program) (t : TypeId) : Option Bool :=
  match P.underlying t with
  | some (.struct _) => some true
  | some (.array _ _) => some true
  | some _ => some false
  | none => none
def sizeT (P : Program) (t : TypeId) : Option Nat :=
  match P.info? t with
  | some i => some i.size
  | none => none
def zeroT (P : Program) (t : TypeId) : Option Value :=
  match P.info? t with
  | some i => i.zero
  | none => none

/-- A variable of type t at offset o among cells. -/
def readAt (P : Program) (t : TypeId) (cs : List Value) (o : Nat) : Option Value :=
  match isAggT P t with
  | some false => getR cs o
  | some true => match sizeT P t with
    | some n => if Nat.ble (o + n) (lenR cs) then forceK (takeR (dropR cs o) n) fun l => some (.agg l.toArray) else none
    | none => none
  | none => none
/-- Integers of a block, of which nothing need be known. -/
def nthI (L : List Int) : Nat → Int := List.rec (fun _ => 0) (fun v _ ih n => Nat.rec v (fun m _ => ih m) n) L
theorem nthI_eq (L : List Int) (n : Nat) : nthI L n = L[n]?.getD 0 := by
  induction L generalizing n with
  | nil => rfl
  | cons v T ih => cases n with
    | zero => rfl
    | succ n => exact (ih n).trans (by simp)
theorem nthI_some {L : List Int} {n : Nat} (h : n < L.length) : L[n]? = some (nthI L n) := by
  rw [nthI_eq, List.getElem?_eq_getElem h]; rfl
def intCells (kd : IntKind) (L : List Int) : Nat → Nat → List Value
  | _, 0 => []
  | i, n + 1 => .int kd (nthI L i) :: intCells kd L (i + 1) n
def insideI (lo : Nat) (L : List Int) (o n : Nat) : Bool := Nat.ble lo o && Nat.ble (o + n) (lo + L.length)
/-- What is read there, and whether it is there. -/
def intsC (P : Program) (t : TypeId) (kd : IntKind) (lo : Nat) (L : List Int) (o : Nat) : Option (Bool × Value) :=
  match isAggT P t with
  | some false => some (insideI lo L o 1, .int kd (nthI L (o - lo)))
  | some true => match sizeT P t with
    | some n => forceK (intCells kd L (o - lo) n) fun l => some (insideI lo L o n, .agg l.toArray)
    | none => none
  | none => none
def readInts (P : Program) (t : TypeId) (kd : IntKind) (lo : Nat) (L : List Int) (o : Nat) : Option Value :=
  match intsC P t kd lo L o with
  | some (true, v) => some v
  | _ => none
def load (P : Program) (t : TypeId) (S : List Blk) : Value → Option Value
  | .pointer (some ⟨b, o, none⟩) => match getR S b with
    | some ⟨cs, _, _, none⟩ => readAt P t cs o
    | some ⟨_, _, _, some (.ints kd lo L)⟩ => readInts P t kd lo L o
    | some ⟨_, _, _, some (.buf kd _ L)⟩ => readInts P t kd 0 L o
    | _ => none
  | _ => none

def cellish : Value → Bool
  | .agg _ | .tuple _ | .chan _ => false
  | _ => true
def writeAt (l : List Value) (o : Nat) : List Value → List Value
  | [] => l
  | v :: vs => setG l o v fun l' => writeAt l' (o + 1) vs
def store (P : Program) (fl : Nat) (t : TypeId) (S : List Blk) (p v : Value) : Option (List Blk) :=
  match p with
  | .pointer (some ⟨b, o, none⟩) => match getR S b, sizeT P t with
    | some ⟨cs0, e, ro, none⟩, some n =>
      if decide (fl ≤ b) && !ro && Nat.beq (lenR v.cells.toList) n && allR cellish v.cells.toList && Nat.ble (o + n) (lenR cs0) then
        forceK (writeAt cs0 o v.cells.toList) fun cs => setG S b ⟨cs, e, ro, none⟩ some
      else none
    | some ⟨cs0, e, ro, some (.buf kd sz L)⟩, some n => match v with
      | .int kd2 m => if decide (fl ≤ b) && decide (n = 1) && decide (kd2 = kd) && Nat.blt o (lenR L) then setG L o m fun L2 => setG S b ⟨cs0, e, ro, some (.buf kd sz L2)⟩ some else none
      | _ => none
    | _, _ => none
  | _ => none

def fieldP (P : Program) (s : TypeId) (f : Nat) : Value → Option Value
  | .pointer (some a) => match P.underlying s with
    | some (.struct fs) => match fs[f]? with
      | some fd => match sizeT P fd.type with
        | some (_ + 1) => some (.pointer (some (a.add fd.offset)))
        | _ => none
      | none => none
    | _ => none
  | _ => none
def indexP (P : Program) (t : TypeId) (x ix : Value) : Option Value :=
  match ix with
  | .int _ i => match P.underlying t, x with
    | some (.array len elem), .pointer (some a) =>
      if decide (0 ≤ i) && decide (i < (len : Int)) then match sizeT P elem with
        | some n => some (.pointer (some (a.add (i.toNat * n))))
        | none => none
      else none
    | some (.slice elem), .slice (some a) len _ =>
      if decide (0 ≤ i) && decide (i < (len : Int)) then match sizeT P elem with
        | some n => some (.pointer (some (a.add (i.toNat * n))))
        | none => none
      else none
    | _, _ => none
  | _ => none

/-- Operations whose operands bear no address, by their own text. -/
def pureOp : Op → Bool
  | .binOp .. | .unOp .. | .convert .. | .extract .. | .field .. | .index .. | .build .. => true
  | .call { callee := .builtin b, .. } => match b with
    | .min | .max | .len | .cap => true
    | _ => false
  | .slice .. => true
  | _ => false

inductive R where
  | val (v : Value) (S : List Blk)
  | call (f : FuncId) (args : List Value)
  | round (l : Nat) (args : List Value)

def callee (P : Program) (f : Value) (args : List Value) : Option R :=
  match f with
  | .func (.func g) x c => match P.funcs[g]? with
    | some fn => if fn.name == "runtime.NumGoroutine" then none else match fn.body with
      | some _ => some (.call g (x.toList ++ args ++ c.toList))
      | none => none
    | none => none
  | .func (.yield l) x c => if x.toList.isEmpty && c.toList.isEmpty then some (.round l args) else none
  | _ => none

def buildSliceCells (P : Program) (t : TypeId) (len : Nat) (parts : Array (Nat × Value)) : Option (TypeId × Array Value) :=
  match P.underlying t with
  | some (.slice elem) => match P.info? elem with
    | some i =>
      if len * i.size > 2 ^ 24 then none
      else if len * i.size = 0 then (match parts.toList with
        | [] => some (elem, #[])
        | _ => none)
      else match i.zero with
        | some z => match Instr.fill (fun j => some (j * i.size, i.size)) ((Array.range (len * i.size)).map (z.cells[· % z.cells.size]!)) parts.toList with
          | some cells => some (elem, cells)
          | none => none
        | none => none
    | none => none
  | _ => none

def makeC (P : Program) (t : TypeId) (n c : Int) : Option (TypeId × Array Value) :=
  match P.underlying t with
  | some (.slice e) => match P.info? e with
    | some i => match i.zero with
      | some z => if decide (0 ≤ n) && decide (n ≤ c) && Nat.ble c.toNat 65536 && Nat.ble i.bytes 4096 then some (e, madeCells z.cells (c.toNat * i.size)) else none
      | none => none
    | none => none
  | _ => none
/-- Whether the zero of a slice's elements bears no address. -/
def zeroOk (P : Program) (t : TypeId) : Bool :=
  match P.underlying t with
  | some (.slice e) => match P.info? e with
    | some i => match i.zero with
      | some z => z.cells.toList.all scalar && Nat.ble 1 z.cells.size
      | none => false
    | none => false
  | _ => false
/-- A struct whose parts may bear addresses. -/
def placesOf (P : Program) : List Field → Option (List (Nat × Nat))
  | [] => some []
  | f :: fs => match sizeT P f.type with
    | some n => match placesOf P fs with
      | some l => some ((f.offset, n) :: l)
      | none => none
    | none => none
def buildCells (P : Program) (t : TypeId) (parts : List (Nat × Value)) : Option (Array Value) :=
  match P.underlying t with
  | some (.struct fields) => match zeroT P t with
    | some z => match placesOf P fields.toList with
      | some places => if z.cells.toList.all scalar then Instr.fill (places.toArray[·]?) z.cells parts else none
      | none => none
    | none => none
  | _ => none

/-- An operation whose operands bear no address, run by its own text. -/
def pureTry (P : Program) (gl : Nat) (o : Oper) (T : List Value) (S : List Blk) : Option R :=
  match opds gl T o.op.operands.toList with
  | some vs => if pureOp o.op && vs.all plain then
      match pureSem P (execOp (fun x => (opd gl T x).getD undef) o) with
      | some (.value v) => if plain v then some (.val v S) else none
      | _ => none
    else none
  | none => none

/-- Maps whose keys and values bear no address. -/
def mapBlk (es : List MapEntry) (clock : Nat) : Blk := ⟨[], 0, true, some (.map es clock)⟩
def mapAt (S : List Blk) : Value → Option (Nat × List MapEntry × Nat)
  | .map (some b) => match getR S b with
    | some ⟨_, _, _, some (.map es clock)⟩ => some (b, es, clock)
    | _ => none
  | _ => none
/-- Structs and arrays of integers, compared cell by cell. -/
def eqFs (P : Program) (xs ys : List Value) : List Field → Option Bool
  | [] => some true
  | f :: fs => if f.name = "_" then none else match P.underlying f.type, xs[f.offset]?, ys[f.offset]? with
    | some (.int _), some (.int j a), some (.int k b) => if j = k then match eqFs P xs ys fs with
        | some r => some ((a == b) && r)
        | none => none
      else none
    | _, _, _ => none
def eqIs (xs ys : List Value) (n : Nat) : List Nat → Option Bool
  | [] => some true
  | i :: is => match xs[i * n]?, ys[i * n]? with
    | some (.int j a), some (.int k b) => if j = k then match eqIs xs ys n is with
        | some r => some ((a == b) && r)
        | none => none
      else none
    | _, _ => none
def eqAgg (P : Program) (t : TypeId) (xs ys : List Value) : Option Bool :=
  if P.eqGuardType P.depth t then none else
  match P.underlying t with
  | some (.struct fs) => if P.stoodInHeld t then none else eqFs P xs ys fs.toList
  | some (.array n e) => match P.underlying e with
    | some (.int _) => eqIs xs ys (P.cellsOf e) (List.range n)
    | _ => none
  | _ => none
/-- Keys that are structs of integers. -/
def keyEq (P : Program) (kt : TypeId) (k k2 : Value) : Option Bool :=
  match k with
  | .agg xs => match k2 with
    | .agg ys => eqAgg P kt xs.toList ys.toList
    | _ => none
  | _ => none
def okKeys (P : Program) (kt : TypeId) (k : Value) : List MapEntry → Bool
  | [] => true
  | e :: es => (match keyEq P kt k e.key with | some _ => true | none => false) && okKeys P kt k es
def hitK (P : Program) (kt : TypeId) (k : Value) (e : MapEntry) : Bool := match keyEq P kt k e.key with
  | some b => b
  | none => false
def firstK (P : Program) (kt : TypeId) (k : Value) : List MapEntry → Nat → Option (Nat × Value)
  | [], _ => none
  | e :: es, i => bif hitK P kt k e then some (i, e.val) else firstK P kt k es (i + 1)
def structT (P : Program) (kt : TypeId) : Bool := match P.underlying kt with
  | some (.struct _) => true
  | _ => false
def findFast (P : Program) (kt : TypeId) (k : Value) (es : List MapEntry) : Option (Option (Nat × Value)) :=
  bif structT P kt && okKeys P kt k es then some (firstK P kt k es 0) else none
def findIn (P : Program) (kt : TypeId) (empty : Bool) (es : List MapEntry) (k : Value) : Option (Option (Nat × Value)) :=
  if plain k then match pureSem P (Instr.checkKey empty 10000 kt k) with
    | some _ => match findFast P kt k es with
      | some q => some q
      | none => pureSem P (Instr.findKey kt k es)
    | none => none
  else none
def plainly (r : Value) : Option Value := if plain r then some r else none
def okVal (ok : Bool) (v : Value) (b : Bool) : Value := if ok then .tuple #[v, .bool b] else v
def lookupP (P : Program) (t : TypeId) (S : List Blk) (x k : Value) (ok : Bool) : Option Value :=
  match P.underlying t, mapAt S x with
  | some (.map kt et), some (_, es, _) => match findIn P kt es.toArray.isEmpty es k with
    | some (some (_, v)) => plainly (okVal ok v true)
    | some none => match zeroT P et with
      | some z => plainly (okVal ok z false)
      | none => none
    | none => none
  | _, _ => none
def updateP (P : Program) (fl : Nat) (t : TypeId) (S : List Blk) (x k v : Value) : Option (List Blk) :=
  match P.underlying t, mapAt S x with
  | some (.map kt _), some (b, es, clock) => if decide (fl ≤ b) && plain v then match findIn P kt false es k with
      | some (some (i, _)) => match pureSem P (Instr.keyThatStays (((es.toArray[i]?).map (·.key)).getD k) k) with
        | some key => setG S b (mapBlk (es.toArray.modify i fun e => { e with key := key, val := v }).toList clock) some
        | none => none
      | some none => setG S b (mapBlk (es ++ [{ key := k, val := v, born := clock }]) (clock + 1)) some
      | none => none
    else none
  | _, _ => none

/-- A slice of a slice, and whether it is one. -/
def bound (d : Nat) : Option Value → Option (Bool × Nat)
  | none => some (true, d)
  | some (.int _ i) => some (decide (0 ≤ i), i.toNat)
  | _ => none
def optV (gl : Nat) (T : List Value) : Option Operand → Option (Option Value)
  | none => some none
  | some x => match opd gl T x with
    | some v => some (some v)
    | none => none
def sliceW (sz b off n c : Nat) (lo hi mx : Option Value) : Option (Bool × Value) :=
  match bound 0 lo with
  | some (t1, l) => match bound n hi with
    | some (t2, h) => match mx with
      | none => some (t1 && t2 && Nat.ble l h && Nat.ble h n && (Nat.beq l 0 || Nat.blt l n), .slice (some ⟨b, off + l * sz, none⟩) (h - l) (bif Nat.beq c unk then unk else c - l))
      | some v => match bound 0 (some v) with
        | some (t3, m) => match hi with
          | none => none
          | some _ => some (t1 && t2 && t3 && Nat.ble l h && Nat.ble h m && Nat.ble m n && (Nat.beq l 0 || Nat.blt l m), .slice (some ⟨b, off + l * sz, none⟩) (h - l) (m - l))
        | none => none
    | none => none
  | none => none
def sliceC (P : Program) (t : TypeId) (x : Value) (lo hi mx : Option Value) : Option (Bool × Value) :=
  match P.underlying t with
  | some (.slice e) => match sizeT P e with
    | some sz => if Nat.ble 1 sz then match x with
      | .slice (some ⟨b, off, none⟩) n c => sliceW sz b off n c lo hi mx
      | _ => none
      else none
    | none => none
  | _ => none

/-- Cells that are integers of one kind. -/
def intsOf (kd : IntKind) : List Value → Option (List Int)
  | [] => some []
  | .int k n :: l => if k = kd then (match intsOf kd l with
    | some L => some (n :: L)
    | none => none) else none
  | _ => none
def kindOf : List Value → IntKind
  | .int k _ :: _ => k
  | _ => .i64
/-- The integers of a slice. -/
def sliceInts (S : List Blk) (sz : Nat) : Value → Option (Bool × IntKind × List Int)
  | .slice none 0 _ => some (true, .i64, [])
  | .slice (some ⟨b, off, none⟩) n _ => match getR S b with
    | some ⟨_, _, _, some (.ints kd lo L)⟩ => some (insideI lo L off (n * sz), kd, (L.drop (off - lo)).take (n * sz))
    | some ⟨_, _, _, some (.buf kd _ L)⟩ => some (insideI 0 L off (n * sz), kd, (L.drop (off - 0)).take (n * sz))
    | some ⟨cs, _, _, none⟩ => match intsOf (kindOf cs) cs with
      | some L => some (insideI 0 L off (n * sz), kindOf cs, (L.drop (off - 0)).take (n * sz))
      | none => none
    | _ => none
  | _ => none
/-- Integers appended to a slice without capacity: a new block. -/
def appendC (P : Program) (S : List Blk) (argTypes : List TypeId) (d s : Value) : Option (Bool × Value × Value × Blk) :=
  match argTypes with
  | [t, t2] => if t = t2 then match P.underlying t with
    | some (.slice e) => match P.info? e with
      | some i => match i.zero with
        | some z => if Nat.beq z.cells.size i.size && Nat.ble 1 i.size && Nat.ble i.bytes 4096 then match d with
          | .slice d0 0 0 => match sliceInts S i.size s with
            | some (t1, kd, L) => match s with
              | .slice _ n _ => some (t1 && Nat.ble n 34359738368, .slice d0 0 0, .slice (some ⟨lenR S, 0, none⟩) n unk, ⟨[], e, false, some (.buf kd i.size L)⟩)
              | _ => none
            | none => none
          | _ => none
          else none
        | none => none
      | none => none
    | _ => none
    else none
  | _ => none
def lenV : Value → Nat
  | .slice _ n _ => n
  | _ => 0
def appendP (P : Program) (S : List Blk) (argTypes : List TypeId) (d s : Value) : Option (Value × List Blk) :=
  match appendC P S argTypes d s with
  | some (true, d', v, k) => if lenV s = 0 then some (d', S) else appG S [k] fun S' => some (v, S')
  | _ => none

/-- Appended to what an append has made: in place or anew, the old block must not be looked at any more. -/
def appendD (P : Program) (fl : Nat) (S : List Blk) (argTypes : List TypeId) (d s : Value) : Option (Value × List Blk) :=
  match argTypes with
  | [t, t2] => if t = t2 then match P.underlying t with
    | some (.slice e) => match P.info? e with
      | some i => match i.zero with
        | some z => if Nat.beq z.cells.size i.size && Nat.ble 1 i.size && Nat.ble i.bytes 4096 then match d with
          | .slice (some ⟨b, 0, none⟩) n c => match getR S b with
            | some ⟨_, e2, _, some (.buf kd sz L)⟩ => match sliceInts S i.size s with
              | some (true, kd2, Ls) => match s with
                | .slice (some _) (m + 1) _ => if Nat.beq c unk && Nat.ble fl b && Nat.beq sz i.size && decide (e2 = e) && decide (kd2 = kd) && Nat.ble (n * i.size) L.length && Nat.ble (n + (m + 1)) 34359738368 then
                    appG (takeR L (n * i.size)) Ls fun L2 => setG S b deadBlk fun S1 => newK S1 ⟨[], e, false, some (.buf kd sz L2)⟩ fun b2 S' => some (.slice (some ⟨b2, 0, none⟩) (n + (m + 1)) unk, S')
                  else none
                | .slice _ 0 _ => some (.slice (some ⟨b, 0, none⟩) n c, S)
                | _ => none
              | _ => none
            | _ => none
          | _ => none
          else none
        | none => none
      | none => none
    | _ => none
    else none
  | _ => none

/-- Zeros appended (an append of a make). -/
def appendZ (P : Program) (S : List Blk) (argTypes : List TypeId) (d s : Value) : Option (Value × List Blk) :=
  match argTypes with
  | [t, tn] => match P.underlying t with
    | some (.slice e) => match P.underlying tn with
      | some (.int _) => match P.info? e with
        | some i => match i.zero with
          | some z => if Nat.beq z.cells.size i.size && Nat.ble 1 i.size && Nat.ble i.bytes 4096 then match d with
            | .slice _ 0 0 => match s with
              | .int _ n => if decide (0 < n) && decide (n ≤ 65536) then
                  match intsOf (kindOf z.cells.toList) (Builtin.zeroCells z.cells n.toNat).toList with
                  | some L => forceK L fun L' => newK S ⟨[], e, false, some (.buf (kindOf z.cells.toList) i.size L')⟩ fun b2 S' => some (.slice (some ⟨b2, 0, none⟩) n.toNat unk, S')
                  | none => none
                else none
              | _ => none
            | _ => none
            else none
          | none => none
        | none => none
      | _ => none
    | _ => none
  | _ => none

/-- A walk over a string. -/
def iterBlk (s : ByteArray) (pos : Nat) : Blk := ⟨[], 0, true, some (.iter s pos)⟩
def rangeP (P : Program) (t : TypeId) (x : Value) : Option ByteArray :=
  match P.underlying t, x with
  | some .string, .string s => some s
  | _, _ => none
def nextP (fl : Nat) (S : List Blk) (x : Value) : Option (Value × List Blk) :=
  match x with
  | .pointer (some ⟨b, 0, none⟩) => match getR S b with
    | some ⟨_, _, _, some (.iter s pos)⟩ => if decide (fl ≤ b) then
        if pos < s.size then match Utf8.decode s pos with
          | (c, width) => setG S b (iterBlk s (pos + width)) fun S' => some (.tuple #[.bool true, goInt pos, .int .i32 c], S')
        else some (.tuple #[.bool false], S)
      else none
    | _ => none
  | _ => none

/-- Integers' operations. -/
def fastBin (op : BinOp) (k : IntKind) (a b : Int) : Option Value :=
  match op with
  | .add => some (.int k (k.wrap (a + b)))
  | .sub => some (.int k (k.wrap (a - b)))
  | .mul => some (.int k (k.wrap (a * b)))
  | .eql => some (.bool (a == b))
  | .neq => some (.bool (a != b))
  | .lss => some (.bool (a < b))
  | .leq => some (.bool (a ≤ b))
  | .gtr => some (.bool (a > b))
  | .geq => some (.bool (a ≥ b))
  | .and => some (.int k (k.wrap ((BitVec.ofInt k.bits a &&& BitVec.ofInt k.bits b).toNat : Nat)))
  | .or => some (.int k (k.wrap ((BitVec.ofInt k.bits a ||| BitVec.ofInt k.bits b).toNat : Nat)))
  | .xor => some (.int k (k.wrap ((BitVec.ofInt k.bits a ^^^ BitVec.ofInt k.bits b).toNat : Nat)))
  | .andNot => some (.int k (k.wrap ((BitVec.ofInt k.bits a &&& ~~~ BitVec.ofInt k.bits b).toNat : Nat)))
  | _ => none
def minN (a b : Nat) : Nat := bif Nat.ble a b then a else b
theorem minN_eq (a b : Nat) : minN a b = min a b := by
  unfold minN
  cases h : Nat.ble a b with
  | true => rw [cond_true]; exact (Nat.min_eq_left (Nat.le_of_ble_eq_true h)).symm
  | false =>
    have h2 : ¬ a ≤ b := fun e => by rw [Nat.ble_eq_true_of_le e] at h; cases h
    rw [cond_false]; exact (Nat.min_eq_right (by omega)).symm
/-- A shift's value, where the count is not below 0. -/
def shlN (k : IntKind) (a b : Int) : Int := k.wrap (a * ((2 ^ minN b.toNat k.bits : Nat) : Int))
def shrN (k : IntKind) (a b : Int) : Int := a.fdiv ((2 ^ minN b.toNat k.bits : Nat) : Int)

def fastEql (P : Program) (op : BinOp) (t : TypeId) (xs ys : List Value) : Option Value :=
  match op with
  | .eql => match eqAgg P t xs ys with
    | some r => some (.bool r)
    | none => none
  | .neq => match eqAgg P t xs ys with
    | some r => some (.bool (!r))
    | none => none
  | _ => none

def fieldV (P : Program) (t : TypeId) (f : Nat) (cs : List Value) : Option Value :=
  match P.underlying t with
  | some (.struct fields) => match fields[f]? with
    | some fd => readAt P fd.type cs fd.offset
    | none => none
  | _ => none

def evOp (P : Program) (gl fl : Nat) (o : Oper) (T : List Value) (S : List Blk) : Option R :=
  match o.op with
  | .move x => match opd gl T x with
    | some v => some (.val v S)
    | none => none
  | .assign x => match opd gl T x with
    | some v => some (.val v S)
    | none => none
  | .pick c a b => match opd gl T c, opd gl T a, opd gl T b with
    | some (.bool β), some v, some u => some (.val (bif β then v else u) S)
    | _, _, _ => none
  | .alloc t => match zeroT P t with
    | some z => if allR scalar z.cells.toList then newK S (⟨z.cells.toList, t, false, none⟩) fun b2 S' => some (.val (.pointer (some ⟨b2, 0, none⟩)) S') else none
    | none => none
  | .box t x => match opd gl T x with
    | some v => if isJ v then none else forceK v.cells.toList fun cs => newK S (⟨cs, t, false, none⟩) fun b2 S' => some (.val (.pointer (some ⟨b2, 0, none⟩)) S')
    | none => none
  | .load t x => match opd gl T x with
    | some p => match load P t S p with
      | some v => some (.val v S)
      | none => none
    | none => none
  | .store t x y => match opd gl T x, opd gl T y with
    | some p, some v => match store P fl t S p v with
      | some S' => some (.val undef S')
      | none => none
    | _, _ => none
  | .nilCheck x => match opd gl T x with
    | some (.pointer (some a)) => some (.val (.pointer (some a)) S)
    | _ => none
  | .fieldAddr t x f => match opd gl T x with
    | some p => match fieldP P t f p with
      | some v => some (.val v S)
      | none => none
    | none => none
  | .indexAddr t x i => match opd gl T x, opd gl T i with
    | some p, some j => match indexP P t p j with
      | some v => some (.val v S)
      | none => none
    | _, _ => none
  | .makeFunc (.func f) first captured => match opds gl T first.toList, opds gl T captured.toList with
    | some xs, some cs => some (.val (.func (.func f) xs.toArray cs.toArray) S)
    | _, _ => none
  | .call { callee := .value f, args, .. } => match opd gl T f, opds gl T args.toList with
    | some g, some vs => callee P g vs
    | _, _ => none
  | .buildSlice t len parts => match opds gl T (parts.toList.map (·.2)) with
    | some vs => if vs.all plain then match buildSliceCells P t len ((parts.toList.map (·.1)).zip vs).toArray with
        | some (elem, cells) => if allR scalar cells.toList then newK S (⟨cells.toList, elem, false, none⟩) fun b2 S' => some (.val (.slice (some ⟨b2, 0, none⟩) len len) S') else none
        | none => none
      else if vs.any isJ then none else if zeroOk P t then match buildSliceCells P t len ((parts.toList.map (·.1)).zip vs).toArray with
        | some (elem, cells) => forceK cells.toList fun cs => newK S (⟨cs, elem, false, none⟩) fun b2 S' => some (.val (.slice (some ⟨b2, 0, none⟩) len len) S')
        | none => none
      else none
    | none => none
  | .binOp op bt x y _ => match opd gl T x, opd gl T y with
    | some (.agg xs), some (.agg ys) => match fastEql P op bt xs.toList ys.toList with
      | some v => some (.val v S)
      | none => pureTry P gl o T S
    | some (.int k a), some (.int j b) => if k = j then match fastBin op k a b with
        | some v => some (.val v S)
        | none => pureTry P gl o T S
      else pureTry P gl o T S
    | some (.slice (some _) _ _), some (.slice none _ _) => match P.underlying bt with
      | some (.slice _) => match op with
        | .eql => some (.val (.bool false) S)
        | .neq => some (.val (.bool true) S)
        | _ => none
      | _ => none
    | _, _ => pureTry P gl o T S
  | .call { callee := .builtin .len, args, argTypes } => match opds gl T args.toList, argTypes[0]? with
    | some [.slice (some _) n _], some t => match P.underlying t with
      | some (.slice _) => some (.val (.int .i64 n) S)
      | _ => none
    | _, _ => pureTry P gl o T S
  | .call { callee := .builtin .cap, args, argTypes } => match opds gl T args.toList, argTypes[0]? with
    | some [.slice (some _) _ c], some t => match P.underlying t with
      | some (.slice _) => if Nat.beq c unk then none else some (.val (.int .i64 c) S)
      | _ => none
    | _, _ => pureTry P gl o T S
  | .makeSlice t l c => match opd gl T l, opd gl T c with
    | some (.int _ n), some (.int _ m) => match makeC P t n m with
      | some (elem, cells) => if allR scalar cells.toList then forceK cells.toList fun cs => newK S (⟨cs, elem, false, none⟩) fun b2 S' => some (.val (.slice (some ⟨b2, 0, none⟩) n.toNat m.toNat) S') else none
      | none => none
    | _, _ => none
  | .slice t x none none none => match opd gl T x, P.underlying t with
    | some (.pointer (some ⟨b, off, none⟩)), some (.array (n + 1) e) => match sizeT P e with
      | some _ => if Nat.blt (n + 1) unk then some (.val (.slice (some ⟨b, off, none⟩) (n + 1) (n + 1)) S) else none
      | none => none
    | _, _ => pureTry P gl o T S
  | .slice t x lo hi mx => match opd gl T x with
    | some (.slice (some a) n c) => match optV gl T lo, optV gl T hi, optV gl T mx with
      | some l, some h, some m => match sliceC P t (.slice (some a) n c) l h m with
        | some (true, v) => some (.val v S)
        | _ => none
      | _, _, _ => none
    | _ => pureTry P gl o T S
  | .call { callee := .builtin .append, args, argTypes } => match opds gl T args.toList with
    | some [d, s] => match appendP P S argTypes.toList d s with
      | some (v, S') => some (.val v S')
      | none => match appendD P fl S argTypes.toList d s with
        | some (v, S') => some (.val v S')
        | none => match appendZ P S argTypes.toList d s with
          | some (v, S') => some (.val v S')
          | none => none
    | _ => none
  | .build t parts => match opds gl T (parts.toList.map (·.2)) with
    | some vs => if vs.all plain then pureTry P gl o T S else if vs.any isJ then none else match buildCells P t ((parts.toList.map (·.1)).zip vs) with
      | some cells => some (.val (.agg cells) S)
      | none => none
    | none => none
  | .range t x => match opd gl T x with
    | some u => match rangeP P t u with
      | some s => newK S (iterBlk s 0) fun b2 S' => some (.val (.pointer (some ⟨b2, 0, none⟩)) S')
      | none => none
    | none => none
  | .next x isString => match isString with
    | true => match opd gl T x with
      | some u => match nextP fl S u with
        | some (v, S') => some (.val v S')
        | none => none
      | none => none
    | false => none
  | .makeMap _ none => newK S (mapBlk [] 0) fun b2 S' => some (.val (.map (some b2)) S')
  | .lookup t x i ok => match opd gl T x, opd gl T i with
    | some m, some k => match lookupP P t S m k ok with
      | some v => some (.val v S)
      | none => none
    | _, _ => none
  | .mapUpdate t x i y => match opd gl T x, opd gl T i, opd gl T y with
    | some m, some k, some v => match updateP P fl t S m k v with
      | some S' => some (.val undef S')
      | none => none
    | _, _, _ => none
  | .convert s d x => match opd gl T x with
    | some (.int _ n) => match P.underlying s, P.underlying d with
      | some _, some (.int j) => some (.val (.int j (j.wrap n)) S)
      | _, _ => pureTry P gl o T S
    | _ => pureTry P gl o T S
  | .extract x i => match opd gl T x with
    | some (.tuple xs) => match getR xs.toList i with
      | some v => some (.val v S)
      | none => none
    | _ => pureTry P gl o T S
  | .field t x f => match opd gl T x with
    | some (.agg xs) => match fieldV P t f xs.toList with
      | some v => some (.val v S)
      | none => none
    | _ => pureTry P gl o T S
  | _ => pureTry P gl o T S
/- The same by the lists' own functions. -/
def readAtO (P : Program) (t : TypeId) (cs : List Value) (o : Nat) : Option Value :=
  match isAggT P t with
  | some false => cs[o]?
  | some true => match sizeT P t with
    | some n => if o + n ≤ cs.length then forceK ((cs.drop o).take n) fun l => some (.agg l.toArray) else none
    | none => none
  | none => none
def loadO (P : Program) (t : TypeId) (S : List Blk) : Value → Option Value
  | .pointer (some ⟨b, o, none⟩) => match S[b]? with
    | some ⟨cs, _, _, none⟩ => readAt P t cs o
    | some ⟨_, _, _, some (.ints kd lo L)⟩ => readInts P t kd lo L o
    | some ⟨_, _, _, some (.buf kd _ L)⟩ => readInts P t kd 0 L o
    | _ => none
  | _ => none
def writeAtO (l : List Value) (o : Nat) : List Value → List Value
  | [] => l
  | v :: vs => writeAtO (l.set o v) (o + 1) vs
def storeO (P : Program) (fl : Nat) (t : TypeId) (S : List Blk) (p v : Value) : Option (List Blk) :=
  match p with
  | .pointer (some ⟨b, o, none⟩) => match S[b]?, sizeT P t with
    | some ⟨cs0, e, ro, none⟩, some n =>
      if decide (fl ≤ b) && !ro && v.cells.toList.length == n && v.cells.toList.all cellish && decide (o + v.cells.toList.length ≤ cs0.length) then
        forceK (writeAt cs0 o v.cells.toList) fun cs => forceK (S.set b ⟨cs, e, ro, none⟩) some
      else none
    | some ⟨cs0, e, ro, some (.buf kd sz L)⟩, some n => match v with
      | .int kd2 m => if decide (fl ≤ b) && decide (n = 1) && decide (kd2 = kd) && decide (o < L.length) then forceK (L.set o m) fun L2 => forceK (S.set b ⟨cs0, e, ro, some (.buf kd sz L2)⟩) some else none
      | _ => none
    | _, _ => none
  | _ => none
def mapAtO (S : List Blk) : Value → Option (Nat × List MapEntry × Nat)
  | .map (some b) => match S[b]? with
    | some ⟨_, _, _, some (.map es clock)⟩ => some (b, es, clock)
    | _ => none
  | _ => none
def updatePO (P : Program) (fl : Nat) (t : TypeId) (S : List Blk) (x k v : Value) : Option (List Blk) :=
  match P.underlying t, mapAt S x with
  | some (.map kt _), some (b, es, clock) => if decide (fl ≤ b) && plain v then match findIn P kt false es k with
      | some (some (i, _)) => match pureSem P (Instr.keyThatStays (((es.toArray[i]?).map (·.key)).getD k) k) with
        | some key => forceK (S.set b (mapBlk (es.toArray.modify i fun e => { e with key := key, val := v }).toList clock)) some
        | none => none
      | some none => forceK (S.set b (mapBlk (es ++ [{ key := k, val := v, born := clock }]) (clock + 1))) some
      | none => none
    else none
  | _, _ => none
def sliceIntsO (S : List Blk) (sz : Nat) : Value → Option (Bool × IntKind × List Int)
  | .slice none 0 _ => some (true, .i64, [])
  | .slice (some ⟨b, off, none⟩) n _ => match S[b]? with
    | some ⟨_, _, _, some (.ints kd lo L)⟩ => some (insideI lo L off (n * sz), kd, (L.drop (off - lo)).take (n * sz))
    | some ⟨_, _, _, some (.buf kd _ L)⟩ => some (insideI 0 L off (n * sz), kd, (L.drop (off - 0)).take (n * sz))
    | some ⟨cs, _, _, none⟩ => match intsOf (kindOf cs) cs with
      | some L => some (insideI 0 L off (n * sz), kindOf cs, (L.drop (off - 0)).take (n * sz))
      | none => none
    | _ => none
  | _ => none
def appendCO (P : Program) (S : List Blk) (argTypes : List TypeId) (d s : Value) : Option (Bool × Value × Value × Blk) :=
  match argTypes with
  | [t, t2] => if t = t2 then match P.underlying t with
    | some (.slice e) => match P.info? e with
      | some i => match i.zero with
        | some z => if Nat.beq z.cells.size i.size && Nat.ble 1 i.size && Nat.ble i.bytes 4096 then match d with
          | .slice d0 0 0 => match sliceInts S i.size s with
            | some (t1, kd, L) => match s with
              | .slice _ n _ => some (t1 && Nat.ble n 34359738368, .slice d0 0 0, .slice (some ⟨S.length, 0, none⟩) n unk, ⟨[], e, false, some (.buf kd i.size L)⟩)
              | _ => none
            | none => none
          | _ => none
          else none
        | none => none
      | none => none
    | _ => none
    else none
  | _ => none
def appendPO (P : Program) (S : List Blk) (argTypes : List TypeId) (d s : Value) : Option (Value × List Blk) :=
  match appendC P S argTypes d s with
  | some (true, d', v, k) => if lenV s = 0 then some (d', S) else forceK (S ++ [k]) fun S' => some (v, S')
  | _ => none
def appendDO (P : Program) (fl : Nat) (S : List Blk) (argTypes : List TypeId) (d s : Value) : Option (Value × List Blk) :=
  match argTypes with
  | [t, t2] => if t = t2 then match P.underlying t with
    | some (.slice e) => match P.info? e with
      | some i => match i.zero with
        | some z => if Nat.beq z.cells.size i.size && Nat.ble 1 i.size && Nat.ble i.bytes 4096 then match d with
          | .slice (some ⟨b, 0, none⟩) n c => match S[b]? with
            | some ⟨_, e2, _, some (.buf kd sz L)⟩ => match sliceInts S i.size s with
              | some (true, kd2, Ls) => match s with
                | .slice (some _) (m + 1) _ => if Nat.beq c unk && Nat.ble fl b && Nat.beq sz i.size && decide (e2 = e) && decide (kd2 = kd) && Nat.ble (n * i.size) L.length && Nat.ble (n + (m + 1)) 34359738368 then
                    forceK (L.take (n * i.size) ++ Ls) fun L2 => forceK (S.set b deadBlk ++ [⟨[], e, false, some (.buf kd sz L2)⟩]) fun S' => some (.slice (some ⟨S.length, 0, none⟩) (n + (m + 1)) unk, S')
                  else none
                | .slice _ 0 _ => some (.slice (some ⟨b, 0, none⟩) n c, S)
                | _ => none
              | _ => none
            | _ => none
          | _ => none
          else none
        | none => none
      | none => none
    | _ => none
    else none
  | _ => none
def appendZO (P : Program) (S : List Blk) (argTypes : List TypeId) (d s : Value) : Option (Value × List Blk) :=
  match argTypes with
  | [t, tn] => match P.underlying t with
    | some (.slice e) => match P.underlying tn with
      | some (.int _) => match P.info? e with
        | some i => match i.zero with
          | some z => if Nat.beq z.cells.size i.size && Nat.ble 1 i.size && Nat.ble i.bytes 4096 then match d with
            | .slice _ 0 0 => match s with
              | .int _ n => if decide (0 < n) && decide (n ≤ 65536) then
                  match intsOf (kindOf z.cells.toList) (Builtin.zeroCells z.cells n.toNat).toList with
                  | some L => forceK L fun L' => forceK (S ++ [⟨[], e, false, some (.buf (kindOf z.cells.toList) i.size L')⟩]) fun S' => some (.slice (some ⟨S.length, 0, none⟩) n.toNat unk, S')
                  | none => none
                else none
              | _ => none
            | _ => none
            else none
          | none => none
        | none => none
      | _ => none
    | _ => none
  | _ => none
def nextPO (fl : Nat) (S : List Blk) (x : Value) : Option (Value × List Blk) :=
  match x with
  | .pointer (some ⟨b, 0, none⟩) => match S[b]? with
    | some ⟨_, _, _, some (.iter s pos)⟩ => if decide (fl ≤ b) then
        if pos < s.size then match Utf8.decode s pos with
          | (c, width) => forceK (S.set b (iterBlk s (pos + width))) fun S' => some (.tuple #[.bool true, goInt pos, .int .i32 c], S')
        else some (.tuple #[.bool false], S)
      else none
    | _ => none
  | _ => none
def evOpO (P : Program) (gl fl : Nat) (o : Oper) (T : List Value) (S : List Blk) : Option R :=
  match o.op with
  | .move x => match opd gl T x with
    | some v => some (.val v S)
    | none => none
  | .assign x => match opd gl T x with
    | some v => some (.val v S)
    | none => none
  | .pick c a b => match opd gl T c, opd gl T a, opd gl T b with
    | some (.bool β), some v, some u => some (.val (bif β then v else u) S)
    | _, _, _ => none
  | .alloc t => match zeroT P t with
    | some z => if z.cells.toList.all scalar then forceK (S ++ [⟨z.cells.toList, t, false, none⟩]) fun S' => some (.val (.pointer (some ⟨S.length, 0, none⟩)) S') else none
    | none => none
  | .box t x => match opd gl T x with
    | some v => if isJ v then none else forceK v.cells.toList fun cs => forceK (S ++ [⟨cs, t, false, none⟩]) fun S' => some (.val (.pointer (some ⟨S.length, 0, none⟩)) S')
    | none => none
  | .load t x => match opd gl T x with
    | some p => match load P t S p with
      | some v => some (.val v S)
      | none => none
    | none => none
  | .store t x y => match opd gl T x, opd gl T y with
    | some p, some v => match store P fl t S p v with
      | some S' => some (.val undef S')
      | none => none
    | _, _ => none
  | .nilCheck x => match opd gl T x with
    | some (.pointer (some a)) => some (.val (.pointer (some a)) S)
    | _ => none
  | .fieldAddr t x f => match opd gl T x with
    | some p => match fieldP P t f p with
      | some v => some (.val v S)
      | none => none
    | none => none
  | .indexAddr t x i => match opd gl T x, opd gl T i with
    | some p, some j => match indexP P t p j with
      | some v => some (.val v S)
      | none => none
    | _, _ => none
  | .makeFunc (.func f) first captured => match opds gl T first.toList, opds gl T captured.toList with
    | some xs, some cs => some (.val (.func (.func f) xs.toArray cs.toArray) S)
    | _, _ => none
  | .call { callee := .value f, args, .. } => match opd gl T f, opds gl T args.toList with
    | some g, some vs => callee P g vs
    | _, _ => none
  | .buildSlice t len parts => match opds gl T (parts.toList.map (·.2)) with
    | some vs => if vs.all plain then match buildSliceCells P t len ((parts.toList.map (·.1)).zip vs).toArray with
        | some (elem, cells) => if cells.toList.all scalar then forceK (S ++ [⟨cells.toList, elem, false, none⟩]) fun S' => some (.val (.slice (some ⟨S.length, 0, none⟩) len len) S') else none
        | none => none
      else if vs.any isJ then none else if zeroOk P t then match buildSliceCells P t len ((parts.toList.map (·.1)).zip vs).toArray with
        | some (elem, cells) => forceK cells.toList fun cs => forceK (S ++ [⟨cs, elem, false, none⟩]) fun S' => some (.val (.slice (some ⟨S.length, 0, none⟩) len len) S')
        | none => none
      else none
    | none => none
  | .binOp op bt x y _ => match opd gl T x, opd gl T y with
    | some (.agg xs), some (.agg ys) => match fastEql P op bt xs.toList ys.toList with
      | some v => some (.val v S)
      | none => pureTry P gl o T S
    | some (.int k a), some (.int j b) => if k = j then match fastBin op k a b with
        | some v => some (.val v S)
        | none => pureTry P gl o T S
      else pureTry P gl o T S
    | some (.slice (some _) _ _), some (.slice none _ _) => match P.underlying bt with
      | some (.slice _) => match op with
        | .eql => some (.val (.bool false) S)
        | .neq => some (.val (.bool true) S)
        | _ => none
      | _ => none
    | _, _ => pureTry P gl o T S
  | .call { callee := .builtin .len, args, argTypes } => match opds gl T args.toList, argTypes[0]? with
    | some [.slice (some _) n _], some t => match P.underlying t with
      | some (.slice _) => some (.val (.int .i64 n) S)
      | _ => none
    | _, _ => pureTry P gl o T S
  | .call { callee := .builtin .cap, args, argTypes } => match opds gl T args.toList, argTypes[0]? with
    | some [.slice (some _) _ c], some t => match P.underlying t with
      | some (.slice _) => if Nat.beq c unk then none else some (.val (.int .i64 c) S)
      | _ => none
    | _, _ => pureTry P gl o T S
  | .makeSlice t l c => match opd gl T l, opd gl T c with
    | some (.int _ n), some (.int _ m) => match makeC P t n m with
      | some (elem, cells) => if cells.toList.all scalar then forceK cells.toList fun cs => forceK (S ++ [⟨cs, elem, false, none⟩]) fun S' => some (.val (.slice (some ⟨S.length, 0, none⟩) n.toNat m.toNat) S') else none
      | none => none
    | _, _ => none
  | .slice t x none none none => match opd gl T x, P.underlying t with
    | some (.pointer (some ⟨b, off, none⟩)), some (.array (n + 1) e) => match sizeT P e with
      | some _ => if Nat.blt (n + 1) unk then some (.val (.slice (some ⟨b, off, none⟩) (n + 1) (n + 1)) S) else none
      | none => none
    | _, _ => pureTry P gl o T S
  | .slice t x lo hi mx => match opd gl T x with
    | some (.slice (some a) n c) => match optV gl T lo, optV gl T hi, optV gl T mx with
      | some l, some h, some m => match sliceC P t (.slice (some a) n c) l h m with
        | some (true, v) => some (.val v S)
        | _ => none
      | _, _, _ => none
    | _ => pureTry P gl o T S
  | .call { callee := .builtin .append, args, argTypes } => match opds gl T args.toList with
    | some [d, s] => match appendP P S argTypes.toList d s with
      | some (v, S') => some (.val v S')
      | none => match appendD P fl S argTypes.toList d s with
        | some (v, S') => some (.val v S')
        | none => match appendZ P S argTypes.toList d s with
          | some (v, S') => some (.val v S')
          | none => none
    | _ => none
  | .build t parts => match opds gl T (parts.toList.map (·.2)) with
    | some vs => if vs.all plain then pureTry P gl o T S else if vs.any isJ then none else match buildCells P t ((parts.toList.map (·.1)).zip vs) with
      | some cells => some (.val (.agg cells) S)
      | none => none
    | none => none
  | .range t x => match opd gl T x with
    | some u => match rangeP P t u with
      | some s => forceK (S ++ [iterBlk s 0]) fun S' => some (.val (.pointer (some ⟨S.length, 0, none⟩)) S')
      | none => none
    | none => none
  | .next x isString => match isString with
    | true => match opd gl T x with
      | some u => match nextP fl S u with
        | some (v, S') => some (.val v S')
        | none => none
      | none => none
    | false => none
  | .makeMap _ none => forceK (S ++ [mapBlk [] 0]) fun S' => some (.val (.map (some S.length)) S')
  | .lookup t x i ok => match opd gl T x, opd gl T i with
    | some m, some k => match lookupP P t S m k ok with
      | some v => some (.val v S)
      | none => none
    | _, _ => none
  | .mapUpdate t x i y => match opd gl T x, opd gl T i, opd gl T y with
    | some m, some k, some v => match updateP P fl t S m k v with
      | some S' => some (.val undef S')
      | none => none
    | _, _, _ => none
  | .convert s d x => match opd gl T x with
    | some (.int _ n) => match P.underlying s, P.underlying d with
      | some _, some (.int j) => some (.val (.int j (j.wrap n)) S)
      | _, _ => pureTry P gl o T S
    | _ => pureTry P gl o T S
  | .extract x i => match opd gl T x with
    | some (.tuple xs) => match getR xs.toList i with
      | some v => some (.val v S)
      | none => none
    | _ => pureTry P gl o T S
  | .field t x f => match opd gl T x with
    | some (.agg xs) => match fieldV P t f xs.toList with
      | some v => some (.val v S)
      | none => none
    | _ => pureTry P gl o T S
  | _ => pureTry P gl o T S

theorem readAt_eqO (P : Program) (t : TypeId) (cs : List Value) (o : Nat) : readAt P t cs o = readAtO P t cs o := by
  unfold readAt readAtO
  simp only [getR_eq, forceK_eq, takeR_eq, dropR_eq, lenR_eq, Nat.ble_eq]
theorem load_eqO (P : Program) (t : TypeId) (S : List Blk) (p : Value) : load P t S p = loadO P t S p := by
  unfold load loadO
  simp only [getR_eq]
theorem writeAt_eqO (l : List Value) (o : Nat) (vs : List Value) : writeAt l o vs = writeAtO l o vs := by
  induction vs generalizing l o with
  | nil => rfl
  | cons v vs ih => simp only [writeAt, writeAtO, setG_eq, ih]
theorem store_eqO (P : Program) (fl : Nat) (t : TypeId) (S : List Blk) (p v : Value) : store P fl t S p v = storeO P fl t S p v := by
  unfold store storeO
  simp only [getR_eq, lenR_eq, allR_eq, setG_eq, forceK_eq]
  split
  · split
    · rename_i cs0 e ro n _ _
      refine ite_congr (propext ?_) (fun _ => rfl) (fun _ => rfl)
      simp only [Bool.and_eq_true, Nat.beq_eq, Nat.ble_eq, beq_iff_eq, decide_eq_true_eq]
      constructor
      · rintro ⟨⟨⟨⟨h1, h2⟩, h3⟩, h4⟩, h5⟩; exact ⟨⟨⟨⟨h1, h2⟩, h3⟩, h4⟩, by omega⟩
      · rintro ⟨⟨⟨⟨h1, h2⟩, h3⟩, h4⟩, h5⟩; exact ⟨⟨⟨⟨h1, h2⟩, h3⟩, h4⟩, by omega⟩
    · split
      · refine ite_congr (propext ?_) (fun _ => rfl) (fun _ => rfl)
        simp only [Bool.and_eq_true, Nat.blt_eq, decide_eq_true_eq]
      · rfl
    · rfl
  · rfl
theorem mapAt_eqO (S : List Blk) (v : Value) : mapAt S v = mapAtO S v := by
  unfold mapAt mapAtO
  simp only [getR_eq]
theorem updateP_eqO (P : Program) (fl : Nat) (t : TypeId) (S : List Blk) (x k v : Value) : updateP P fl t S x k v = updatePO P fl t S x k v := by
  unfold updateP updatePO
  simp only [setG_eq, forceK_eq]
theorem sliceInts_eqO (S : List Blk) (sz : Nat) (v : Value) : sliceInts S sz v = sliceIntsO S sz v := by
  unfold sliceInts sliceIntsO
  simp only [getR_eq]
theorem appendC_eqO (P : Program) (S : List Blk) (l : List TypeId) (d s : Value) : appendC P S l d s = appendCO P S l d s := by
  unfold appendC appendCO
  simp only [lenR_eq]
theorem appendP_eqO (P : Program) (S : List Blk) (l : List TypeId) (d s : Value) : appendP P S l d s = appendPO P S l d s := by
  unfold appendP appendPO
  simp only [appG_eq, forceK_eq]
theorem appendD_eqO (P : Program) (fl : Nat) (S : List Blk) (l : List TypeId) (d s : Value) : appendD P fl S l d s = appendDO P fl S l d s := by
  unfold appendD appendDO
  simp only [getR_eq, appG_eq, takeR_eq, setG_eq, newK_eq, forceK_eq, List.length_set]
theorem appendZ_eqO (P : Program) (S : List Blk) (l : List TypeId) (d s : Value) : appendZ P S l d s = appendZO P S l d s := by
  unfold appendZ appendZO
  simp only [newK_eq, forceK_eq]
theorem nextP_eqO (fl : Nat) (S : List Blk) (x : Value) : nextP fl S x = nextPO fl S x := by
  unfold nextP nextPO
  simp only [getR_eq, setG_eq, forceK_eq]
theorem evOp_eqO (P : Program) (gl fl : Nat) (o : Oper) (T : List Value) (S : List Blk) : evOp P gl fl o T S = evOpO P gl fl o T S := by
  unfold evOp evOpO
  simp only [newK_eq, forceK_eq, allR_eq]
end
end Go.Proofs.XX.Vm
/- A small evaluator over a shadow heap, part 3: what is evaluated is what the model runs, operation by operation. -/
namespace Go.Proofs.XX.Vm
open Go Go.RowKit

structure Ok (gl : Nat) (φ : Ren) (S : List Blk) (w : World) : Prop where
  good : Good φ S w
  glob : ∀ g, g < gl → φ g = some g

theorem opd_rel {gl : Nat} {φ : Ren} {S : List Blk} {w : World} (ok : Ok gl φ S w) {T : List Value} {a : Act} (hT : LRel φ T a.tmps.toList) {x : Operand} {v : Value}
    (h : opd gl T x = some v) : VRel φ v (a.eval x) := by
  cases x with
  | tmp t =>
    simp only [opd, nthD_eq, Option.some.injEq] at h
    subst h
    simp only [Act.eval]
    cases ht : T[t]? with
    | none =>
      have := hT.none ht
      simp only [Array.getElem?_toList] at this
      simp [this, undef_refl]
    | some v =>
      obtain ⟨v', h1, h2⟩ := hT.get ht
      simp only [Array.getElem?_toList] at h1
      simpa [h1] using h2
  | const v =>
    simp only [opd] at h
    split at h
    · rename_i hp; cases h; exact plain_refl hp
    · cases h
  | global g =>
    simp only [opd] at h
    split at h
    · rename_i hp; cases h; exact .ptr (ok.glob g hp)
    · cases h
  | func f => simp only [opd, Option.some.injEq] at h; subst h; exact plain_refl (by simp [plain, flat, scalar])

theorem opds_rel {gl : Nat} {φ : Ren} {S : List Blk} {w : World} (ok : Ok gl φ S w) {T : List Value} {a : Act} (hT : LRel φ T a.tmps.toList) {l : List Operand} {vs : List Value}
    (h : opds gl T l = some vs) : LRel φ vs (l.map a.eval) := by
  induction l generalizing vs with
  | nil => simp only [opds, Option.some.injEq] at h; subst h; exact LRel.nil φ
  | cons x l ih =>
    simp only [opds] at h
    split at h
    · rename_i v vs' h1 h2; cases h; exact LRel.cons (opd_rel ok hT h1) (ih h2)
    · cases h

section
variable {P : Program} {w : World}
theorem run_isAgg {t : TypeId} {b : Bool} (h : isAggT P t = some b) : (isAgg t).run P w = .ok b w := by
  unfold isAggT at h
  cases hu : P.underlying t with
  | none => rw [hu] at h; cases h
  | some d =>
    rw [hu] at h
    unfold isAgg
    simp only [Sem.run_bind, run_underlying hu, Result.andThen_ok]
    cases d <;> simp_all
theorem run_sizeT {t : TypeId} {n : Nat} (h : sizeT P t = some n) : (sizeOf t).run P w = .ok n w := by
  unfold sizeT at h
  cases hi : P.info? t with
  | none => rw [hi] at h; cases h
  | some i => rw [hi] at h; cases h; simp [sizeOf, run_typeInfo w hi]
theorem run_zeroT {t : TypeId} {z : Value} (h : zeroT P t = some z) : (zeroValue t).run P w = .ok z w := by
  unfold zeroT at h
  cases hi : P.info? t with
  | none => rw [hi] at h; cases h
  | some i =>
    rw [hi] at h
    simp only at h
    unfold zeroValue
    simp [Sem.run_bind, run_typeInfo w hi, h]

theorem cell_of_heap {r o : Nat} {c : Array Value} {e : TypeId} {fz : Nat × Nat} (h : w.heap[r]? = some (.cells c e fz)) : w.cell? ⟨r, o, none⟩ = c[o]? := by
  simp [World.cell?, h]
theorem run_loadCellsFrom {r o : Nat} {c : Array Value} {e : TypeId} {fz : Nat × Nat} (h : w.heap[r]? = some (.cells c e fz)) : ∀ (n i : Nat) (acc : Array Value), o + i + n ≤ c.size →
    (loadCellsFrom ⟨r, o, none⟩ i n acc).run P w = .ok (acc ++ ((c.toList.drop (o + i)).take n).toArray) w := by
  intro n
  induction n with
  | zero => intro i acc _; simp [loadCellsFrom, Sem.run_pure]
  | succ n ih =>
    intro i acc hn
    have hadd : (⟨r, o, none⟩ : Addr).add i = ⟨r, o + i, none⟩ := by unfold Addr.add; split <;> simp_all
    have hc : w.cell? ⟨r, o + i, none⟩ = some c[o + i] := by rw [cell_of_heap h]; simp
    simp only [loadCellsFrom, Sem.run_bind, hadd, Go.load, Sem.run, hc, Result.andThen_ok]
    rw [ih _ _ (by omega)]
    have : c.toList.drop (o + i) = c[o + i] :: c.toList.drop (o + (i + 1)) := by
      rw [List.drop_eq_getElem_cons (by simp; omega)]; simp [Nat.add_assoc]
    rw [this]
    simp

theorem intCells_len (kd : IntKind) (L : List Int) : ∀ n i, (intCells kd L i n).length = n
  | 0, _ => rfl
  | n + 1, i => by simp [intCells, intCells_len kd L n]
theorem intCells_get (kd : IntKind) (L : List Int) : ∀ n i j, j < n → (intCells kd L i n)[j]? = some (.int kd (nthI L (i + j)))
  | 0, _, _, h => absurd h (Nat.not_lt_zero _)
  | n + 1, i, 0, _ => rfl
  | n + 1, i, j + 1, h => by
    have := intCells_get kd L n (i + 1) j (by omega)
    simp only [intCells, List.getElem?_cons_succ, this]
    rw [show i + 1 + j = i + (j + 1) by omega]
theorem intCells_scalar (kd : IntKind) (L : List Int) : ∀ n i, (intCells kd L i n).all scalar = true
  | 0, _ => rfl
  | n + 1, i => by simp [intCells, intCells_scalar kd L n, scalar]
theorem insideI_spec {lo : Nat} {L : List Int} {o n : Nat} (h : insideI lo L o n = true) : lo ≤ o ∧ o + n ≤ lo + L.length := by
  simpa [insideI, Nat.ble_eq] using h
theorem run_loadInts {r o : Nat} {c' : Array Value} {e : TypeId} {fz : Nat × Nat} {kd : IntKind} {lo : Nat} {L : List Int} (h1 : w.heap[r]? = some (.cells c' e fz)) (h2 : ∀ (i : Nat) (n : Int), L[i]? = some n → c'.toList[lo + i]? = some (.int kd n))
    {t : TypeId} {v : Value} (h : readInts P t kd lo L o = some v) : (Instr.loadAt t (.pointer (some ⟨r, o, none⟩))).run P w = .ok v w ∧ plain v = true := by
  have cell : ∀ j, lo ≤ o → o + j < lo + L.length → c'.toList[o + j]? = some (.int kd (nthI L (o - lo + j))) := by
    intro j g1 g2
    have := h2 (o - lo + j) _ (nthI_some (by omega))
    rwa [show lo + (o - lo + j) = o + j by omega] at this
  unfold readInts intsC at h
  simp only [forceK_eq] at h
  unfold Instr.loadAt loadVar
  simp only [Instr.sureAddr, Sem.run_bind, Sem.run_pure, Result.andThen_ok]
  cases ha : isAggT P t with
  | none => simp only [ha] at h; cases h
  | some ag =>
    simp only [ha] at h
    cases ag with
    | false =>
      cases hi : insideI lo L o 1 with
      | false => simp only [hi] at h; cases h
      | true =>
        simp only [hi, Option.some.injEq] at h
        subst h
        obtain ⟨g1, g2⟩ := insideI_spec hi
        have hc : w.cell? ⟨r, o, none⟩ = some (.int kd (nthI L (o - lo))) := by
          have := cell 0 g1 (by omega)
          rw [cell_of_heap h1]; simpa using this
        refine ⟨by simp [run_isAgg ha, Go.load, Sem.run, hc], rfl⟩
    | true =>
      cases hz : sizeT P t with
      | none => simp only [hz] at h; cases h
      | some n =>
        simp only [hz] at h
        cases hi : insideI lo L o n with
        | false => simp only [hi] at h; cases h
        | true =>
          simp only [hi, Option.some.injEq] at h
          subst h
          obtain ⟨g1, g2⟩ := insideI_spec hi
          have hsz : n = 0 ∨ o + n ≤ c'.size := by
            cases n with
            | zero => exact .inl rfl
            | succ n =>
              have := cell n g1 (by omega)
              have := (List.getElem?_eq_some_iff.1 this).1
              simp only [Array.length_toList] at this
              exact .inr (by omega)
          have heq : (c'.toList.drop o).take n = intCells kd L (o - lo) n := by
            refine List.ext_getElem? fun j => ?_
            rw [List.getElem?_take]
            by_cases hj : j < n
            · rw [if_pos hj, List.getElem?_drop, cell j g1 (by omega), intCells_get kd L n _ j hj]
            · rw [if_neg hj, List.getElem?_eq_none (by rw [intCells_len]; omega)]
          refine ⟨?_, by simpa [plain, flat] using intCells_scalar kd L n (o - lo)⟩
          simp only [run_isAgg ha, Result.andThen_ok, if_true, Sem.run_bind, run_sizeT hz, loadCells]
          rcases hsz with rfl | hsz
          · simp [loadCellsFrom, intCells]
          · rw [run_loadCellsFrom h1 n 0 #[] (by omega)]
            simp only [Nat.add_zero, heq, Result.andThen_ok, Sem.run_pure]
            simp

theorem run_load {φ : Ren} {S : List Blk} (good : Good φ S w) {t : TypeId} {p p' v : Value} (hp : VRel φ p p') (h : load P t S p = some v) :
    ∃ v', (Instr.loadAt t p').run P w = .ok v' w ∧ VRel φ v v' := by
  rw [load_eqO] at h; unfold loadO at h
  split at h
  · rename_i b o
    cases hp with
    | ptr hb =>
      rename_i r
      split at h
      · rename_i cs e ro hk
        obtain ⟨c', fz, h1, h2, _⟩ := good.cells hk hb
        rw [readAt_eqO] at h; unfold readAtO at h
        simp only [forceK_eq] at h
        unfold Instr.loadAt loadVar
        simp only [Instr.sureAddr, Sem.run_bind, Sem.run_pure, Result.andThen_ok]
        split at h
        · rename_i ha
          obtain ⟨v', g1, g2⟩ := h2.get h
          refine ⟨v', ?_, g2⟩
          have hc : w.cell? ⟨r, o, none⟩ = some v' := by rw [cell_of_heap h1]; simpa using take_get g1
          simp [run_isAgg ha, Go.load, Sem.run, hc]
        · rename_i ha
          split at h
          · rename_i n hn
            split at h
            · rename_i hle
              cases h
              have hl := take_len h2
              have hr := (h2.drop o).take n
              rw [take_drop_take hle] at hr
              refine ⟨.agg ((c'.toList.drop o).take n).toArray, ?_, .agg (by simpa using hr.1) (by simpa using hr.2)⟩
              simp only [run_isAgg ha, Result.andThen_ok, if_true, Sem.run_bind, run_sizeT hn, loadCells]
              rw [run_loadCellsFrom h1 n 0 #[] (by omega)]
              simp [Sem.run_pure]
            · cases h
          · cases h
        · cases h
      · rename_i cs e ro kd lo L hk
        obtain ⟨c', fz, h1, h2, _⟩ := good.ints hk hb
        obtain ⟨g1, g2⟩ := run_loadInts (P := P) h1 h2 h
        exact ⟨v, g1, plain_refl g2⟩
      · rename_i cs e ro kd sz L hk
        obtain ⟨c', h1, h2, _⟩ := good.buf hk hb
        obtain ⟨g1, g2⟩ := run_loadInts (P := P) h1 h2 h
        exact ⟨v, g1, plain_refl g2⟩
      · cases h
  · cases h

/-- One store. -/
theorem store_cell {φ : Ren} {S : List Blk} {fl : Nat} (good : Good φ S w) {b r o : Nat} {cs : List Value} {e : TypeId} {ro : Bool} (hk : S[b]? = some ⟨cs, e, ro, none⟩) (hb : φ b = some r) (hfl : fl ≤ b) (hro : ro = false)
    {v v' : Value} (hv : VRel φ v v') (hc : cellish v = true) (ho : o < cs.length) :
    (Go.store ⟨r, o, none⟩ v').run P w = .ok () (w.setCell ⟨r, o, none⟩ v') ∧ Good φ (S.set b ⟨cs.set o v, e, ro, none⟩) (w.setCell ⟨r, o, none⟩ v') ∧
      Step fl φ S w φ (S.set b ⟨cs.set o v, e, ro, none⟩) (w.setCell ⟨r, o, none⟩ v') := by
  obtain ⟨c', fz, h1, h2, h3⟩ := good.cells hk hb
  have hlen := take_len h2
  have hcell : w.cell? ⟨r, o, none⟩ = some (c'[o]'(by omega)) := by rw [cell_of_heap h1]; exact Array.getElem?_eq_getElem (by omega)
  have hfz : w.frozen? ⟨r, o, none⟩ = false := by simp [World.frozen?, h1, h3.1 hro]
  have hheap : ∀ s, (w.setCell ⟨r, o, none⟩ v').heap[s]? = if s = r then some (.cells (c'.setIfInBounds o v') e fz) else w.heap[s]? := by
    intro s
    simp only [World.setCell, Array.getElem?_modify]
    by_cases hs : s = r
    · subst hs; simp [h1]
    · rw [if_neg (by omega), if_neg hs]
  have hbl : b < S.length := (List.getElem?_eq_some_iff.1 hk).1
  refine ⟨?_, good.turn hbl hb hfl (show BRel φ ⟨cs.set o v, e, ro, none⟩ _ from ⟨c'.setIfInBounds o v', fz, rfl, by simpa [List.take_set] using h2.set hv o, h3.1, fun h => by rw [hro] at h; cases h⟩) (fun d => d.not hk (by simp)) (good.room b _ r hk hb) hheap (by simp [World.setCell]) rfl rfl rfl⟩
  cases hv <;> first | (simp [Go.store, Sem.run, hcell, hfz]; done) | (simp [cellish] at hc; done)

theorem store_cells {φ : Ren} {fl : Nat} {b r : Nat} (hb : φ b = some r) (hfl : fl ≤ b) : ∀ (vs vs' : List Value) (S : List Blk) (w : World) (cs : List Value) (e : TypeId) (ro : Bool) (o i : Nat), Good φ S w → S[b]? = some ⟨cs, e, ro, none⟩ → ro = false →
    LRel φ vs vs' → vs.all cellish = true → o + i + vs.length ≤ cs.length →
    ∃ w', (storeCells ⟨r, o, none⟩ vs' i).run P w = .ok () w' ∧ Good φ (S.set b ⟨writeAtO cs (o + i) vs, e, ro, none⟩) w' ∧
      Step fl φ S w φ (S.set b ⟨writeAtO cs (o + i) vs, e, ro, none⟩) w' := by
  intro vs
  induction vs with
  | nil =>
    intro vs' S w cs e ro o i good hk _ hvs _ _
    cases vs' with
    | cons _ _ => simp [LRel] at hvs
    | nil =>
      have : S.set b ⟨writeAtO cs (o + i) [], e, ro, none⟩ = S := by
        refine List.ext_getElem? fun j => ?_
        by_cases hj : b = j
        · subst hj; rw [List.getElem?_set_self (List.getElem?_eq_some_iff.1 hk).1, hk]; rfl
        · rw [List.getElem?_set_ne hj]
      rw [this]
      exact ⟨w, by simp [storeCells], good, Step.refl _ _ _ _⟩
  | cons v vs ih =>
    intro vs' S w cs e ro o i good hk hro hvs hall hle
    cases vs' with
    | nil => simp [LRel] at hvs
    | cons v' vs' =>
      simp only [List.all_cons, Bool.and_eq_true] at hall
      simp only [List.length_cons] at hle
      obtain ⟨e1, e2, e3⟩ := store_cell (P := P) good hk hb hfl hro hvs.head hall.1 (show o + i < cs.length by omega)
      have hbl : b < S.length := (List.getElem?_eq_some_iff.1 hk).1
      obtain ⟨w', f1, f2, f3⟩ := ih vs' (S.set b ⟨cs.set (o + i) v, e, ro, none⟩) (w.setCell ⟨r, o + i, none⟩ v') (cs.set (o + i) v) e ro o (i + 1) e2
        (by rw [List.getElem?_set_self hbl]) hro hvs.tail hall.2 (by simp; omega)
      have hadd : (⟨r, o, none⟩ : Addr).add i = ⟨r, o + i, none⟩ := by unfold Addr.add; split <;> simp_all
      rw [List.set_set] at f2 f3
      refine ⟨w', ?_, f2, e3.trans f3 ?_⟩
      · simp only [storeCells, Sem.run_bind, hadd, e1, Result.andThen_ok, f1]
      · intro x h1 h2; simp at h2; omega

theorem run_store {φ : Ren} {S S' : List Blk} {fl : Nat} (good : Good φ S w) {t : TypeId} {p p' v v' : Value} (hp : VRel φ p p') (hv : VRel φ v v') (h : store P fl t S p v = some S') :
    ∃ w', (Instr.storeAt t p' v').run P w = .ok () w' ∧ Good φ S' w' ∧ Step fl φ S w φ S' w' := by
  rw [store_eqO] at h; unfold storeO at h
  simp only [forceK_eq, writeAt_eqO] at h
  split at h
  · rename_i b o
    cases hp with
    | ptr hb =>
      rename_i r
      split at h
      · rename_i cs e ro n hk hn
        split at h
        · rename_i hc
          simp only [Bool.and_eq_true, decide_eq_true_eq, Bool.not_eq_true', beq_iff_eq] at hc
          obtain ⟨⟨⟨⟨c1, c2⟩, c3⟩, c4⟩, c5⟩ := hc
          cases h
          have hcl : LRel φ v.cells.toList v'.cells.toList := by
            cases hv
            case agg hx ex => exact ⟨hx, ex⟩
            case junk => simp [Value.cells, cellish] at c4
            all_goals exact LRel.cons (by constructor <;> assumption) (LRel.nil φ)
          obtain ⟨w', g1, g2, g3⟩ := store_cells (P := P) hb c1 v.cells.toList v'.cells.toList S w cs e ro o 0 good hk c2 hcl c4 (by omega)
          refine ⟨w', ?_, g2, g3⟩
          unfold Instr.storeAt storeVar
          have hsz : v'.cells.size = n := by have := hcl.1; simp at this c3; omega
          simp [Instr.sureAddr, run_sizeT hn, hsz, g1]
        · cases h
      · rename_i cs e ro kd sz L n hk hn
        split at h
        · rename_i kd2 m
          split at h
          · rename_i hc
            simp only [Bool.and_eq_true, decide_eq_true_eq] at hc
            obtain ⟨⟨⟨c1, rfl⟩, rfl⟩, c4⟩ := hc
            cases h
            cases hv
            obtain ⟨c', w1, w2, w3, w4⟩ := good.buf hk hb
            have ho : o < c'.size := by
              have := w2 o _ (List.getElem?_eq_getElem c4)
              have := (List.getElem?_eq_some_iff.1 this).1
              simp at this
              omega
            have hbl : b < S.length := (List.getElem?_eq_some_iff.1 hk).1
            have hold : c'[o]? = some (.int kd2 L[o]) := by
              have := w2 o _ (List.getElem?_eq_getElem c4)
              simpa using this
            have hcell : w.cell? ⟨r, o, none⟩ = some (.int kd2 L[o]) := by rw [cell_of_heap w1]; exact hold
            have hfz : w.frozen? ⟨r, o, none⟩ = false := by simp [World.frozen?, w1]
            have hheap : ∀ s, (w.setCell ⟨r, o, none⟩ (.int kd2 m)).heap[s]? = if s = r then some (.cells (c'.setIfInBounds o (.int kd2 m)) e) else w.heap[s]? := by
              intro s
              simp only [World.setCell, Array.getElem?_modify]
              by_cases hs : s = r
              · subst hs; simp [w1]
              · rw [if_neg (by omega), if_neg hs]
            obtain ⟨_, _, _, b1, b2⟩ := good.blk b _ r hk hb
            obtain ⟨g2, g3⟩ := good.turn (fl := fl) (w' := w.setCell ⟨r, o, none⟩ (.int kd2 m)) (k := ⟨cs, e, ro, some (.buf kd2 sz (L.set o m))⟩) (o := .cells (c'.setIfInBounds o (.int kd2 m)) e) hbl hb c1
              ⟨_, rfl, fun i q hq => by
                rw [List.getElem?_set] at hq
                by_cases hi : o = i
                · subst hi
                  rw [if_pos rfl, if_pos c4] at hq
                  cases hq
                  simp [ho]
                · rw [if_neg hi] at hq
                  have := w2 i q hq
                  rw [Nat.zero_add] at this
                  simp only [Array.toList_setIfInBounds]
                  rw [List.getElem?_set_ne hi]
                  exact this, b2.2⟩ (fun d => d.not hk (by simp)) ⟨w3, _, _, _, by rw [hheap, if_pos rfl], by simpa using w4⟩ hheap (by simp [World.setCell]) rfl rfl rfl
            refine ⟨_, ?_, g2, g3⟩
            unfold Instr.storeAt storeVar
            have hst : (Go.store ⟨r, o, none⟩ (.int kd2 m)).run P w = .ok () (w.setCell ⟨r, o, none⟩ (.int kd2 m)) := by simp [Go.store, Sem.run, hcell, hfz]
            have hadd : (⟨r, o, none⟩ : Addr).add 0 = ⟨r, o, none⟩ := by unfold Addr.add; rfl
            simp [Instr.sureAddr, run_sizeT hn, Value.cells, storeCells, hadd, hst]
          · cases h
        · cases h
      · cases h
  · cases h
end
end Go.Proofs.XX.Vm
/- A small evaluator over a shadow heap, part 4: an operation that is evaluated is run so. -/
namespace Go.Proofs.XX.Vm
open Go Go.RowKit

section
variable {P : Program} {w : World}

theorem VRel.cells {φ : Ren} {v v' : Value} (h : VRel φ v v') (hj : isJ v = false) : LRel φ v.cells.toList v'.cells.toList := by
  cases h
  case agg hx ex => exact ⟨hx, ex⟩
  case junk => cases hj
  all_goals exact LRel.cons (by constructor <;> assumption) (LRel.nil φ)

/-- Optional operands that say the same. -/
def ORel (φ : Ren) : Option Value → Option Value → Prop
  | none, none => True
  | some v, some v' => VRel φ v v'
  | _, _ => False
theorem bound_rel {φ : Ren} {d : Nat} {lo lo' : Option Value} {q : Bool × Nat} (h : ORel φ lo lo') (hb : bound d lo = some q) : lo' = lo := by
  cases lo with
  | none => cases lo' with
    | none => rfl
    | some _ => exact h.elim
  | some v =>
    cases lo' with
    | none => exact h.elim
    | some v' =>
      cases v <;> simp only [bound] at hb <;> first | (cases hb; done) | skip
      have h' : VRel φ _ v' := h
      cases h'
      rfl
theorem run_bound {v : Value} {d i y : Nat} {c : BoundsCode} (h : bound d (some v) = some (true, i)) (hy : i ≤ y) : (Instr.sliceBound v y c).run P w = .ok i w := by
  cases v <;> simp only [bound] at h <;> first | (cases h; done) | skip
  rename_i k n
  simp only [Option.some.injEq, Prod.mk.injEq, decide_eq_true_eq] at h
  obtain ⟨h1, rfl⟩ := h
  have : 0 ≤ n ∧ n ≤ (y : Int) := ⟨h1, by omega⟩
  simp [Instr.sliceBound, asIntOf, this]
theorem run_sliceE {φ : Ren} {t e : TypeId} {sz b off c : Nat} {v : Value} {lo hi mx lo' hi' mx' : Option Value} {a' : Addr} (hu : P.underlying t = some (.slice e)) (hz : sizeT P e = some sz) (hlo : ORel φ lo lo') (hhi : ORel φ hi hi') (hmx : ORel φ mx mx') (hcu : c ≠ unk)
    (h : sliceW sz b off 0 c lo hi mx = some (true, v)) :
    ∃ v', (Instr.sliceAt t (.slice (some a') 0 c) lo' hi' mx').run P w = .ok v' w ∧ VRel φ v v' := by
  unfold sliceW at h
  split at h
  · rename_i t1 l h1
    rw [bound_rel hlo h1]
    split at h
    · rename_i t2 hh h2
      rw [bound_rel hhi h2]
      have lorun : ∀ code, t1 = true → l = 0 → hh = 0 → (match lo with
          | some v => Instr.sliceBound v hh code
          | none => pure 0 : Sem Nat).run P w = .ok 0 w := by
        intro code ht hl hhz
        subst ht hl hhz
        cases lo with
        | none => rfl
        | some v => exact run_bound h1 (Nat.le_refl _)
      split at h
      · have em : mx' = none := by
          cases mx' with
          | none => rfl
          | some _ => exact hmx.elim
        rw [em]
        simp only [Option.some.injEq, Prod.mk.injEq, Bool.and_eq_true, Nat.ble_eq, Bool.or_eq_true, Nat.beq_eq, Nat.blt_eq] at h
        obtain ⟨⟨⟨⟨⟨rfl, rfl⟩, g1⟩, g2⟩, g3⟩, rfl⟩ := h
        have l0 : l = 0 := by omega
        have h0 : hh = 0 := by omega
        subst l0 h0
        have hrun : (Instr.sliceBounds true 0 c lo hi none).run P w = .ok (0, 0, c) w := by
          cases hi with
          | none =>
            cases lo with
            | none => rfl
            | some v => simp [Instr.sliceBounds, run_bound h1 (Nat.le_refl _)]
          | some hv =>
            have e2 := run_bound (P := P) (w := w) (y := c) (c := .sliceAcap) h2 (by omega)
            cases lo with
            | none => simp [Instr.sliceBounds, e2]
            | some v => simp [Instr.sliceBounds, e2, run_bound h1 (Nat.le_refl _)]
        refine ⟨.slice (some a') 0 c, ?_, ?_⟩
        · simp only [Instr.sliceAt, Instr.slice, Sem.run_bind, run_underlying hu, Result.andThen_ok, hrun, run_sizeT hz, Sem.run_pure]
          simp [Addr.add]
        · have : (bif Nat.beq c unk then unk else c - 0) = c := by
            cases hq : Nat.beq c unk with
            | true => exact (Nat.eq_of_beq_eq_true hq).symm
            | false => rfl
          rw [this]
          exact .empty _ _ _ hcu
      · rename_i mv
        split at h
        · rename_i t3 m h3
          rw [bound_rel hmx h3]
          split at h
          · cases h
          · rename_i hv
            simp only [Option.some.injEq, Prod.mk.injEq, Bool.and_eq_true, Nat.ble_eq, Bool.or_eq_true, Nat.beq_eq, Nat.blt_eq] at h
            obtain ⟨⟨⟨⟨⟨⟨⟨rfl, rfl⟩, rfl⟩, g1⟩, g2⟩, g3⟩, g4⟩, rfl⟩ := h
            have l0 : l = 0 := by omega
            have h0 : hh = 0 := by omega
            have m0 : m = 0 := by omega
            subst l0 h0 m0
            have e3 := run_bound (P := P) (w := w) (y := c) (c := .slice3Acap) h3 (by omega)
            have e2 := run_bound (P := P) (w := w) (y := 0) (c := .slice3B) h2 (by omega)
            have hrun : (Instr.sliceBounds true 0 c lo (some hv) (some mv)).run P w = .ok (0, 0, 0) w := by
              cases lo with
              | none => simp [Instr.sliceBounds, e2, e3]
              | some v => simp [Instr.sliceBounds, e2, e3, run_bound h1 (Nat.le_refl _)]
            refine ⟨.slice (some a') 0 0, ?_, .empty _ _ _ (by decide)⟩
            simp only [Instr.sliceAt, Instr.slice, Sem.run_bind, run_underlying hu, Result.andThen_ok, hrun, run_sizeT hz, Sem.run_pure]
            simp
        · cases h
    · cases h
  · cases h
theorem run_sliceC {φ : Ren} {t : TypeId} {x x' v : Value} {lo hi mx lo' hi' mx' : Option Value} (hx : VRel φ x x') (hlo : ORel φ lo lo') (hhi : ORel φ hi hi') (hmx : ORel φ mx mx') (h : sliceC P t x lo hi mx = some (true, v)) :
    ∃ v', (Instr.sliceAt t x' lo' hi' mx').run P w = .ok v' w ∧ VRel φ v v' := by
  unfold sliceC at h
  split at h
  · rename_i e hu
    split at h
    · rename_i sz hz
      split at h
      case isFalse => cases h
      rename_i hsz1
      rw [Nat.ble_eq] at hsz1
      split at h
      · rename_i b off n c
        have hxc : (∃ (r c' : Nat), x' = .slice (some ⟨r, off, none⟩) n c' ∧ φ b = some r ∧ (c' = c ∨ c = unk) ∧ n ≤ c' ∧ CapOk φ r off c c') ∨ (∃ a' : Addr, c ≠ unk ∧ n = 0 ∧ x' = .slice (some a') 0 c) := by
          cases hx with
          | slice hb hc hn hk => exact .inl ⟨_, _, rfl, hb, hc, hn, hk⟩
          | empty a a' c hcu => exact .inr ⟨_, hcu, rfl, rfl⟩
        rcases hxc with ⟨r, c', rfl, hb, hc, hn, hk⟩ | ⟨a', hcu, rfl, rfl⟩
        case inr => exact run_sliceE hu hz hlo hhi hmx hcu h
        case inl =>
          unfold sliceW at h
          split at h
          · rename_i t1 l h1
            rw [bound_rel hlo h1]
            split at h
            · rename_i t2 hh h2
              rw [bound_rel hhi h2]
              have lowrun : ∀ (tt : Bool) (code : BoundsCode), t1 = true → l ≤ hh → (match lo with
                  | some v => Instr.sliceBound v hh code
                  | none => pure 0 : Sem Nat).run P w = .ok l w := by
                intro tt code ht hl
                subst ht
                cases lo with
                | none => simp only [bound, Option.some.injEq, Prod.mk.injEq, true_and] at h1; subst h1; rfl
                | some v => exact run_bound h1 hl
              split at h
              · have em : mx' = none := by
                  cases mx' with
                  | none => rfl
                  | some _ => exact hmx.elim
                rw [em]
                simp only [Option.some.injEq, Prod.mk.injEq, Bool.and_eq_true, Nat.ble_eq, Bool.or_eq_true, Nat.beq_eq, Nat.blt_eq] at h
                obtain ⟨⟨⟨⟨⟨rfl, rfl⟩, g1⟩, g2⟩, g3⟩, rfl⟩ := h
                have hrun : (Instr.sliceBounds true n c' lo hi none).run P w = .ok (l, hh, c') w := by
                  cases hi with
                  | none =>
                    simp only [bound, Option.some.injEq, Prod.mk.injEq, true_and] at h2
                    subst h2
                    simp only [Instr.sliceBounds, Sem.run_bind, Sem.run_pure, Result.andThen_ok]
                    have := lowrun true .sliceB rfl g1
                    cases lo with
                    | none => simp only [bound, Option.some.injEq, Prod.mk.injEq, true_and] at h1; subst h1; rfl
                    | some v => simp [run_bound h1 g1]
                  | some hv =>
                    have e2 := run_bound (P := P) (w := w) (y := c') (c := .sliceAcap) h2 (by omega)
                    cases lo with
                    | none => simp only [bound, Option.some.injEq, Prod.mk.injEq, true_and] at h1; subst h1; simp [Instr.sliceBounds, e2]
                    | some v => simp [Instr.sliceBounds, e2, run_bound h1 g1]
                refine ⟨.slice (some ⟨r, off + l * sz, none⟩) (hh - l) (c' - l), ?_, .slice hb ?_ (by omega) ?_⟩
                · simp only [Instr.sliceAt, Instr.slice, Sem.run_bind, run_underlying hu, Result.andThen_ok, hrun, run_sizeT hz, Sem.run_pure]
                  by_cases hm : c' = l
                  · have : l = 0 := by omega
                    subst this
                    simp [hm]
                  · simp [hm, Addr.add]
                · rcases hc with h4 | h4
                  · subst h4
                    cases hq : Nat.beq c' unk with
                    | true => exact .inr rfl
                    | false => exact .inl rfl
                  · subst h4; exact .inr rfl
                · intro hne
                  obtain ⟨k1, k3⟩ := hk hne
                  refine ⟨by omega, fun e1 e2 => ?_⟩
                  have hl0 : l = 0 := by
                    rcases Nat.mul_eq_zero.1 (show l * sz = 0 by omega) with h | h
                    · exact h
                    · omega
                  subst hl0
                  have hcu : c = unk := by
                    cases hq : Nat.beq c unk with
                    | true => exact Nat.eq_of_beq_eq_true hq
                    | false =>
                      rw [hq] at e1
                      rcases hc with h5 | h5
                      · have e1' : c - 0 = unk := e1
                        omega
                      · exact h5
                  exact k3 hcu (by omega)
              · rename_i mv
                split at h
                · rename_i t3 m h3
                  rw [bound_rel hmx h3]
                  split at h
                  · cases h
                  · rename_i hv
                    simp only [Option.some.injEq, Prod.mk.injEq, Bool.and_eq_true, Nat.ble_eq, Bool.or_eq_true, Nat.beq_eq, Nat.blt_eq] at h
                    obtain ⟨⟨⟨⟨⟨⟨⟨rfl, rfl⟩, rfl⟩, g1⟩, g2⟩, g3⟩, g4⟩, rfl⟩ := h
                    have e3 := run_bound (P := P) (w := w) (y := c') (c := .slice3Acap) h3 (by omega)
                    have e2 := run_bound (P := P) (w := w) (y := m) (c := .slice3B) h2 g2
                    have hrun : (Instr.sliceBounds true n c' lo (some hv) (some mv)).run P w = .ok (l, hh, m) w := by
                      cases lo with
                      | none => simp only [bound, Option.some.injEq, Prod.mk.injEq, true_and] at h1; subst h1; simp [Instr.sliceBounds, e2, e3]
                      | some v => simp [Instr.sliceBounds, e2, e3, run_bound h1 g1]
                    refine ⟨.slice (some ⟨r, off + l * sz, none⟩) (hh - l) (m - l), ?_, .slice hb (.inl rfl) (by omega) (fun hne => by obtain ⟨k1, _⟩ := hk hne; exact ⟨by omega, fun e1 _ => by omega⟩)⟩
                    simp only [Instr.sliceAt, Instr.slice, Sem.run_bind, run_underlying hu, Result.andThen_ok, hrun, run_sizeT hz, Sem.run_pure]
                    by_cases hm : m = l
                    · have : l = 0 := by omega
                      subst this
                      simp [hm]
                    · simp [hm, Addr.add]
                · cases h
            · cases h
          · cases h
      · cases h
    · cases h
  · cases h

theorem intsOf_get {kd : IntKind} : ∀ {l : List Value} {L : List Int}, intsOf kd l = some L → ∀ (i : Nat) (n : Int), L[i]? = some n → l[i]? = some (.int kd n)
  | [], L, h, i, n, hn => by cases h; cases hn
  | v :: l, L, h, i, n, hn => by
    unfold intsOf at h
    split at h
    · rename_i e; cases e
    · rename_i k m l' e
      cases e
      split at h
      · rename_i hk
        subst hk
        split at h
        · rename_i L' hL
          cases h
          cases i with
          | zero => simp at hn; subst hn; rfl
          | succ i => exact intsOf_get hL i n (by simpa using hn)
        · cases h
      · cases h
    · cases h
theorem sliceInts_world {φ : Ren} {S : List Blk} (good : Good φ S w) {sz b off n c r : Nat} {kd : IntKind} {L : List Int} (h : sliceInts S sz (.slice (some ⟨b, off, none⟩) n c) = some (true, kd, L)) (hb : φ b = some r) :
    L.length = n * sz ∧ ∀ j u, (L.map (Value.int kd))[j]? = some u → w.cell? ((⟨r, off, none⟩ : Addr).add j) = some u := by
  have fin : ∀ (lo : Nat) (L0 : List Int) (cw : Array Value) (e0 : TypeId) (fz : Nat × Nat), w.heap[r]? = some (.cells cw e0 fz) → (∀ (i : Nat) (n : Int), L0[i]? = some n → cw.toList[lo + i]? = some (.int kd n)) → insideI lo L0 off (n * sz) = true → L = (L0.drop (off - lo)).take (n * sz) →
      L.length = n * sz ∧ ∀ j u, (L.map (Value.int kd))[j]? = some u → w.cell? ((⟨r, off, none⟩ : Addr).add j) = some u := by
    intro lo L0 cw e0 fz w1 w2 hin hL
    subst hL
    obtain ⟨i1, i2⟩ := insideI_spec hin
    refine ⟨by simp only [List.length_take, List.length_drop]; omega, fun j u hj => ?_⟩
    rw [List.getElem?_map] at hj
    cases hq : ((L0.drop (off - lo)).take (n * sz))[j]? with
    | none => rw [hq] at hj; cases hj
    | some m =>
      rw [hq] at hj
      cases hj
      have hq2 := take_get hq
      rw [List.getElem?_drop] at hq2
      have := w2 _ _ hq2
      rw [Addr.add_lit, cell_of_heap w1]
      rw [show lo + (off - lo + j) = off + j by omega] at this
      simpa using this
  simp only [sliceInts_eqO, sliceIntsO] at h
  split at h
  · rename_i cs0 e0 ro kd0 lo L0 hk
    simp only [Option.some.injEq, Prod.mk.injEq] at h
    obtain ⟨hin, rfl, hL⟩ := h
    obtain ⟨cw, fz, w1, w2, _⟩ := good.ints hk hb
    exact fin lo L0 cw e0 fz w1 w2 hin hL.symm
  · rename_i cs0 e0 ro kd0 sz0 L0 hk
    simp only [Option.some.injEq, Prod.mk.injEq] at h
    obtain ⟨hin, rfl, hL⟩ := h
    obtain ⟨cw, w1, w2, _⟩ := good.buf hk hb
    exact fin 0 L0 cw e0 (0, 0) w1 w2 hin hL.symm
  · rename_i cs e0 ro hk
    split at h
    · rename_i L0 hi
      simp only [Option.some.injEq, Prod.mk.injEq] at h
      obtain ⟨hin, rfl, hL⟩ := h
      obtain ⟨cw, fz, w1, w2, _⟩ := good.cells hk hb
      refine fin 0 L0 cw e0 fz w1 (fun i m hm => ?_) hin hL.symm
      have h1 := intsOf_get hi i m hm
      obtain ⟨v', h2, h3⟩ := w2.get h1
      cases h3
      rw [Nat.zero_add]
      exact take_get h2
    · cases h
  · cases h
theorem run_appendP {φ : Ren} {fl : Nat} {S S' : List Blk} (good : Good φ S w) (hf : Fresh φ S.length S'.length) {argTypes : Array TypeId} {ty : TypeId} {d d' s s' v : Value} (hd : VRel φ d d') (hs : VRel φ s s') (h : appendP P S argTypes.toList d s = some (v, S')) :
    ∃ v' w' ψ, (Builtin.append_ argTypes ty #[d', s']).run P w = .ok v' w' ∧ VRel ψ v v' ∧ Good ψ S' w' ∧ Step fl φ S w ψ S' w' := by
  rw [appendP_eqO] at h; unfold appendPO at h
  simp only [forceK_eq] at h
  split at h
  · rename_i dv nv k hc
    rw [appendC_eqO] at hc; unfold appendCO at hc
    split at hc
    · rename_i t t2 hat
      split at hc
      · rename_i htt
        subst htt
        have hat' : argTypes = #[t, t] := Array.toList_inj.1 hat
        subst hat'
        split at hc
        · rename_i e hu
          split at hc
          · rename_i i hi
            split at hc
            · rename_i z hz
              split at hc
              · rename_i hcond
                simp only [Bool.and_eq_true, Nat.beq_eq, Nat.ble_eq] at hcond
                obtain ⟨⟨c1, c2⟩, c3⟩ := hcond
                split at hc
                · rename_i d0
                  split at hc
                  · rename_i t1 kd L hsl
                    split at hc
                    · rename_i s0 n c
                      simp only [Option.some.injEq, Prod.mk.injEq, Bool.and_eq_true, Nat.ble_eq] at hc
                      obtain ⟨⟨rfl, c4⟩, rfl, rfl, rfl⟩ := hc
                      have hsv : (s0 = none ∧ n = 0) ∨ ∃ b off, s0 = some ⟨b, off, none⟩ := by
                        rw [sliceInts_eqO] at hsl; unfold sliceIntsO at hsl
                        split at hsl
                        · rename_i heq; cases heq; exact .inl ⟨rfl, rfl⟩
                        · rename_i b off n' c' heq; cases heq; exact .inr ⟨_, _, rfl⟩
                        · cases hsl
                      rcases hsv with ⟨rfl, rfl⟩ | ⟨b, off, rfl⟩
                      · cases hs with
                        | nilSlice =>
                          simp only [lenV, ↓reduceIte] at h
                          cases h
                          refine ⟨d', w, φ, ?_, hd, good, Step.refl _ _ _ _⟩
                          cases hd with
                          | nilSlice => simp [Builtin.append_, run_underlying hu, sizeOf, typeInfo, hi, Builtin.lenOf, Builtin.firstCells]
                          | empty b1 b2 d1 => simp [Builtin.append_, run_underlying hu, sizeOf, typeInfo, hi, Builtin.lenOf, Builtin.firstCells, loadCells, loadCellsFrom, storeCells]
                          | slice hdb hdc hdn hdk =>
                            rename_i rd od sd cd
                            have hcd : cd = 0 := by rcases hdc with rfl | h; rfl; cases h
                            subst hcd
                            simp [Builtin.append_, run_underlying hu, sizeOf, typeInfo, hi, Builtin.lenOf, Builtin.firstCells, loadCells, loadCellsFrom, storeCells]
                      cases hs with
                      | empty a1 a2 c1 =>
                        simp only [lenV, ↓reduceIte] at h
                        cases h
                        refine ⟨d', w, φ, ?_, hd, good, Step.refl _ _ _ _⟩
                        cases hd with
                        | nilSlice => simp [Builtin.append_, run_underlying hu, sizeOf, typeInfo, hi, Builtin.lenOf, Builtin.firstCells, loadCells, loadCellsFrom]
                        | empty b1 b2 d1 => simp [Builtin.append_, run_underlying hu, sizeOf, typeInfo, hi, Builtin.lenOf, Builtin.firstCells, loadCells, loadCellsFrom, storeCells]
                        | slice hdb hdc hdn hdk =>
                          rename_i rd od sd cd
                          have hcd : cd = 0 := by rcases hdc with rfl | h; rfl; cases h
                          subst hcd
                          simp [Builtin.append_, run_underlying hu, sizeOf, typeInfo, hi, Builtin.lenOf, Builtin.firstCells, loadCells, loadCellsFrom, storeCells]
                      | slice hb hcs hns hks =>
                            rename_i r cc
                            obtain ⟨hlen, hnews⟩ := sliceInts_world good hsl hb
                            simp only [lenV] at h
                            by_cases h0 : n = 0
                            · subst h0
                              simp only [↓reduceIte] at h
                              cases h
                              refine ⟨d', w, φ, ?_, hd, good, Step.refl _ _ _ _⟩
                              cases hd with
                              | nilSlice => simp [Builtin.append_, run_underlying hu, sizeOf, typeInfo, hi, Builtin.lenOf, Builtin.firstCells, loadCells, loadCellsFrom]
                              | empty b1 b2 d1 => simp [Builtin.append_, run_underlying hu, sizeOf, typeInfo, hi, Builtin.lenOf, Builtin.firstCells, loadCells, loadCellsFrom, storeCells]
                              | slice hdb hdc hdn hdk =>
                                rename_i rd od sd cd
                                have hcd : cd = 0 := by rcases hdc with rfl | h; rfl; cases h
                                subst hcd
                                simp [Builtin.append_, run_underlying hu, sizeOf, typeInfo, hi, Builtin.lenOf, Builtin.firstCells, loadCells, loadCellsFrom, storeCells]
                            · simp only [h0, ↓reduceIte] at h
                              cases h
                              have hgood : Good φ S w.drew := ⟨good.blk, good.low, good.inj, good.zero, good.room⟩
                              have hnn : φ S.length = none := hf _ (Nat.le_refl _) (by simp)
                              have h63 : ((0 + n : Nat) : Int) ≤ 9223372036854775807 := by omega
                              have hfit0 : n * i.bytes ≤ 140737488355328 := by
                                have := Nat.mul_le_mul c4 c3
                                omega
                              have hz0 : ∀ k, (Builtin.zeroCells z.cells k).size = k * i.size := fun k => by rw [size_zeroCells, c1]
                              have fin : ∀ cells : Array Value, (∃ rest : Array Value, cells = (L.map (Value.int kd)).toArray ++ rest) → ∀ cap, n ≤ cap → cap < unk → cells.size = cap * i.size →
                                  ∃ ψ, VRel ψ (.slice (some ⟨S.length, 0, none⟩) n unk) (.slice (some ⟨w.heap.size, 0, none⟩) n cap) ∧ Good ψ (S ++ [⟨[], e, false, some (.buf kd i.size L)⟩]) (w.drew.alloc (.cells cells e)) ∧
                                    Step fl φ S w ψ (S ++ [⟨[], e, false, some (.buf kd i.size L)⟩]) (w.drew.alloc (.cells cells e)) := by
                                rintro cells ⟨rest, rfl⟩ cap hcap hlt hcs
                                obtain ⟨g1, g2⟩ := hgood.newBuf fl hnn (k := ⟨[], e, false, some (.buf kd i.size L)⟩) (c := cap) (cells := (L.map (Value.int kd)).toArray ++ rest) rfl (by omega) hcs ⟨_, rfl, fun j m hj => by
                                  rw [Array.toList_append, List.getElem?_append_left (by
                                    have := (List.getElem?_eq_some_iff.1 hj).1
                                    simpa using this)]
                                  rw [List.toList_toArray, List.getElem?_map, hj]; rfl, c2⟩
                                have hcp : (bufRen φ S.length w.drew.heap.size cap).cap w.heap.size = cap := by unfold bufRen; simp
                                exact ⟨_, .slice (by unfold bufRen; simp) (.inr rfl) hcap (fun _ => ⟨hlt, fun _ _ => hcp.symm⟩), g1, ⟨g2.ext, g2.caps, g2.dom, g2.len, g2.dead, g2.keep, g2.frame, g2.size, g2.os, g2.tape, g2.output⟩⟩
                              have hmax : ∀ c, grownCap w n c e < unk := fun c => Nat.lt_of_le_of_lt (grownCap_le_maxLen w n c e (by unfold maxLen; omega)) (by decide)
                              have hsz1 : ((L.map (Value.int kd)).toArray ++ Builtin.zeroCells z.cells (grownCap w n 0 e - n)).size = grownCap w n 0 e * i.size := by
                                have := grownCap_ge w n 0 e
                                rw [Array.size_append, hz0, List.size_toArray, List.length_map, hlen, ← Nat.add_mul, show n + (grownCap w n 0 e - n) = grownCap w n 0 e by omega]
                              cases hd with
                              | nilSlice =>
                                have hr := run_append_nil (P := P) w t ty e i z hu hi hz ⟨r, off, none⟩ n cc _ (by simpa using hlen) hnews (by omega) (by omega) (by omega)
                                obtain ⟨ψ, f1, f2, f3⟩ := fin _ ⟨Builtin.zeroCells z.cells (grownCap w n 0 e - n), rfl⟩ _ (grownCap_ge w n 0 e) (hmax 0) hsz1
                                exact ⟨_, _, ψ, hr, f1, f2, f3⟩
                              | empty b1 b2 d1 =>
                                have hr := run_append_grow (P := P) w t ty e i z hu hi hz b2 0 0 [] (by simp) (by simp) ⟨r, off, none⟩ n cc _ (by simpa using hlen) hnews (by omega) h63 (growslice_fits (by omega) (by simpa using hfit0))
                                rw [Nat.zero_add] at hr
                                obtain ⟨ψ, f1, f2, f3⟩ := fin ([].toArray ++ (L.map (Value.int kd)).toArray ++ Builtin.zeroCells z.cells (grownCap w n 0 e - n)) ⟨Builtin.zeroCells z.cells (grownCap w n 0 e - n), by simp⟩ (grownCap w n 0 e) (grownCap_ge w n 0 e) (hmax 0) (by simpa using hsz1)
                                exact ⟨_, _, ψ, hr, f1, f2, f3⟩
                              | slice hdb hdc hdn hdk =>
                                rename_i rd od sd cd
                                have hcd : cd = 0 := by rcases hdc with rfl | h; rfl; cases h
                                subst hcd
                                have hr := run_append_grow (P := P) w t ty e i z hu hi hz ⟨rd, od, sd⟩ 0 0 [] (by simp) (by simp) ⟨r, off, none⟩ n cc _ (by simpa using hlen) hnews (by omega) h63 (growslice_fits (by omega) (by simpa using hfit0))
                                rw [Nat.zero_add] at hr
                                obtain ⟨ψ, f1, f2, f3⟩ := fin ([].toArray ++ (L.map (Value.int kd)).toArray ++ Builtin.zeroCells z.cells (grownCap w n 0 e - n)) ⟨Builtin.zeroCells z.cells (grownCap w n 0 e - n), by simp⟩ (grownCap w n 0 e) (grownCap_ge w n 0 e) (hmax 0) (by simpa using hsz1)
                                exact ⟨_, _, ψ, hr, f1, f2, f3⟩
                    · cases hc
                  · cases hc
                · cases hc
              · cases hc
            · cases hc
          · cases hc
        · cases hc
      · cases hc
    · cases hc
  · cases h
theorem oneCell_ints {kd : IntKind} {L : List Int} : ∀ u ∈ L.map (Value.int kd), u.oneCell' = true := by
  intro u hu
  obtain ⟨n, _, rfl⟩ := List.mem_map.1 hu
  rfl
theorem run_appendD {φ : Ren} {fl : Nat} {S S' : List Blk} (good : Good φ S w) (hf : Fresh φ S.length S'.length) {argTypes : Array TypeId} {ty : TypeId} {d d' s s' v : Value} (hd : VRel φ d d') (hs : VRel φ s s') (h : appendD P fl S argTypes.toList d s = some (v, S')) :
    ∃ v' w' ψ, (Builtin.append_ argTypes ty #[d', s']).run P w = .ok v' w' ∧ VRel ψ v v' ∧ Good ψ S' w' ∧ Step fl φ S w ψ S' w' := by
  rw [appendD_eqO] at h; unfold appendDO at h
  simp only [forceK_eq] at h
  split at h
  case h_2 => cases h
  rename_i t t2 hat
  split at h
  case isFalse => cases h
  rename_i htt
  subst htt
  have hat' : argTypes = #[t, t] := Array.toList_inj.1 hat
  subst hat'
  split at h
  case h_2 => cases h
  rename_i e hu
  split at h
  case h_2 => cases h
  rename_i i hi
  split at h
  case h_2 => cases h
  rename_i z hz
  split at h
  case isFalse => cases h
  rename_i hcond
  simp only [Bool.and_eq_true, Nat.beq_eq, Nat.ble_eq] at hcond
  obtain ⟨⟨c1, c2⟩, c3⟩ := hcond
  split at h
  case h_2 => cases h
  rename_i b n c
  split at h
  case h_2 => cases h
  rename_i cs0 e2 ro kd sz L hk
  split at h
  case h_2 => cases h
  rename_i kd2 Ls hsl
  split at h
  case h_3 => cases h
  case h_2 =>
    rename_i sa sc
    cases h
    have hle : ∀ k, n ≤ k → n + 0 ≤ k := fun k hk => hk
    cases hd with
    | empty a1 a2 c1 hcu =>
      refine ⟨.slice (some a2) 0 c, w, φ, ?_, .empty _ _ _ hcu, good, Step.refl _ _ _ _⟩
      cases hs <;> simp [Builtin.append_, run_underlying hu, sizeOf, typeInfo, hi, Builtin.lenOf, Builtin.firstCells, loadCells, loadCellsFrom, storeCells]
    | slice hb hcd hnd hkd =>
      refine ⟨_, w, φ, ?_, .slice hb hcd hnd hkd, good, Step.refl _ _ _ _⟩
      cases hs <;> simp [Builtin.append_, run_underlying hu, sizeOf, typeInfo, hi, Builtin.lenOf, Builtin.firstCells, loadCells, loadCellsFrom, storeCells, hnd]
  rename_i sa m sc
  split at h
  case isFalse => cases h
  rename_i hc2
  simp only [Bool.and_eq_true, Nat.beq_eq, Nat.ble_eq, decide_eq_true_eq] at hc2
  obtain ⟨⟨⟨⟨⟨⟨rfl, hfl⟩, rfl⟩, rfl⟩, rfl⟩, hL⟩, hN⟩ := hc2
  cases h
  have hbl : b < S.length := (List.getElem?_eq_some_iff.1 hk).1
  have hn : φ S.length = none := hf _ (Nat.le_refl _) (by simp)
  have hlive : ¬ Dead S b := fun d => d.not hk (by simp)
  obtain ⟨sb, soff, rfl⟩ : ∃ sb soff, sa = ⟨sb, soff, none⟩ := by
    rw [sliceInts_eqO] at hsl; unfold sliceIntsO at hsl
    split at hsl
    · rename_i heq; cases heq
    · rename_i heq; cases heq; exact ⟨_, _, rfl⟩
    · cases hsl
  cases hd with
  | empty a1 a2 c1 hcu => exact absurd rfl hcu
  | slice hb hcd hnd hkd =>
    rename_i r c'
    cases hs with
    | slice hb2 hc2 hn2 hk2 =>
      rename_i r2 cc
      obtain ⟨hlen, hnews⟩ := sliceInts_world good hsl hb2
      obtain ⟨cw, w1, w2, w3, w4⟩ := good.buf hk hb
      obtain ⟨hcu, hcq⟩ := hkd w3
      have hc' : c' = φ.cap r := hcq rfl rfl
      let olds := (L.take (n * i.size)).map (Value.int kd2)
      have holen : olds.length = n * i.size := by simp only [olds, List.length_map, List.length_take]; omega
      have holds : ∀ (j : Nat) (u : Value), olds[j]? = some u → cw.toList[j]? = some u := by
        intro j u hj
        simp only [olds, List.getElem?_map] at hj
        cases hq : (L.take (n * i.size))[j]? with
        | none => rw [hq] at hj; cases hj
        | some q =>
          rw [hq] at hj; cases hj
          have := w2 j q (take_get hq)
          rwa [Nat.zero_add] at this
      have hnl : (Ls.map (Value.int kd2)).length = (m + 1) * i.size := by rw [List.length_map]; exact hlen
      have hnew2 : ∀ (rest : Array Value), BRel φ ⟨[], e2, false, some (.buf kd2 i.size (L.take (n * i.size) ++ Ls))⟩ (.cells ((olds.toArray ++ (Ls.map (Value.int kd2)).toArray) ++ rest) e2) := by
        intro rest
        refine ⟨_, rfl, fun j q hj => ?_, c2⟩
        have hmap : (olds ++ Ls.map (Value.int kd2))[j]? = some (.int kd2 q) := by
          rw [show olds ++ Ls.map (Value.int kd2) = (L.take (n * i.size) ++ Ls).map (Value.int kd2) by simp [olds], List.getElem?_map, hj]; rfl
        rw [Array.toList_append, Array.toList_append, List.toList_toArray, List.toList_toArray, List.getElem?_append_left (List.getElem?_eq_some_iff.1 hmap).1]
        exact hmap
      have hmul : (n + (m + 1)) * i.size = n * i.size + (m + 1) * i.size := Nat.add_mul _ _ _
      by_cases hroom : n + (m + 1) ≤ c'
      · have hfit : n * i.size + (Ls.map (Value.int kd2)).length ≤ cw.size := by
          rw [hnl, ← hmul, w4, ← hc']
          exact Nat.mul_le_mul_right _ hroom
        have hr := run_append_room (P := P) w t ty e2 i hu hi r n c' cw w1 ⟨r2, soff, none⟩ (m + 1) cc _ hnl hnews oneCell_ints hroom hfit
        have htk : cw.toList.take (n * i.size) = olds := by
          refine List.ext_getElem? fun j => ?_
          by_cases hj : j < n * i.size
          · rw [List.getElem?_take, if_pos hj]
            have hq : olds[j]? = some (olds[j]'(by rw [holen]; exact hj)) := List.getElem?_eq_getElem _
            rw [hq]; exact holds j _ hq
          · rw [List.getElem?_take, if_neg hj, List.getElem?_eq_none (by rw [holen]; omega)]
        rw [htk] at hr
        generalize hcells : (olds ++ Ls.map (Value.int kd2) ++ cw.toList.drop (n * i.size + (Ls.map (Value.int kd2)).length)).toArray = cells at hr
        have hce : cells = (olds.toArray ++ (Ls.map (Value.int kd2)).toArray) ++ (cw.toList.drop (n * i.size + (Ls.map (Value.int kd2)).length)).toArray := by rw [← hcells]; simp
        have hcsz : cells.size = φ.cap r * i.size := by
          rw [← w4, hce]
          simp only [Array.size_append, List.size_toArray, List.length_drop, Array.length_toList, holen]
          omega
        have hrl : r < w.heap.size := good.low b r hb
        obtain ⟨g1, g2⟩ := good.adopt (w' := w.setRow r cells) (k := ⟨[], e2, false, some (.buf kd2 i.size (L.take (n * i.size) ++ Ls))⟩) hbl hb hfl hlive hn rfl w3 hcsz (by rw [hce]; exact hnew2 _)
          (fun s => by
            by_cases hs : s = r
            · subst hs; rw [if_pos rfl]; exact setRow_heap w s cw cells e2 _ w1
            · rw [if_neg hs]; exact setRow_other w r s cells hs) (by simp) rfl rfl rfl
        refine ⟨_, _, _, hr, .slice (newRen_new _ _ _) (.inr rfl) hroom (fun _ => ⟨hcu, fun _ _ => hc'⟩), g1, g2⟩
      · have hr := run_append_grow (P := P) w t ty e2 i z hu hi hz ⟨r, 0, none⟩ n c' olds holen (fun j u hj => by
          rw [Addr.add_lit, cell_of_heap w1, Nat.zero_add]
          have := holds j u hj
          simpa using this) ⟨r2, soff, none⟩ (m + 1) cc _ hnl hnews (by omega) (by omega) (growslice_fits (by omega) (by
            have := Nat.mul_le_mul hN c3
            omega))
        have hgood : Good φ S w.drew := ⟨good.blk, good.low, good.inj, good.zero, good.room⟩
        obtain ⟨g1, s1⟩ := hgood.turn (w' := w.drew) (fl := fl) (k := deadBlk) (o := .cells cw e2) hbl hb hfl trivial hlive trivial (fun s => by
          by_cases hs : s = r
          · subst hs; rw [if_pos rfl]; exact w1
          · rw [if_neg hs]) rfl rfl rfl rfl
        have hge := grownCap_ge w (n + (m + 1)) c' e2
        have hlt : grownCap w (n + (m + 1)) c' e2 < unk := Nat.lt_of_le_of_lt (grownCap_le_maxLen w _ c' e2 (by unfold maxLen; omega)) (by decide)
        have hl1 : (S.set b deadBlk).length = S.length := by simp
        obtain ⟨g2, s2⟩ := g1.newBuf fl (by rw [hl1]; exact hn) (k := ⟨[], e2, false, some (.buf kd2 i.size (L.take (n * i.size) ++ Ls))⟩) (c := grownCap w (n + (m + 1)) c' e2)
          (cells := olds.toArray ++ (Ls.map (Value.int kd2)).toArray ++ Builtin.zeroCells z.cells (grownCap w (n + (m + 1)) c' e2 - (n + (m + 1)))) rfl (by omega) (by
            rw [Array.size_append, Array.size_append, size_zeroCells, List.size_toArray, List.size_toArray, holen, hnl, c1, ← hmul, ← Nat.add_mul]
            congr 1
            omega) (hnew2 _)
        rw [hl1] at g2 s2
        have s3 := s1.trans s2 (fun x h1 h2 => hf x h1 (by simpa using h2))
        have hcp : (bufRen φ S.length w.drew.heap.size (grownCap w (n + (m + 1)) c' e2)).cap w.heap.size = grownCap w (n + (m + 1)) c' e2 := by unfold bufRen; simp
        exact ⟨_, _, _, hr, .slice (by unfold bufRen; simp) (.inr rfl) hge (fun _ => ⟨hlt, fun _ _ => hcp.symm⟩), g2, ⟨s3.ext, s3.caps, s3.dom, s3.len, s3.dead, s3.keep, s3.frame, s3.size, s3.os, s3.tape, s3.output⟩⟩
theorem appendD_ext {fl : Nat} {S S' : List Blk} {ats : List TypeId} {d s v : Value} (h : appendD P fl S ats d s = some (v, S')) : S' = S ∨ ∃ b k, fl ≤ b ∧ S' = S.set b deadBlk ++ [k] := by
  rw [appendD_eqO] at h; unfold appendDO at h
  simp only [forceK_eq] at h
  repeat' split at h
  all_goals first
    | (cases h; done)
    | (cases h; exact .inl rfl)
    | (rename_i hc2; cases h; simp only [Bool.and_eq_true, Nat.ble_eq] at hc2; exact .inr ⟨_, _, hc2.1.1.1.1.1.2, rfl⟩)
theorem run_appendZ {φ : Ren} {fl : Nat} {S S' : List Blk} (good : Good φ S w) (hf : Fresh φ S.length S'.length) {argTypes : Array TypeId} {ty : TypeId} {d d' s s' v : Value} (hd : VRel φ d d') (hs : VRel φ s s') (h : appendZ P S argTypes.toList d s = some (v, S')) :
    ∃ v' w' ψ, (Builtin.append_ argTypes ty #[d', s']).run P w = .ok v' w' ∧ VRel ψ v v' ∧ Good ψ S' w' ∧ Step fl φ S w ψ S' w' := by
  rw [appendZ_eqO] at h; unfold appendZO at h
  simp only [forceK_eq] at h
  split at h
  case h_2 => cases h
  rename_i t tn hat
  have hat' : argTypes = #[t, tn] := Array.toList_inj.1 hat
  subst hat'
  split at h
  case h_2 => cases h
  rename_i e hu
  split at h
  case h_2 => cases h
  rename_i kn hun
  split at h
  case h_2 => cases h
  rename_i i hi
  split at h
  case h_2 => cases h
  rename_i z hz
  split at h
  case isFalse => cases h
  rename_i hcond
  simp only [Bool.and_eq_true, Nat.beq_eq, Nat.ble_eq] at hcond
  obtain ⟨⟨c1, c2⟩, c3⟩ := hcond
  split at h
  case h_2 => cases h
  split at h
  case h_2 => cases h
  rename_i kq n
  split at h
  case isFalse => cases h
  rename_i hn
  simp only [Bool.and_eq_true, decide_eq_true_eq] at hn
  obtain ⟨n1, n2⟩ := hn
  split at h
  case h_2 => cases h
  rename_i L hL
  cases h
  cases hs
  have hnn : φ S.length = none := hf _ (Nat.le_refl _) (by simp)
  have hgood : Good φ S w.drew := ⟨good.blk, good.low, good.inj, good.zero, good.room⟩
  obtain ⟨k, rfl⟩ : ∃ k : Nat, n = k := ⟨n.toNat, by omega⟩
  simp only [Int.toNat_natCast] at hL ⊢
  have h0 : 0 < k := by omega
  have hfit : k * i.bytes ≤ 65536 * 4096 := Nat.mul_le_mul (by omega) c3
  obtain ⟨base, hbase, hold⟩ : ∃ base, d' = .slice base 0 0 ∧ (Builtin.firstCells i.size 0 (.slice base 0 0)).run P w.drew = .ok [].toArray w.drew := by
    cases hd with
    | nilSlice => exact ⟨none, rfl, by simp [Builtin.firstCells]⟩
    | empty b1 b2 d1 => exact ⟨_, rfl, by simp [Builtin.firstCells, loadCells, loadCellsFrom]⟩
    | slice hdb hdc hdn hdk =>
      rename_i rd od sd cd
      have hcd : cd = 0 := by rcases hdc with rfl | h; rfl; cases h
      subst hcd
      exact ⟨_, rfl, by simp [Builtin.firstCells, loadCells, loadCellsFrom]⟩
  subst hbase
  have hr := Lib.run_append_grow_zeros (P := P) w t tn ty e i z kq kn hu hun hi hz base 0 0 [] hold k h0 (by omega) (by omega) (by omega) (by omega) (growslice_fits (by omega) (by rw [Nat.zero_add]; omega))
  rw [Nat.zero_add] at hr
  have hge := grownCap_ge w k 0 e
  have hlt : grownCap w k 0 e < unk := Nat.lt_of_le_of_lt (grownCap_le_maxLen w k 0 e (by unfold maxLen; omega)) (by decide)
  have hz0 : ∀ m, (Builtin.zeroCells z.cells m).size = m * i.size := fun m => by rw [size_zeroCells, c1]
  obtain ⟨g2, s2⟩ := hgood.newBuf fl hnn (k := ⟨[], e, false, some (.buf (kindOf z.cells.toList) i.size L)⟩) (c := grownCap w k 0 e)
    (cells := [].toArray ++ Builtin.zeroCells z.cells k ++ Builtin.zeroCells z.cells (grownCap w k 0 e - k)) rfl (by omega) (by
      rw [Array.size_append, Array.size_append, hz0, hz0, List.size_toArray, List.length_nil, Nat.zero_add, ← Nat.add_mul]
      congr 1
      omega) ⟨_, rfl, fun j q hj => by
      have h1 := intsOf_get hL j q hj
      rw [Array.toList_append, Array.toList_append, List.append_assoc, List.toList_toArray, List.nil_append, List.getElem?_append_left (List.getElem?_eq_some_iff.1 h1).1]
      exact h1, c2⟩
  have hcp : (bufRen φ S.length w.drew.heap.size (grownCap w k 0 e)).cap w.heap.size = grownCap w k 0 e := by unfold bufRen; simp
  exact ⟨_, _, _, hr, .slice (by unfold bufRen; simp) (.inr rfl) hge (fun _ => ⟨hlt, fun _ _ => hcp.symm⟩), g2, ⟨s2.ext, s2.caps, s2.dom, s2.len, s2.dead, s2.keep, s2.frame, s2.size, s2.os, s2.tape, s2.output⟩⟩
theorem appendZ_app {S S' : List Blk} {ats : List TypeId} {d s v : Value} (h : appendZ P S ats d s = some (v, S')) : ∃ k, S' = S ++ [k] := by
  rw [appendZ_eqO] at h; unfold appendZO at h
  simp only [forceK_eq] at h
  repeat' split at h
  all_goals first
    | (cases h; done)
    | (cases h; exact ⟨_, rfl⟩)
theorem appendP_app {S S' : List Blk} {ats : List TypeId} {d s v : Value} (h : appendP P S ats d s = some (v, S')) : S' = S ∨ ∃ k, S' = S ++ [k] := by
  rw [appendP_eqO] at h; unfold appendPO at h
  simp only [forceK_eq] at h
  split at h
  · split at h
    · cases h; exact .inl rfl
    · cases h; exact .inr ⟨_, rfl⟩
  · cases h

theorem setFold_rel {φ : Ren} {off : Nat} : ∀ (l l' : List Value) (k : Nat) (cs cs' : Array Value), LRel φ l l' → LRel φ cs.toList cs'.toList →
    LRel φ ((l.zipIdx k).foldl (fun cs (x : Value × Nat) => cs.setIfInBounds (off + x.2) x.1) cs).toList ((l'.zipIdx k).foldl (fun cs (x : Value × Nat) => cs.setIfInBounds (off + x.2) x.1) cs').toList
  | [], [], _, _, _, _, h => h
  | v :: l, v' :: l', k, cs, cs', hl, h => by
    simp only [List.zipIdx_cons, List.foldl_cons]
    exact setFold_rel l l' (k + 1) _ _ hl.tail (by simpa using h.set hl.head (off + k))
  | [], _ :: _, _, _, _, hl, _ => by simp [LRel] at hl
  | _ :: _, [], _, _, _, hl, _ => by simp [LRel] at hl
theorem fill_rel {φ : Ren} {place : Nat → Option (Nat × Nat)} : ∀ (is : List Nat) (vs vs' : List Value) (cs cs' r : Array Value), LRel φ vs vs' → vs.any isJ = false → LRel φ cs.toList cs'.toList → Instr.fill place cs (is.zip vs) = some r →
    ∃ r', Instr.fill place cs' (is.zip vs') = some r' ∧ LRel φ r.toList r'.toList
  | [], vs, vs', cs, cs', r, _, _, hc, h => by
    simp only [List.zip_nil_left, Instr.fill, Option.some.injEq] at h ⊢
    subst h
    exact ⟨_, rfl, hc⟩
  | i :: is, [], [], cs, cs', r, _, _, hc, h => by
    simp only [List.zip_nil_right, Instr.fill, Option.some.injEq] at h ⊢
    subst h
    exact ⟨_, rfl, hc⟩
  | i :: is, v :: vs, v' :: vs', cs, cs', r, hv, hj, hc, h => by
    simp only [List.any_cons, Bool.or_eq_false_iff] at hj
    simp only [List.zip_cons_cons, Instr.fill] at h ⊢
    cases hp : place i with
    | none => rw [hp] at h; cases h
    | some p =>
      obtain ⟨off, size⟩ := p
      rw [hp] at h
      simp only at h ⊢
      have hcl := VRel.cells hv.head hj.1
      have e1 : v'.cells.size = v.cells.size := by have := hcl.1; simpa using this.symm
      have e2 : cs'.size = cs.size := by have := hc.1; simpa using this.symm
      rw [e1, e2]
      split at h
      · cases h
      · rename_i hn
        rw [if_neg hn]
        refine fill_rel is vs vs' _ _ r hv.tail hj.2 ?_ h
        have key : ∀ c a : Array Value, c.zipIdx.foldl (fun cs (c, j) => cs.setIfInBounds (off + j) c) a = (c.toList.zipIdx 0).foldl (fun cs (x : Value × Nat) => cs.setIfInBounds (off + x.2) x.1) a := by
          intro c a
          rw [← Array.foldl_toList]
          simp
        rw [key, key]
        exact setFold_rel (off := off) v.cells.toList v'.cells.toList 0 cs cs' hcl hc
  | _ :: _, [], _ :: _, _, _, _, hv, _, _, _ => by simp [LRel] at hv
  | _ :: _, _ :: _, [], _, _, _, hv, _, _, _ => by simp [LRel] at hv
theorem run_places : ∀ (fs : List Field) (l : List (Nat × Nat)), placesOf P fs = some l → (fs.mapM fun f => (do pure (f.offset, ← sizeOf f.type) : Sem (Nat × Nat))).run P w = .ok l w
  | [], l, h => by cases h; rfl
  | f :: fs, l, h => by
    simp only [placesOf] at h
    split at h
    · rename_i n hn
      split at h
      · rename_i l2 hl
        cases h
        simp only [List.mapM_cons, Sem.run_bind, run_sizeT hn, Sem.run_pure, Result.andThen_ok, run_places fs l2 hl]
      · cases h
    · cases h
theorem run_buildCells {φ : Ren} {t : TypeId} {is : List Nat} {vs vs' : List Value} {cells : Array Value} (hv : LRel φ vs vs') (hj : vs.any isJ = false) (h : buildCells P t (is.zip vs) = some cells) :
    ∃ cells' : Array Value, (Instr.build t (is.zip vs').toArray).run P w = .ok (.agg cells') w ∧ LRel φ cells.toList cells'.toList := by
  unfold buildCells at h
  split at h
  · rename_i fields hu
    split at h
    · rename_i z hz
      split at h
      · rename_i places hp
        split at h
        case isFalse => cases h
        rename_i hsc
        have hzz : LRel φ z.cells.toList z.cells.toList := list_refl scalar (fun _ => scalar_refl) hsc
        obtain ⟨r', h1, h2⟩ := fill_rel is vs vs' _ z.cells cells hv hj hzz h
        refine ⟨r', ?_, h2⟩
        simp only [Instr.build, Sem.run_bind, run_zeroT hz, Result.andThen_ok, run_underlying hu]
        rw [Array.mapM_eq_mapM_toList]
        simp only [map_eq_pure_bind, Sem.run_bind, run_places _ _ hp, Result.andThen_ok, Sem.run_pure, h1]
      · cases h
    · cases h
  · cases h
/-- What an operation came to. -/
def Came (P : Program) (fl : Nat) (φ : Ren) (S : List Blk) (w : World) (s : Sem Next) (v : Value) (S' : List Blk) : Prop :=
  ∃ v' w' ψ, (s.run P w = .ok (.value v') w' ∨ (s.run P w = .ok .skip w' ∧ v' = undef)) ∧ VRel ψ v v' ∧ Good ψ S' w' ∧ Step fl φ S w ψ S' w'

theorem Came.same {fl : Nat} {φ : Ren} {S : List Blk} {s : Sem Next} {v v' : Value} (good : Good φ S w) (h : s.run P w = .ok (.value v') w) (hv : VRel φ v v') : Came P fl φ S w s v S :=
  ⟨v', w, φ, .inl h, hv, good, Step.refl _ _ _ _⟩

theorem Came.fresh {fl : Nat} {φ : Ren} {S : List Blk} {s : Sem Next} {cs : List Value} {c' : Array Value} {t : TypeId} (good : Good φ S w) (hn : φ S.length = none)
    (h : s.run P w = .ok (.value (.pointer (some ⟨w.heap.size, 0, none⟩))) (w.alloc (.cells c' t))) (hc : LRel φ cs c'.toList) :
    Came P fl φ S w s (.pointer (some ⟨S.length, 0, none⟩)) (S ++ [⟨cs, t, false, none⟩]) := by
  obtain ⟨g1, g2⟩ := good.new fl hn ⟨cs, t, false, none⟩ (.cells c' t) ⟨c', (0, 0), rfl, by rw [List.take_of_length_le (by rw [hc.1]; exact Nat.le_refl _)]; exact hc, fun _ => rfl, fun h => by cases h⟩ rfl
  exact ⟨_, _, _, .inl h, .ptr (newRen_new _ _ _), g1, g2⟩

theorem run_newVar (t : TypeId) (v : Value) : (newVar t v).run P w = .ok ⟨w.heap.size, 0, none⟩ (w.alloc (.cells v.cells t)) := by
  rfl
theorem run_newRow (t : TypeId) (c : Array Value) : (newRow t c).run P w = .ok ⟨w.heap.size, 0, none⟩ (w.alloc (.cells c t)) := rfl

theorem run_fieldP {φ : Ren} {s : TypeId} {f : Nat} {p p' v : Value} (hp : VRel φ p p') (h : fieldP P s f p = some v) : ∃ v', (Instr.fieldAt s p' f).run P w = .ok v' w ∧ VRel φ v v' := by
  unfold fieldP at h
  split at h
  · cases hp with
    | ptr hb =>
      rename_i b r o sp
      split at h
      · rename_i fs hu
        split at h
        · rename_i fd hf
          split at h
          · rename_i n hn
            cases h
            refine ⟨.pointer (some ((⟨r, o, sp⟩ : Addr).add fd.offset)), ?_, ?_⟩
            · simp [Instr.fieldAt, run_underlying hu, hf, Instr.sureAddr, fieldPlace, run_sizeT hn]
            · unfold Addr.add; split
              · exact .ptr hb
              · exact .ptr hb
          · cases h
        · cases h
      · cases h
  · cases h

theorem run_indexP {φ : Ren} {t : TypeId} {x x' ix ix' v : Value} (hx : VRel φ x x') (hi : VRel φ ix ix') (h : indexP P t x ix = some v) :
    ∃ v', (Instr.indexAt t x' ix').run P w = .ok v' w ∧ VRel φ v v' := by
  unfold indexP at h
  split at h
  · rename_i k i
    cases hi
    split at h
    · rename_i len elem a hu
      cases hx with
      | ptr hb =>
        rename_i b r o sp
        split at h
        · rename_i hc
          simp only [Bool.and_eq_true, decide_eq_true_eq] at hc
          split at h
          · rename_i n hn
            cases h
            refine ⟨.pointer (some ((⟨r, o, sp⟩ : Addr).add (i.toNat * n))), ?_, ?_⟩
            · simp [Instr.indexAt, asIntOf, run_underlying hu, Instr.sureAddr, hc, run_sizeT hn]
            · unfold Addr.add; split
              · exact .ptr hb
              · exact .ptr hb
          · cases h
        · cases h
    · rename_i elem a len cap hu
      cases hx with
      | empty a1 a2 c1 =>
        split at h
        · rename_i hc
          simp only [Bool.and_eq_true, decide_eq_true_eq] at hc
          omega
        · cases h
      | slice hb _ _ _ =>
        rename_i b r o sp cc _ _ _
        split at h
        · rename_i hc
          simp only [Bool.and_eq_true, decide_eq_true_eq] at hc
          split at h
          · rename_i n hn
            cases h
            refine ⟨.pointer (some ((⟨r, o, sp⟩ : Addr).add (i.toNat * n))), ?_, ?_⟩
            · simp [Instr.indexAt, asIntOf, run_underlying hu, hc, run_sizeT hn]
            · unfold Addr.add; split
              · exact .ptr hb
              · exact .ptr hb
          · cases h
        · cases h
    · cases h
  · cases h

theorem run_buildSlice {t elem : TypeId} {len : Nat} {parts : Array (Nat × Value)} {cells : Array Value} (h : buildSliceCells P t len parts = some (elem, cells)) :
    (Instr.buildSlice t len parts).run P w = .ok (.slice (some ⟨w.heap.size, 0, none⟩) len len) (w.alloc (.cells cells elem)) := by
  unfold buildSliceCells at h
  split at h
  · rename_i e hu
    split at h
    · rename_i i hi
      split at h
      · cases h
      · rename_i hbig
        split at h
        · rename_i h0
          split at h
          · rename_i hp
            cases h
            simp only [Instr.buildSlice, Sem.run_bind, run_underlying hu, Result.andThen_ok, sizeOf, run_typeInfo w hi, Sem.run_pure, if_neg hbig, if_pos h0, hp, Instr.fill]
            rw [h0]
            have e0 : ∀ g : Nat → Value, Array.map g (Array.range 0) = #[] := fun g => Array.eq_empty_of_size_eq_zero (by simp)
            simp only [e0, run_newRow, Result.andThen_ok]
          · cases h
        · rename_i h0
          split at h
          · rename_i z hz
            split at h
            · rename_i cs hf
              cases h
              simp only [Instr.buildSlice, Sem.run_bind, run_underlying hu, Result.andThen_ok, sizeOf, run_typeInfo w hi, Sem.run_pure, if_neg hbig, if_neg h0, zeroValue, hz]
              simp only [Sem.run_bind, Sem.run_pure, hf]
              simp only [run_newRow, Result.andThen_ok]
            · cases h
          · cases h
    · cases h
  · cases h

theorem run_makeC {t elem : TypeId} {n c : Int} {k1 k2 : IntKind} {cells : Array Value} (h : makeC P t n c = some (elem, cells)) :
    (Instr.makeSlice t (.int k1 n) (.int k2 c)).run P w = .ok (.slice (some ⟨w.heap.size, 0, none⟩) n.toNat c.toNat) (w.alloc (.cells cells elem)) ∧ n.toNat ≤ c.toNat := by
  unfold makeC at h
  split at h
  case h_2 => cases h
  rename_i e hu
  split at h
  case h_2 => cases h
  rename_i i hi
  split at h
  case h_2 => cases h
  rename_i z hz
  split at h
  case isFalse => cases h
  rename_i hc
  simp only [Bool.and_eq_true, decide_eq_true_eq, Nat.ble_eq] at hc
  obtain ⟨⟨⟨h0, h1⟩, h2⟩, h3⟩ := hc
  cases h
  have hp : c.toNat * i.bytes ≤ 65536 * 4096 := Nat.mul_le_mul h2 h3
  have hb : (i.bytes : Int) * c ≤ 281474976710656 := by
    have h5 : (i.bytes : Int) * c = ((c.toNat * i.bytes : Nat) : Int) := by
      rw [Int.natCast_mul, Int.toNat_of_nonneg (by omega), Int.mul_comm]
    omega
  exact ⟨run_make (P := P) w t _ i z hu hi hz k1 k2 n c h0 h1 hb (by omega), by omega⟩

theorem run_fieldV {φ : Ren} {t : TypeId} {f : Nat} {cs : List Value} {cs' : Array Value} {v : Value} (hc : LRel φ cs cs'.toList) (h : fieldV P t f cs = some v) :
    ∃ v', (Instr.field t (.agg cs') f).run P w = .ok v' w ∧ VRel φ v v' := by
  unfold fieldV at h
  split at h
  case h_2 => cases h
  rename_i fields hu
  split at h
  case h_2 => cases h
  rename_i fd hf
  rw [readAt_eqO] at h; unfold readAtO at h
  simp only [forceK_eq] at h
  split at h
  · rename_i ha
    obtain ⟨v', g1, g2⟩ := hc.get h
    refine ⟨v', ?_, g2⟩
    have g1' : cs'[fd.offset]? = some v' := by simpa using g1
    simp [Instr.field, run_underlying hu, hf, asAgg, part, run_isAgg ha, g1']
  · rename_i ha
    split at h
    · rename_i n hn
      split at h
      · rename_i hle
        cases h
        have hr := (hc.drop fd.offset).take n
        refine ⟨.agg (cs'.extract fd.offset (fd.offset + n)), ?_, ?_⟩
        · simp [Instr.field, run_underlying hu, hf, asAgg, part, run_isAgg ha, run_sizeT hn]
        · have he : (cs'.extract fd.offset (fd.offset + n)).toList = (cs'.toList.drop fd.offset).take n := by
            simp [Array.toList_extract, List.extract_eq_take_drop, Nat.add_sub_cancel_left]
          exact .agg (by rw [he]; simpa using hr.1) (by rw [he]; simpa using hr.2)
      · cases h
    · cases h
  · cases h

theorem buildSlice_rel {φ : Ren} {t elem : TypeId} {len : Nat} {is : List Nat} {vs vs' : List Value} {cells : Array Value} (hv : LRel φ vs vs') (hj : vs.any isJ = false) (hz : zeroOk P t = true)
    (h : buildSliceCells P t len (is.zip vs).toArray = some (elem, cells)) : ∃ cells' : Array Value, buildSliceCells P t len (is.zip vs').toArray = some (elem, cells') ∧ LRel φ cells.toList cells'.toList := by
  unfold buildSliceCells at h ⊢
  unfold zeroOk at hz
  cases hu : P.underlying t with
  | none => simp only [hu] at h; cases h
  | some d =>
    cases d
    case slice e =>
      simp only [hu] at h hz ⊢
      cases hi : P.info? e with
      | none => simp only [hi] at h; cases h
      | some i =>
        simp only [hi] at h hz ⊢
        by_cases hbig : len * i.size > 2 ^ 24
        · rw [if_pos hbig] at h; cases h
        · rw [if_neg hbig] at h ⊢
          by_cases h0 : len * i.size = 0
          · rw [if_pos h0] at h ⊢
            split at h
            · rename_i hp
              cases h
              have hp' : is.zip vs = [] := by simpa using hp
              have hp2 : is.zip vs' = [] := by
                cases is with
                | nil => rfl
                | cons a is => cases vs with
                  | nil => cases vs' with
                    | nil => rfl
                    | cons _ _ => simp [LRel] at hv
                  | cons _ _ => simp at hp'
              exact ⟨#[], by simp [hp2], LRel.nil _⟩
            · cases h
          · rw [if_neg h0] at h ⊢
            cases hzz : i.zero with
            | none => simp only [hzz] at h; cases h
            | some z =>
              simp only [hzz, Bool.and_eq_true] at h hz ⊢
              have h1 : 1 ≤ z.cells.size := Nat.le_of_ble_eq_true hz.2
              have hs : (((Array.range (len * i.size)).map (z.cells[· % z.cells.size]!)).toList).all scalar = true := by
                simp only [Array.toList_map, List.all_eq_true, List.mem_map]
                rintro v ⟨j, _, rfl⟩
                have hlt : j % z.cells.size < z.cells.size := Nat.mod_lt _ h1
                rw [getElem!_pos z.cells _ hlt]
                exact List.all_eq_true.1 hz.1 _ (by simp)
              split at h
              · rename_i cs hf
                cases h
                obtain ⟨r', r1, r2⟩ := fill_rel is vs vs' _ _ cells hv hj (list_refl scalar (fun _ => scalar_refl) hs) (by simpa using hf)
                refine ⟨r', ?_, r2⟩
                rw [r1]
              · cases h
    all_goals (simp only [hu] at h; cases h)
theorem rel_callee {φ : Ren} {f f' : Value} {vs vs' : List Value} {g : FuncId} {args : List Value} (hf : VRel φ f f') (hvs : LRel φ vs vs') (h : callee P f vs = some (.call g args)) :
    ∃ args' : List Value, (do let d ← Deferred.ofValue f' vs'.toArray; invoke d.target d.args : Sem Next).run P w = .ok (.enter g args'.toArray) w ∧ LRel φ args args' := by
  unfold callee at h
  split at h
  · cases hf with
    | func g' hx ex hc ec =>
      rename_i x c x' c'
      split at h
      · rename_i fn hfn
        split at h
        · cases h
        · rename_i hname
          split at h
          · rename_i body hbody
            simp only [Option.some.injEq, R.call.injEq] at h
            obtain ⟨rfl, rfl⟩ := h
            refine ⟨x'.toList ++ vs' ++ c'.toList, ?_, (LRel.append (LRel.append ⟨hx, ex⟩ hvs) ⟨hc, ec⟩)⟩
            have hname' : ¬ fn.name = "runtime.NumGoroutine" := by simpa using hname
            simp [Deferred.ofValue, invoke, callFunc, program, Sem.run, hfn, hname', hbody]
          · cases h
      · cases h
  · split at h <;> cases h
  · cases h
theorem rel_round {φ : Ren} {f f' : Value} {vs vs' : List Value} {l : Nat} {args : List Value} (hf : VRel φ f f') (h : callee P f vs = some (.round l args)) :
    ∃ r, φ l = some r ∧ args = vs ∧ (do let d ← Deferred.ofValue f' vs'.toArray; invoke d.target d.args : Sem Next).run P w = (Instr.yield r vs'.toArray).run P w := by
  unfold callee at h
  split at h
  · cases hf with
    | func g' hx ex hc ec =>
      split at h
      · split at h
        · cases h
        · split at h <;> cases h
      · cases h
  · cases hf with
    | yield hl =>
      rename_i r
      split at h
      · cases h
        exact ⟨r, hl, rfl, by simp [Deferred.ofValue, invoke]⟩
      · cases h
  · cases h
theorem callee_call {f : Value} {vs : List Value} {v : Value} {S : List Blk} (h : callee P f vs = some (.val v S)) : False := by
  unfold callee at h
  repeat' split at h
  all_goals cases h
theorem mapAt_heap {φ : Ren} {S : List Blk} (good : Good φ S w) {x x' : Value} (hx : VRel φ x x') {b : Nat} {es : List MapEntry} {clock : Nat} (h : mapAt S x = some (b, es, clock)) :
    ∃ r, x' = .map (some r) ∧ φ b = some r ∧ b < S.length ∧ w.heap[r]? = some (.map es.toArray clock) := by
  rw [mapAt_eqO] at h; unfold mapAtO at h
  split at h
  · rename_i b2
    split at h
    · rename_i hk
      cases h
      cases hx with
      | map hb =>
        obtain ⟨o, h1, h2⟩ := good.blk _ _ _ hk hb
        exact ⟨_, rfl, hb, (List.getElem?_eq_some_iff.1 hk).1, by rw [h1]; exact congrArg some h2⟩
    · cases h
  · cases h
theorem mapAt_blk {S : List Blk} {x : Value} {b : Nat} {es : List MapEntry} {clock : Nat} (h : mapAt S x = some (b, es, clock)) : ∃ k, S[b]? = some k ∧ k.obj = some (.map es clock) := by
  rw [mapAt_eqO] at h; unfold mapAtO at h
  split at h
  · split at h
    · rename_i hk
      cases h
      exact ⟨_, hk, rfl⟩
    · cases h
  · cases h
theorem run_rangeP {t : TypeId} {x : Value} {s : ByteArray} (h : rangeP P t x = some s) : x = .string s ∧ (Instr.range t (.string s)).run P w = .ok (.pointer (some ⟨w.heap.size, 0, none⟩)) (w.alloc (.stringIter s 0)) := by
  unfold rangeP at h
  split at h
  · rename_i hu
    cases h
    refine ⟨rfl, ?_⟩
    simp only [Instr.range, Sem.run_bind, run_underlying hu, Result.andThen_ok, Sem.run_pure]
    rfl
  · cases h
theorem nextP_set {fl : Nat} {S S' : List Blk} {x v : Value} (h : nextP fl S x = some (v, S')) : S' = S ∨ ∃ b K, fl ≤ b ∧ S' = S.set b K := by
  rw [nextP_eqO] at h; unfold nextPO at h
  simp only [forceK_eq] at h
  split at h
  · split at h
    · split at h
      · rename_i hc
        simp only [decide_eq_true_eq] at hc
        split at h
        · cases h; exact .inr ⟨_, _, hc, rfl⟩
        · cases h; exact .inl rfl
      · cases h
    · cases h
  · cases h
theorem run_nextP {φ : Ren} {S S' : List Blk} {fl : Nat} (good : Good φ S w) {t : TypeId} {x x' v : Value} (hx : VRel φ x x') (h : nextP fl S x = some (v, S')) :
    plain v = true ∧ ∃ w', (Instr.next x' true t).run P w = .ok v w' ∧ Good φ S' w' ∧ Step fl φ S w φ S' w' := by
  rw [nextP_eqO] at h; unfold nextPO at h
  simp only [forceK_eq] at h
  split at h
  · rename_i b
    split at h
    · rename_i s pos hk
      cases hx with
      | ptr hb =>
        rename_i r
        obtain ⟨o, h1, h2⟩ := good.blk _ _ _ hk hb
        have h2' : o = .stringIter s pos := h2
        subst h2'
        have hrs : r < w.heap.size := good.low b r hb
        have hg : (getObj r).run P w = .ok (.stringIter s pos) w := by simp [getObj, Sem.run, h1]
        split at h
        · rename_i hc
          simp only [decide_eq_true_eq] at hc
          split at h
          · rename_i hp
            generalize hd : Utf8.decode s pos = d at h
            obtain ⟨c, width⟩ := d
            cases h
            have hput : (setObj r (.stringIter s (pos + width))).run P w = .ok () { w with heap := w.heap.setIfInBounds r (.stringIter s (pos + width)) } := by
              simp [setObj, Sem.run, h1]
            obtain ⟨g1, g2⟩ := good.turn (w' := { w with heap := w.heap.setIfInBounds r (.stringIter s (pos + width)) }) (fl := fl) (k := iterBlk s (pos + width)) (o := .stringIter s (pos + width)) (List.getElem?_eq_some_iff.1 hk).1 hb hc (by simp [BRel, iterBlk]) (fun d => d.not hk (by simp)) (good.room b _ r hk hb) (fun q => by
              by_cases e : q = r
              · subst e; simp [hrs]
              · rw [if_neg e]; exact Array.getElem?_setIfInBounds_ne (fun z => e z.symm)) (by simp) rfl rfl rfl
            refine ⟨by simp [plain, flat, scalar, goInt], _, ?_, g1, g2⟩
            simp only [Instr.next, Sem.run_bind, hg, Result.andThen_ok, hp, if_true, hd, hput, Sem.run_pure]
          · rename_i hp
            cases h
            refine ⟨by simp [plain, flat, scalar], w, ?_, good, Step.refl _ _ _ _⟩
            simp only [Instr.next, Sem.run_bind, hg, Result.andThen_ok, hp, if_false, Sem.run_pure]
        · cases h
    · cases h
  · cases h
theorem run_part_int {e : TypeId} {q : IntKind} (he : P.underlying e = some (.int q)) {xs : Array Value} {off : Nat} {v : Value} (h : xs.toList[off]? = some v) : (part e xs off).run P w = .ok v w := by
  have h' : xs[off]? = some v := by simpa using h
  simp [part, isAgg, run_underlying he, h', Result.andThen]
theorem run_eqFs {d : Nat} {xs ys : Array Value} : ∀ (fs : List Field) (r : Bool), eqFs P xs.toList ys.toList fs = some r → (Op.eqFields (d + 1) xs ys fs).run P w = .ok r w := by
  intro fs
  induction fs with
  | nil => intro r h; cases h; simp [Op.eqFields]
  | cons f fs ih =>
    intro r h
    simp only [eqFs] at h
    split at h
    · cases h
    · rename_i hn
      split at h
      · rename_i q j a k b hu hx hy
        split at h
        · rename_i hjk
          subst hjk
          split at h
          · rename_i r' hr'
            cases h
            have e1 := ih r' hr'
            simp only [Op.eqFields, hn, ne_eq, not_false_eq_true, if_true, Sem.run_bind, run_part_int hu hx, run_part_int hu hy, Result.andThen_ok, run_equalIn_int w d f.type j q a b hu]
            cases hab : (a == b) with
            | true => simpa using e1
            | false => simp
          · cases h
        · cases h
      · cases h
theorem run_eqIs {d : Nat} {e : TypeId} {q : IntKind} (hu : P.underlying e = some (.int q)) {xs ys : Array Value} {n : Nat} : ∀ (is : List Nat) (r : Bool), eqIs xs.toList ys.toList n is = some r → (Op.eqItems (d + 1) e n xs ys is).run P w = .ok r w := by
  intro is
  induction is with
  | nil => intro r h; cases h; simp [Op.eqItems]
  | cons i is ih =>
    intro r h
    simp only [eqIs] at h
    split at h
    · rename_i j a k b hx hy
      split at h
      · rename_i hjk
        subst hjk
        split at h
        · rename_i r' hr'
          cases h
          have e1 := ih r' hr'
          simp only [Op.eqItems, Sem.run_bind, run_part_int hu hx, run_part_int hu hy, Result.andThen_ok, run_equalIn_int w d e j q a b hu]
          cases hab : (a == b) with
          | true => simpa using e1
          | false => simp
        · cases h
      · cases h
    · cases h
theorem run_eqAgg {t : TypeId} {xs ys : Array Value} {r : Bool} (h : eqAgg P t xs.toList ys.toList = some r) : P.eqGuardType P.depth t = false ∧ (Op.equal t (.agg xs) (.agg ys)).run P w = .ok r w := by
  unfold eqAgg at h
  split at h
  · cases h
  · rename_i hg
    refine ⟨by simpa using hg, ?_⟩
    split at h
    · rename_i fs hu
      split at h
      · cases h
      · rename_i hs
        have hfs : P.fieldsOf t = fs := by simp [Program.fieldsOf, hu]
        have := run_equalIn_struct w 9999 t xs ys (by rw [hfs]; exact hu) (by simpa using hs)
        rw [hfs] at this
        exact this.trans (run_eqFs (d := 9998) _ _ h)
    · rename_i n e hu
      split at h
      · rename_i q hq
        obtain ⟨i, hi⟩ := info_of_underlying hq
        exact (run_equalIn_array w 9999 xs ys hu hi).trans (run_eqIs (d := 9998) hq _ _ h)
      · cases h
    · cases h
theorem run_fastEql {op : BinOp} {t : TypeId} {x y : Operand} {xs ys : Array Value} {v : Value} (h : fastEql P op t xs.toList ys.toList = some v) :
    (do eqGuard op t x y (.agg xs) (.agg ys); binOp op t (.agg xs) (.agg ys) : Sem Value).run P w = .ok v w ∧ ∃ b, v = .bool b := by
  unfold fastEql at h
  split at h
  · split at h
    · rename_i r hr
      cases h
      obtain ⟨h1, h2⟩ := run_eqAgg (w := w) hr
      refine ⟨?_, _, rfl⟩
      simp only [eqGuard, Bool.not_true, Bool.false_eq_true, if_false, Sem.run_bind, run_program, Result.andThen_ok, h1, Bool.not_false, if_true, Sem.run_pure, binOp, h2]
    · cases h
  · split at h
    · rename_i r hr
      cases h
      obtain ⟨h1, h2⟩ := run_eqAgg (w := w) hr
      refine ⟨?_, _, rfl⟩
      simp only [eqGuard, Bool.not_true, Bool.false_eq_true, if_false, Sem.run_bind, run_program, Result.andThen_ok, h1, Bool.not_false, if_true, Sem.run_pure, binOp, h2]
    · cases h
  · cases h
theorem keyEq_run {kt : TypeId} {k k2 : Value} {b : Bool} (h : keyEq P kt k k2 = some b) : (Op.equal kt k k2).run P w = .ok b w := by
  unfold keyEq at h
  split at h
  · split at h
    · exact (run_eqAgg (w := w) h).2
    · cases h
  · cases h
theorem findAsking_run {kt : TypeId} {k : Value} : ∀ (es : List MapEntry) (i : Nat), okKeys P kt k es = true → (Instr.findAsking kt k es i).run P w = .ok (firstK P kt k es i) w := by
  intro es
  induction es with
  | nil => intro i _; rfl
  | cons e es ih =>
    intro i h
    simp only [okKeys, Bool.and_eq_true] at h
    obtain ⟨h1, h2⟩ := h
    cases hk : keyEq P kt k e.key with
    | none => rw [hk] at h1; cases h1
    | some b =>
      simp only [Instr.findAsking, Sem.run_bind, keyEq_run (w := w) hk, Result.andThen_ok, firstK, hitK, hk]
      cases b with
      | true => rfl
      | false => exact ih (i + 1) h2
theorem findFast_run {kt : TypeId} {k : Value} {es : List MapEntry} {q : Option (Nat × Value)} (h : findFast P kt k es = some q) : (Instr.findKey kt k es).run P w = .ok q w := by
  unfold findFast at h
  cases hs : structT P kt && okKeys P kt k es with
  | false => rw [hs] at h; cases h
  | true =>
    rw [hs] at h
    simp only [Bool.and_eq_true] at hs
    obtain ⟨h1, h2⟩ := hs
    cases h
    unfold structT at h1
    split at h1
    · rename_i fs hu
      simp only [Instr.findKey, Sem.run_bind, run_underlying hu, Result.andThen_ok]
      cases es with
      | nil => rfl
      | cons e es =>
        have : Instr.findNow (.struct fs) k (e :: es) 0 = none := by
          simp only [Instr.findNow, Instr.sameNow]
        rw [this]
        exact findAsking_run _ _ h2
    · cases h1
theorem findIn_run {kt : TypeId} {e : Bool} {es : List MapEntry} {k : Value} {r : Option (Nat × Value)} (h : findIn P kt e es k = some r) :
    plain k = true ∧ (∃ u : Unit, (Instr.checkKey e 10000 kt k).run P w = .ok u w) ∧ (Instr.findKey kt k es).run P w = .ok r w := by
  unfold findIn at h
  split at h
  · rename_i hp
    split at h
    · rename_i u hc
      refine ⟨hp, ⟨u, pureSem_run hc w⟩, ?_⟩
      split at h
      · rename_i q hq
        cases h
        exact findFast_run hq
      · exact pureSem_run h w
    · cases h
  · cases h
theorem plainly_eq {r v : Value} (h : plainly r = some v) : plain v = true ∧ v = r := by
  unfold plainly at h
  split at h
  · rename_i hp; cases h; exact ⟨hp, rfl⟩
  · cases h
theorem run_getMap {r : Nat} {es : Array MapEntry} {c : Nat} (hb : w.heap[r]? = some (.map es c)) : (getObj r).run P w = .ok (.map es c) w := by
  simp [getObj, Sem.run, hb]
theorem run_lookupP {φ : Ren} {S : List Blk} (good : Good φ S w) {t : TypeId} {x x' k v : Value} {ok : Bool} (hx : VRel φ x x') (h : lookupP P t S x k ok = some v) :
    plain k = true ∧ plain v = true ∧ (Instr.lookup t x' k ok).run P w = .ok v w := by
  unfold lookupP at h
  split at h
  · rename_i kt et b es clock hu hm
    obtain ⟨r, rfl, hb, _, hh⟩ := mapAt_heap good hx hm
    split at h
    · rename_i i v0 hf
      obtain ⟨h1, ⟨u, h2⟩, h3⟩ := findIn_run (w := w) hf
      obtain ⟨hp, rfl⟩ := plainly_eq h
      refine ⟨h1, hp, ?_⟩
      simp only [Instr.lookup, Sem.run_bind, run_underlying hu, Result.andThen_ok, run_getMap hh, Sem.run_pure, h2, h3]
      rfl
    · rename_i hf
      obtain ⟨h1, ⟨u, h2⟩, h3⟩ := findIn_run (w := w) hf
      split at h
      · rename_i z hz
        obtain ⟨hp, rfl⟩ := plainly_eq h
        refine ⟨h1, hp, ?_⟩
        simp only [Instr.lookup, Sem.run_bind, run_underlying hu, Result.andThen_ok, run_getMap hh, Sem.run_pure, h2, h3, run_zeroT hz]
        rfl
      · cases h
    · cases h
  · cases h
theorem run_updateP {φ : Ren} {S S' : List Blk} {fl : Nat} (good : Good φ S w) {t : TypeId} {x x' k v : Value} (hx : VRel φ x x') (h : updateP P fl t S x k v = some S') :
    plain k = true ∧ plain v = true ∧ ∃ w', (Instr.mapUpdate t x' k v).run P w = .ok () w' ∧ Good φ S' w' ∧ Step fl φ S w φ S' w' := by
  rw [updateP_eqO] at h; unfold updatePO at h
  simp only [forceK_eq] at h
  split at h
  · rename_i kt et b es clock hu hm
    obtain ⟨r, rfl, hb, hlt, hh⟩ := mapAt_heap good hx hm
    obtain ⟨kb, hkb, hkm⟩ := mapAt_blk hm
    have hlive : ¬ Dead S b := fun d => d.not hkb (by rw [hkm]; simp)
    have hroom : ∀ (es : List MapEntry) (clock : Nat) (w' : World), Room φ r (mapBlk es clock) w' := fun _ _ _ => by
      have := good.room b kb r hkb hb
      unfold Room at this
      rw [hkm] at this
      exact .none this rfl
    have hrs : r < w.heap.size := good.low b r hb
    have hput : ∀ o : Obj, (setObj r o).run P w = .ok () { w with heap := w.heap.setIfInBounds r o } := by
      intro o; simp [setObj, Sem.run, hh]
    have hget : ∀ (o : Obj) (s : Nat), ({ w with heap := w.heap.setIfInBounds r o } : World).heap[s]? = if s = r then some o else w.heap[s]? := by
      intro o s
      by_cases e : s = r
      · subst e; simp [hrs]
      · rw [if_neg e]; exact Array.getElem?_setIfInBounds_ne (fun q => e q.symm)
    split at h
    · rename_i hc
      simp only [Bool.and_eq_true, decide_eq_true_eq] at hc
      split at h
      · rename_i i v0 hf
        obtain ⟨h1, ⟨u, h2⟩, h3⟩ := findIn_run (w := w) hf
        split at h
        · rename_i key hk
          cases h
          have h4 := pureSem_run hk w
          obtain ⟨g1, g2⟩ := good.turn (fl := fl) (k := mapBlk (es.toArray.modify i fun e => { e with key := key, val := v }).toList clock) (o := .map (es.toArray.modify i fun e => { e with key := key, val := v }) clock) hlt hb hc.1 (by simp [BRel, mapBlk]) hlive (hroom _ _ _) (hget _) (by simp) rfl rfl rfl
          refine ⟨h1, hc.2, _, ?_, g1, g2⟩
          simp only [Instr.mapUpdate, Sem.run_bind, run_underlying hu, Result.andThen_ok, run_getMap hh, h2, h3, h4, hput]
        · cases h
      · rename_i hf
        obtain ⟨h1, ⟨u, h2⟩, h3⟩ := findIn_run (w := w) hf
        cases h
        obtain ⟨g1, g2⟩ := good.turn (fl := fl) (k := mapBlk (es ++ [{ key := k, val := v, born := clock }]) (clock + 1)) (o := .map (es.toArray.push { key := k, val := v, born := clock }) (clock + 1)) hlt hb hc.1 (by simp [BRel, mapBlk]) hlive (hroom _ _ _) (hget _) (by simp) rfl rfl rfl
        refine ⟨h1, hc.2, _, ?_, g1, g2⟩
        simp only [Instr.mapUpdate, Sem.run_bind, run_underlying hu, Result.andThen_ok, run_getMap hh, h2, h3, hput]
      · cases h
    · cases h
  · cases h
theorem updateP_set {fl : Nat} {t : TypeId} {S S' : List Blk} {x k v : Value} (h : updateP P fl t S x k v = some S') : ∃ b K, fl ≤ b ∧ S' = S.set b K := by
  rw [updateP_eqO] at h; unfold updatePO at h
  simp only [forceK_eq] at h
  split at h
  · split at h
    · rename_i hc
      simp only [Bool.and_eq_true, decide_eq_true_eq] at hc
      split at h
      · split at h
        · cases h; exact ⟨_, _, hc.1, rfl⟩
        · cases h
      · cases h; exact ⟨_, _, hc.1, rfl⟩
      · cases h
    · cases h
  · cases h
end
end Go.Proofs.XX.Vm
/- A small evaluator over a shadow heap, part 5: every operation. -/
namespace Go.Proofs.XX.Vm
open Go Go.RowKit

section
variable {P : Program} {w : World}

theorem opds_get {gl : Nat} {T : List Value} : ∀ {l : List Operand} {vs : List Value}, opds gl T l = some vs → ∀ x ∈ l, ∃ v ∈ vs, opd gl T x = some v := by
  intro l
  induction l with
  | nil => intro vs _ x hx; cases hx
  | cons y l ih =>
    intro vs h x hx
    simp only [opds] at h
    split at h
    · rename_i v vs' h1 h2
      cases h
      cases hx with
      | head => exact ⟨v, by simp, h1⟩
      | tail _ hm => obtain ⟨u, g1, g2⟩ := ih h2 x hm; exact ⟨u, by simp [g1], g2⟩
    · cases h

theorem opds_map {gl : Nat} {T : List Value} : ∀ {l : List Operand} {vs : List Value}, opds gl T l = some vs → vs = l.map fun x => (opd gl T x).getD undef := by
  intro l
  induction l with
  | nil => intro vs h; simp only [opds, Option.some.injEq] at h; subst h; rfl
  | cons y l ih =>
    intro vs h
    simp only [opds] at h
    split at h
    · rename_i v vs' h1 h2
      cases h
      simp [h1, ih h2]
    · cases h

theorem pureOp_select {op : Op} (h : pureOp op = true) : ∀ cs b, op ≠ .select cs b := by
  intro cs b e; subst e; simp [pureOp] at h

theorem run_pureOp {gl : Nat} {φ : Ren} {S : List Blk} (ok : Ok gl φ S w) {T : List Value} {a : Act} (hT : LRel φ T a.tmps.toList) {o : Oper} {vs : List Value} {v : Value}
    (hvs : opds gl T o.op.operands.toList = some vs) (hp : pureOp o.op = true) (hall : vs.all plain = true)
    (h : pureSem P (execOp (fun x => (opd gl T x).getD undef) o) = some (.value v)) : (execOp a.eval o).run P w = .ok (.value v) w := by
  have : execOp a.eval o = execOp (fun x => (opd gl T x).getD undef) o := by
    refine execOp_congr o (pureOp_select hp) fun x hx => ?_
    obtain ⟨u, g1, g2⟩ := opds_get hvs x (by simpa using hx)
    rw [g2]
    exact plain_eq ((List.all_eq_true.1 hall) u g1) (opd_rel ok hT g2)
  rw [this]
  exact pureSem_run h w

theorem run_fastBin {op : BinOp} {k : IntKind} {a b : Int} {v : Value} {t : TypeId} {x y : Operand} (h : fastBin op k a b = some v) :
    (do eqGuard op t x y (.int k a) (.int k b); binOp op t (.int k a) (.int k b) : Sem Value).run P w = .ok v w ∧ plain v = true := by
  cases op <;> simp only [fastBin, Option.some.injEq, reduceCtorEq] at h <;> subst h <;> simp [eqGuard, binOp, Op.intArith, Op.intCmp, Op.intBits, plain, flat, scalar]
theorem run_sliceNil {t e : TypeId} (hu : P.underlying t = some (.slice e)) (a : Addr) (n c n2 c2 : Nat) : (Op.equal t (.slice (some a) n c) (.slice none n2 c2)).run P w = .ok false w := by
  unfold Op.equal Op.maxDepth
  unfold Op.equalIn
  simp only [Sem.run_bind, run_underlying hu, Result.andThen_ok, Sem.run_pure]
theorem run_sliceEql {t e : TypeId} (hu : P.underlying t = some (.slice e)) {a : Addr} {n c n2 c2 : Nat} {x y : Operand} :
    (do eqGuard .eql t x y (.slice (some a) n c) (.slice none n2 c2); binOp .eql t (.slice (some a) n c) (.slice none n2 c2) : Sem Value).run P w = .ok (.bool false) w := by
  show (do let r ← Op.equal t (.slice (some a) n c) (.slice none n2 c2); pure (Value.bool r) : Sem Value).run P w = _
  rw [Sem.run_bind, run_sliceNil hu]; rfl
theorem run_sliceNeq {t e : TypeId} (hu : P.underlying t = some (.slice e)) {a : Addr} {n c n2 c2 : Nat} {x y : Operand} :
    (do eqGuard .neq t x y (.slice (some a) n c) (.slice none n2 c2); binOp .neq t (.slice (some a) n c) (.slice none n2 c2) : Sem Value).run P w = .ok (.bool true) w := by
  show (do let r ← Op.equal t (.slice (some a) n c) (.slice none n2 c2); pure (Value.bool (!r)) : Sem Value).run P w = _
  rw [Sem.run_bind, run_sliceNil hu]; rfl
theorem pureTry_val {gl fl : Nat} {φ : Ren} {S S' : List Blk} (ok : Ok gl φ S w) {T : List Value} {a : Act} (hT : LRel φ T a.tmps.toList) {o : Oper} {v : Value}
    (h : pureTry P gl o T S = some (.val v S')) : Came P fl φ S w (execOp a.eval o) v S' := by
  unfold pureTry at h
  split at h
  · rename_i vs hvs
    split at h
    · rename_i hc
      simp only [Bool.and_eq_true] at hc
      split at h
      · rename_i u hu
        split at h
        · rename_i hpl
          cases h
          exact Came.same ok.good (run_pureOp ok hT hvs hc.1 hc.2 hu) (plain_refl hpl)
        · cases h
      · cases h
    · cases h
  · cases h
theorem pureTry_call {gl : Nat} {S : List Blk} {T : List Value} {o : Oper} {f : FuncId} {args : List Value} (h : pureTry P gl o T S = some (.call f args)) : False := by
  unfold pureTry at h
  repeat' split at h
  all_goals cases h
theorem int_of_rel {φ : Ren} {l l' : List Value} (h : LRel φ l l') {i : Nat} {k : IntKind} {n : Int} (hi : l[i]? = some (.int k n)) : l'[i]? = some (.int k n) := by
  obtain ⟨v', h1, h2⟩ := h.get hi
  cases h2
  exact h1
theorem eqFs_rel {φ : Ren} {xs xs' ys ys' : List Value} (hx : LRel φ xs xs') (hy : LRel φ ys ys') : ∀ (fs : List Field) (r : Bool), eqFs P xs ys fs = some r → eqFs P xs' ys' fs = some r := by
  intro fs
  induction fs with
  | nil => intro r h; exact h
  | cons f fs ih =>
    intro r h
    simp only [eqFs] at h ⊢
    split at h
    · cases h
    · rename_i hn
      split at h
      · rename_i q j a k b hu h1 h2
        split at h
        · rename_i hjk
          split at h
          · rename_i r' hr'
            simp only [hn, if_false, hu, int_of_rel hx h1, int_of_rel hy h2, hjk, if_true, ih r' hr']
            exact h
          · cases h
        · cases h
      · cases h
theorem eqIs_rel {φ : Ren} {xs xs' ys ys' : List Value} (hx : LRel φ xs xs') (hy : LRel φ ys ys') {n : Nat} : ∀ (is : List Nat) (r : Bool), eqIs xs ys n is = some r → eqIs xs' ys' n is = some r := by
  intro is
  induction is with
  | nil => intro r h; exact h
  | cons i is ih =>
    intro r h
    simp only [eqIs] at h ⊢
    split at h
    · rename_i j a k b h1 h2
      split at h
      · rename_i hjk
        split at h
        · rename_i r' hr'
          simp only [int_of_rel hx h1, int_of_rel hy h2, hjk, if_true, ih r' hr']
          exact h
        · cases h
      · cases h
    · cases h
theorem fastEql_rel {φ : Ren} {op : BinOp} {t : TypeId} {xs xs' ys ys' : List Value} (hx : LRel φ xs xs') (hy : LRel φ ys ys') {v : Value} (h : fastEql P op t xs ys = some v) : fastEql P op t xs' ys' = some v := by
  have key : ∀ r, eqAgg P t xs ys = some r → eqAgg P t xs' ys' = some r := by
    intro r hr
    unfold eqAgg at hr ⊢
    split at hr
    · cases hr
    · rename_i hg
      rw [if_neg hg]
      split at hr
      · split at hr
        · cases hr
        · rename_i hs
          simp only [hs]
          exact eqFs_rel hx hy _ _ hr
      · split at hr
        · exact eqIs_rel hx hy _ _ hr
        · cases hr
      · cases hr
  unfold fastEql at h ⊢
  split at h
  · split at h
    · rename_i r hr; simp only [key r hr]; exact h
    · cases h
  · split at h
    · rename_i r hr; simp only [key r hr]; exact h
    · cases h
  · cases h
theorem optV_rel {gl : Nat} {φ : Ren} {S : List Blk} (ok : Ok gl φ S w) {T : List Value} {a : Act} (hT : LRel φ T a.tmps.toList) {x : Option Operand} {v : Option Value} (h : optV gl T x = some v) : ORel φ v (x.map a.eval) := by
  cases x with
  | none => cases h; trivial
  | some y =>
    simp only [optV] at h
    split at h
    · rename_i u hu; cases h; exact opd_rel ok hT hu
    · cases h
theorem evOp_val {gl fl : Nat} {φ : Ren} {S S' : List Blk} (ok : Ok gl φ S w) {T : List Value} {a : Act} (hT : LRel φ T a.tmps.toList) {o : Oper} {v : Value}
    (h : evOp P gl fl o T S = some (.val v S')) (hf : Fresh φ S.length S'.length) : Came P fl φ S w (execOp a.eval o) v S' := by
  have good := ok.good
  rw [evOp_eqO] at h; unfold evOpO at h
  simp only [forceK_eq] at h
  split at h
  · rename_i x ho
    split at h
    · rename_i u hu; cases h; exact Came.same good (by simp [execOp, ho]) (opd_rel ok hT hu)
    · cases h
  · rename_i x ho
    split at h
    · rename_i u hu; cases h; exact Came.same good (by simp [execOp, ho]) (opd_rel ok hT hu)
    · cases h
  · rename_i c x y ho
    split at h
    · rename_i β u1 u2 hc hx hy
      cases h
      have hcv := opd_rel ok hT hc
      generalize hce : a.eval c = cv at hcv
      cases hcv
      cases β
      · exact Came.same good (v' := a.eval y) (by simp [execOp, ho, hce, asBool]) (opd_rel ok hT hy)
      · exact Came.same good (v' := a.eval x) (by simp [execOp, ho, hce, asBool]) (opd_rel ok hT hx)
    · cases h
  · rename_i t ho
    split at h
    · rename_i z hz
      split at h
      · rename_i hall
        cases h
        refine Came.fresh good (hf _ (Nat.le_refl _) (by simp)) ?_ (list_refl scalar (fun _ => scalar_refl) hall)
        simp [execOp, ho, Instr.alloc, run_zeroT hz, run_newVar]
      · cases h
    · cases h
  · rename_i t x ho
    split at h
    · rename_i u hu
      split at h
      · cases h
      rename_i hj
      cases h
      refine Came.fresh good (hf _ (Nat.le_refl _) (by simp)) (c' := (a.eval x).cells) ?_ ((opd_rel ok hT hu).cells (by simpa using hj))
      simp [execOp, ho, Instr.box, run_newVar]
    · cases h
  · rename_i t x ho
    split at h
    · rename_i p hp
      split at h
      · rename_i u hu
        cases h
        obtain ⟨v', g1, g2⟩ := run_load (P := P) good (opd_rel ok hT hp) hu
        exact Came.same good (by simp [execOp, ho, g1]) g2
      · cases h
    · cases h
  · rename_i t x y ho
    split at h
    · rename_i p u hp hu
      split at h
      · rename_i S2 hs
        cases h
        obtain ⟨w', g1, g2, g3⟩ := run_store (P := P) good (opd_rel ok hT hp) (opd_rel ok hT hu) hs
        exact ⟨undef, w', φ, .inr ⟨by simp [execOp, ho, g1], rfl⟩, undef_refl _, g2, g3⟩
      · cases h
    · cases h
  · rename_i x ho
    split at h
    · rename_i p hp
      cases h
      have hpv := opd_rel ok hT hp
      generalize hce : a.eval x = xv at hpv
      cases hpv with
      | ptr hb => exact Came.same good (by simp [execOp, ho, hce]) (.ptr hb)
    · cases h
  · rename_i t x f ho
    split at h
    · rename_i p hp
      split at h
      · rename_i u hu
        cases h
        obtain ⟨v', g1, g2⟩ := run_fieldP (P := P) (w := w) (opd_rel ok hT hp) hu
        exact Came.same good (by simp [execOp, ho, g1]) g2
      · cases h
    · cases h
  · rename_i t x i ho
    split at h
    · rename_i p j hp hj
      split at h
      · rename_i u hu
        cases h
        obtain ⟨v', g1, g2⟩ := run_indexP (P := P) (w := w) (opd_rel ok hT hp) (opd_rel ok hT hj) hu
        exact Came.same good (by simp [execOp, ho, g1]) g2
      · cases h
    · cases h
  · rename_i f first captured ho
    split at h
    · rename_i xs cs hx hc
      cases h
      have r1 := opds_rel ok hT hx
      have r2 := opds_rel ok hT hc
      refine Came.same good (v' := .func (.func f) (first.map a.eval) (captured.map a.eval)) (by simp [execOp, ho, Instr.makeFunc]) (.func f ?_ ?_ ?_ ?_)
      · simpa using r1.1
      · simpa using r1.2
      · simpa using r2.1
      · simpa using r2.2
    · cases h
  · rename_i f args x1 ho
    split at h
    · rename_i g vs hg hv
      exact (callee_call h).elim
    · cases h
  · rename_i t len parts ho
    split at h
    · rename_i vs hv
      split at h
      · rename_i hall
        split at h
        · rename_i elem cells hc
          split at h
          · rename_i hsc
            cases h
            have hn := hf S.length (Nat.le_refl _) (by simp)
            obtain ⟨g1, g2⟩ := good.new fl hn ⟨cells.toList, elem, false, none⟩ (.cells cells elem) ⟨cells, (0, 0), rfl, by rw [List.take_length]; exact list_refl scalar (fun _ => scalar_refl) hsc, fun _ => rfl, fun h => by cases h⟩ rfl
            refine ⟨.slice (some ⟨w.heap.size, 0, none⟩) len len, _, _, .inl ?_, .slice (newRen_new _ _ _) (.inl rfl) (Nat.le_refl _) (.zero (good.zero _ (Nat.le_refl _))), g1, g2⟩
            have hrel := opds_rel ok hT hv
            have heq := list_eq plain (fun _ _ => plain_eq) hall hrel
            have hparts : (parts.map fun (i, x) => (i, a.eval x)) = ((parts.toList.map (·.1)).zip vs).toArray := by
              rw [← heq]
              apply Array.toList_inj.1
              simp only [Array.toList_map, List.map_map]
              generalize parts.toList = l
              induction l with
              | nil => rfl
              | cons p l ih => simpa using ih
            have hrun := run_buildSlice (P := P) (w := w) (hparts ▸ hc)
            simp only [execOp, ho, Sem.run_bind, hrun, Result.andThen_ok, Sem.run_pure]
          · cases h
        · cases h
      · split at h
        · cases h
        rename_i hj
        split at h
        · rename_i hz
          split at h
          · rename_i elem cells hc
            cases h
            have hn := hf S.length (Nat.le_refl _) (by simp)
            obtain ⟨cells', c1, c2⟩ := buildSlice_rel (P := P) (opds_rel ok hT hv) (by simpa using hj) hz hc
            obtain ⟨g1, g2⟩ := good.new fl hn ⟨cells.toList, elem, false, none⟩ (.cells cells' elem) ⟨cells', (0, 0), rfl, by rw [List.take_of_length_le (by rw [c2.1]; exact Nat.le_refl _)]; exact c2, fun _ => rfl, fun h => by cases h⟩ rfl
            refine ⟨.slice (some ⟨w.heap.size, 0, none⟩) len len, _, _, .inl ?_, .slice (newRen_new _ _ _) (.inl rfl) (Nat.le_refl _) (.zero (good.zero _ (Nat.le_refl _))), g1, g2⟩
            have hparts : (parts.map fun (i, x) => (i, a.eval x)) = ((parts.toList.map (·.1)).zip (List.map a.eval (parts.toList.map (·.2)))).toArray := by
              apply Array.toList_inj.1
              simp only [Array.toList_map, List.map_map]
              generalize parts.toList = l
              induction l with
              | nil => rfl
              | cons p l ih => simpa using ih
            have hrun := run_buildSlice (P := P) (w := w) (hparts ▸ c1)
            simp only [execOp, ho, Sem.run_bind, hrun, Result.andThen_ok, Sem.run_pure]
          · cases h
        · cases h
    · cases h
  · rename_i op t x y yt ho
    split at h
    · rename_i xs ys hx hy
      split at h
      · rename_i u hu
        cases h
        have hxv := opd_rel ok hT hx
        have hyv := opd_rel ok hT hy
        generalize hce : a.eval x = xv at hxv
        generalize hcf : a.eval y = yv at hyv
        cases hxv with
        | agg hl1 he1 =>
          cases hyv with
          | agg hl2 he2 =>
            rename_i xs' ys'
            obtain ⟨r1, b, r2⟩ := run_fastEql (P := P) (w := w) (t := t) (x := x) (y := y) (xs := xs') (ys := ys') (fastEql_rel ⟨hl1, he1⟩ ⟨hl2, he2⟩ hu)
            subst r2
            exact Came.same good (by simp only [execOp, ho, hce, hcf]; rw [Sem.run_bind, r1]; rfl) (.bool b)
      · exact pureTry_val ok hT h
    · rename_i k i j n hx hy
      split at h
      · rename_i hkj
        subst hkj
        split at h
        · rename_i u hu
          cases h
          have hxv := opd_rel ok hT hx
          have hyv := opd_rel ok hT hy
          obtain ⟨r1, r2⟩ := run_fastBin (P := P) (w := w) (t := t) (x := x) (y := y) hu
          generalize hce : a.eval x = xv at hxv
          generalize hcf : a.eval y = yv at hyv
          cases hxv; cases hyv
          exact Came.same good (by simp only [execOp, ho, hce, hcf]; rw [Sem.run_bind, r1]; rfl) (plain_refl r2)
        · exact pureTry_val ok hT h
      · exact pureTry_val ok hT h
    · rename_i a1 n1 c1 n2 c2 hx hy
      split at h
      · rename_i e hu
        have hxv := opd_rel ok hT hx
        have hyv := opd_rel ok hT hy
        generalize hce : a.eval x = xv at hxv
        generalize hcf : a.eval y = yv at hyv
        have hxe : ∃ a' n' c', xv = .slice (some a') n' c' := by cases hxv <;> exact ⟨_, _, _, rfl⟩
        clear hxv
        obtain ⟨a', n', c', rfl⟩ := hxe
        cases hyv
        split at h
        · cases h
          exact Came.same good (by simp only [execOp, ho, hce, hcf]; rw [Sem.run_bind, run_sliceEql hu]; rfl) (.bool _)
        · cases h
          exact Came.same good (by simp only [execOp, ho, hce, hcf]; rw [Sem.run_bind, run_sliceNeq hu]; rfl) (.bool _)
        · cases h
      · cases h
    · exact pureTry_val ok hT h
  · rename_i x0 args argTypes ho
    split at h
    · rename_i ad n c t hv ht
      split at h
      · rename_i e hu
        cases h
        have hrel := opds_rel ok hT hv
        have hm : (args.map a.eval).toList = List.map a.eval args.toList := by simp
        generalize List.map a.eval args.toList = l at hrel hm
        cases l with
        | nil => simp [LRel] at hrel
        | cons y l =>
          cases l with
          | cons _ _ => simp [LRel] at hrel
          | nil =>
            have hy := hrel.head
            cases hy with
            | empty a1 a2 c1 =>
              refine Came.same good (v' := .int .i64 (0 : Nat)) ?_ (.int _ _)
              have hargs : args.map a.eval = #[_] := Array.toList_inj.1 hm
              simp [execOp, ho, resolve, hargs, invoke, builtin, Builtin.len_, ht, run_underlying hu, goInt]
            | slice hb _ _ =>
              refine Came.same good (v' := .int .i64 n) ?_ (.int _ _)
              have hargs : args.map a.eval = #[_] := Array.toList_inj.1 hm
              simp [execOp, ho, resolve, hargs, invoke, builtin, Builtin.len_, ht, run_underlying hu, goInt]
      · cases h
    · exact pureTry_val ok hT h
  · rename_i args argTypes ho
    split at h
    · rename_i ad n c t hv ht
      split at h
      · rename_i et hu
        split at h
        · cases h
        · rename_i hcu
          cases h
          have hcu' : c ≠ unk := fun e => hcu (by rw [e]; exact Nat.beq_refl _)
          have hrel := opds_rel ok hT hv
          have hm : (args.map a.eval).toList = List.map a.eval args.toList := by simp
          generalize List.map a.eval args.toList = l at hrel hm
          cases l with
          | nil => simp [LRel] at hrel
          | cons y l =>
            cases l with
            | cons _ _ => simp [LRel] at hrel
            | nil =>
              have hy := hrel.head
              cases hy with
              | empty a1 a2 c1 _ =>
                refine Came.same good (v' := .int .i64 c) ?_ (.int _ _)
                have hargs : args.map a.eval = #[_] := Array.toList_inj.1 hm
                simp [execOp, ho, resolve, hargs, invoke, builtin, Builtin.cap_, ht, run_underlying hu, goInt]
              | slice hb hce _ _ =>
                refine Came.same good (v' := .int .i64 c) ?_ (.int _ _)
                have hargs : args.map a.eval = #[_] := Array.toList_inj.1 hm
                rcases hce with rfl | hce
                · simp [execOp, ho, resolve, hargs, invoke, builtin, Builtin.cap_, ht, run_underlying hu, goInt]
                · exact absurd hce hcu'
      · cases h
    · exact pureTry_val ok hT h
  · rename_i t l c ho
    split at h
    · rename_i k1 n k2 m hl hc
      split at h
      · rename_i elem cells hm
        split at h
        · rename_i hsc
          cases h
          have hn := hf S.length (Nat.le_refl _) (by simp)
          obtain ⟨g1, g2⟩ := good.new fl hn ⟨cells.toList, elem, false, none⟩ (.cells cells elem) ⟨cells, (0, 0), rfl, by rw [List.take_length]; exact list_refl scalar (fun _ => scalar_refl) hsc, fun _ => rfl, fun h => by cases h⟩ rfl
          have e1 := plain_eq (by rfl) (opd_rel ok hT hl)
          have e2 := plain_eq (by rfl) (opd_rel ok hT hc)
          obtain ⟨r1, r2⟩ := run_makeC (P := P) (w := w) (k1 := k1) (k2 := k2) hm
          refine ⟨.slice (some ⟨w.heap.size, 0, none⟩) n.toNat m.toNat, _, _, .inl ?_, .slice (newRen_new _ _ _) (.inl rfl) r2 (.zero (good.zero _ (Nat.le_refl _))), g1, g2⟩
          simp only [execOp, ho, e1, e2, Sem.run_bind, r1, Result.andThen_ok, Sem.run_pure]
        · cases h
      · cases h
    · cases h
  · rename_i t x ho
    split at h
    · rename_i b off n e hx hu
      split at h
      · rename_i z hz
        split at h
        · rename_i hlt
          rw [Nat.blt_eq] at hlt
          cases h
          have hxv := opd_rel ok hT hx
          generalize hce : a.eval x = xv at hxv
          cases hxv with
          | ptr hb =>
            refine Came.same good (v' := .slice (some ⟨_, off, none⟩) (n + 1) (n + 1)) ?_ (.slice hb (.inl rfl) (Nat.le_refl _) (fun _ => ⟨hlt, fun e _ => by omega⟩))
            simp [execOp, ho, hce, Instr.sliceAt, run_underlying hu, Instr.sureAddr, Instr.sliceBounds, run_sizeT hz, Addr.add]
        · cases h
      · cases h
    · exact pureTry_val ok hT h
  · rename_i t x lo hi mx _ ho
    split at h
    · rename_i ad n c hx
      split at h
      · rename_i l hh m e1 e2 e3
        split at h
        · rename_i u hs
          cases h
          obtain ⟨v', r1, r2⟩ := run_sliceC (P := P) (w := w) (opd_rel ok hT hx) (optV_rel ok hT e1) (optV_rel ok hT e2) (optV_rel ok hT e3) hs
          exact Came.same good (by simp only [execOp, ho, Sem.run_bind, r1, Result.andThen_ok, Sem.run_pure]) r2
        · cases h
      · cases h
    · exact pureTry_val ok hT h
  · rename_i x0 args argTypes ho
    split at h
    · rename_i d s hv
      split at h
      · rename_i u S2 hs
        cases h
        have hrel := opds_rel ok hT hv
        have hm : (args.map a.eval).toList = List.map a.eval args.toList := by simp
        generalize List.map a.eval args.toList = l at hrel hm
        match l, hrel, hm with
        | [d', s'], hrel, hm =>
          obtain ⟨v', w', ψ, r1, r2, r3, r4⟩ := run_appendP (P := P) (ty := o.type) (fl := fl) good hf hrel.head hrel.tail.head hs
          have hargs : args.map a.eval = #[d', s'] := Array.toList_inj.1 hm
          exact ⟨v', w', ψ, .inl (by simp [execOp, ho, resolve, hargs, invoke, builtin, r1]), r2, r3, r4⟩
        | [], hrel, _ => simp [LRel] at hrel
        | [_], hrel, _ => simp [LRel] at hrel
        | _ :: _ :: _ :: _, hrel, _ => simp [LRel] at hrel
      · split at h
        · rename_i u S2 hs
          cases h
          have hrel := opds_rel ok hT hv
          have hm : (args.map a.eval).toList = List.map a.eval args.toList := by simp
          generalize List.map a.eval args.toList = l at hrel hm
          match l, hrel, hm with
          | [d', s'], hrel, hm =>
            obtain ⟨v', w', ψ, r1, r2, r3, r4⟩ := run_appendD (P := P) (ty := o.type) (fl := fl) good hf hrel.head hrel.tail.head hs
            have hargs : args.map a.eval = #[d', s'] := Array.toList_inj.1 hm
            exact ⟨v', w', ψ, .inl (by simp [execOp, ho, resolve, hargs, invoke, builtin, r1]), r2, r3, r4⟩
          | [], hrel, _ => simp [LRel] at hrel
          | [_], hrel, _ => simp [LRel] at hrel
          | _ :: _ :: _ :: _, hrel, _ => simp [LRel] at hrel
        · split at h
          · rename_i u S2 hs
            cases h
            have hrel := opds_rel ok hT hv
            have hm : (args.map a.eval).toList = List.map a.eval args.toList := by simp
            generalize List.map a.eval args.toList = l at hrel hm
            match l, hrel, hm with
            | [d', s'], hrel, hm =>
              obtain ⟨v', w', ψ, r1, r2, r3, r4⟩ := run_appendZ (P := P) (ty := o.type) (fl := fl) good hf hrel.head hrel.tail.head hs
              have hargs : args.map a.eval = #[d', s'] := Array.toList_inj.1 hm
              exact ⟨v', w', ψ, .inl (by simp [execOp, ho, resolve, hargs, invoke, builtin, r1]), r2, r3, r4⟩
            | [], hrel, _ => simp [LRel] at hrel
            | [_], hrel, _ => simp [LRel] at hrel
            | _ :: _ :: _ :: _, hrel, _ => simp [LRel] at hrel
          · cases h
    · cases h
  · rename_i t parts ho
    split at h
    · rename_i vs hv
      split at h
      · exact pureTry_val ok hT h
      · split at h
        · cases h
        rename_i hj
        split at h
        · rename_i cells hc
          cases h
          obtain ⟨cells', r1, r2⟩ := run_buildCells (P := P) (w := w) (opds_rel ok hT hv) (by simpa using hj) hc
          refine Came.same good (v' := .agg cells') ?_ (.agg r2.1 r2.2)
          have hparts : (parts.map fun (i, x) => (i, a.eval x)) = ((parts.toList.map (·.1)).zip (List.map a.eval (parts.toList.map (·.2)))).toArray := by
            apply Array.toList_inj.1
            simp only [Array.toList_map, List.map_map]
            generalize parts.toList = l
            induction l with
            | nil => rfl
            | cons p l ih => simpa using ih
          simp only [execOp, ho, hparts, Sem.run_bind, r1, Result.andThen_ok, Sem.run_pure]
        · cases h
    · cases h
  · rename_i t x ho
    split at h
    · rename_i u hu
      split at h
      · rename_i s hs
        cases h
        obtain ⟨rfl, hr⟩ := run_rangeP (P := P) (w := w) hs
        have hxv := opd_rel ok hT hu
        generalize hce : a.eval x = xv at hxv
        cases hxv
        have hn := hf S.length (Nat.le_refl _) (by simp)
        obtain ⟨g1, g2⟩ := good.new fl hn (iterBlk s 0) (.stringIter s 0) (by simp [BRel, iterBlk]) rfl
        exact ⟨_, _, _, .inl (by simp only [execOp, ho, hce, Sem.run_bind, hr, Result.andThen_ok, Sem.run_pure]), .ptr (newRen_new _ _ _), g1, g2⟩
      · cases h
    · cases h
  · rename_i x isString ho
    split at h
    · split at h
      · rename_i u hu
        split at h
        · rename_i v2 S2 hs
          cases h
          obtain ⟨h1, w', h2, h3, h4⟩ := run_nextP (P := P) (t := o.type) good (opd_rel ok hT hu) hs
          exact ⟨v, w', φ, .inl (by simp only [execOp, ho, Sem.run_bind, h2, Result.andThen_ok, Sem.run_pure]), plain_refl h1, h3, h4⟩
        · cases h
      · cases h
    · cases h
  · rename_i t ho
    cases h
    have hn := hf S.length (Nat.le_refl _) (by simp)
    obtain ⟨g1, g2⟩ := good.new fl hn (mapBlk [] 0) (.map #[] 0) (by simp [BRel, mapBlk]) rfl
    refine ⟨.map (some w.heap.size), _, _, .inl ?_, .map (newRen_new _ _ _), g1, g2⟩
    simp only [execOp, ho, Option.map_none, Instr.makeMap, Sem.run_bind, Sem.run_pure]
    rfl
  · rename_i t x i okb ho
    split at h
    · rename_i m k hm hk
      split at h
      · rename_i u hu
        cases h
        obtain ⟨h1, h2, h3⟩ := run_lookupP (P := P) good (opd_rel ok hT hm) hu
        have hkk := plain_eq h1 (opd_rel ok hT hk)
        exact Came.same good (v' := v) (by simp only [execOp, ho, hkk, Sem.run_bind, h3, Result.andThen_ok, Sem.run_pure]) (plain_refl h2)
      · cases h
    · cases h
  · rename_i t x i y ho
    split at h
    · rename_i m k u hm hk hu
      split at h
      · rename_i S2 hs
        cases h
        obtain ⟨h1, h2, w', h3, h4, h5⟩ := run_updateP (P := P) good (opd_rel ok hT hm) hs
        have hkk := plain_eq h1 (opd_rel ok hT hk)
        have hvv := plain_eq h2 (opd_rel ok hT hu)
        exact ⟨undef, w', φ, .inr ⟨by simp only [execOp, ho, hkk, hvv, Sem.run_bind, h3, Result.andThen_ok, Sem.run_pure], rfl⟩, undef_refl _, h4, h5⟩
      · cases h
    · cases h
  · rename_i s d x ho
    split at h
    · rename_i k n hx
      split at h
      · rename_i sd j h1 h2
        cases h
        have e1 := plain_eq (by rfl) (opd_rel ok hT hx)
        refine Came.same good (v' := .int j (j.wrap n)) ?_ (.int _ _)
        simp only [execOp, ho, e1, Sem.run_bind, run_underlying h1, run_underlying h2, Result.andThen_ok, convert, Conv.intToInt, Sem.run_pure]
      · exact pureTry_val ok hT h
    · exact pureTry_val ok hT h
  · rename_i x i ho
    split at h
    · rename_i xs hx
      split at h
      · rename_i u hu
        cases h
        rw [getR_eq] at hu
        have hxv := opd_rel ok hT hx
        generalize hce : a.eval x = xv at hxv
        cases hxv with
        | tuple hl he =>
          rename_i xs'
          obtain ⟨v', g1, g2⟩ := LRel.get ⟨hl, he⟩ hu
          have g1' : xs'[i]? = some v' := by simpa using g1
          exact Came.same good (v' := v') (by simp [execOp, ho, hce, Instr.extract, g1']) g2
      · cases h
    · exact pureTry_val ok hT h
  · rename_i t x f ho
    split at h
    · rename_i xs hx
      split at h
      · rename_i u hu
        cases h
        have hxv := opd_rel ok hT hx
        generalize hce : a.eval x = xv at hxv
        cases hxv with
        | agg hl he =>
          obtain ⟨v', g1, g2⟩ := run_fieldV (P := P) (w := w) ⟨hl, he⟩ hu
          exact Came.same good (v' := v') (by simp only [execOp, ho, hce, Sem.run_bind, g1, Result.andThen_ok, Sem.run_pure]) g2
      · cases h
    · exact pureTry_val ok hT h
  · exact pureTry_val ok hT h

theorem evOp_call {gl fl : Nat} {φ : Ren} {S : List Blk} (ok : Ok gl φ S w) {T : List Value} {a : Act} (hT : LRel φ T a.tmps.toList) {o : Oper} {f : FuncId} {args : List Value}
    (h : evOp P gl fl o T S = some (.call f args)) : ∃ args' : List Value, (execOp a.eval o).run P w = .ok (.enter f args'.toArray) w ∧ LRel φ args args' := by
  rw [evOp_eqO] at h; unfold evOpO at h
  simp only [forceK_eq] at h
  split at h
  case h_12 f args x1 x2 ho =>
    split at h
    · rename_i g vs hg hv
      obtain ⟨args', g1, g2⟩ := rel_callee (P := P) (w := w) (opd_rel ok hT hg) (opds_rel ok hT hv) h
      refine ⟨args', ?_, g2⟩
      rw [← g1]
      have harr : Array.map a.eval x1 = (List.map a.eval x1.toList).toArray := Array.toList_inj.1 (by simp)
      simp only [execOp, ho, resolve, harr]
    · cases h
  all_goals (repeat' split at h)
  all_goals first | (cases h; done) | exact (pureTry_call h).elim
theorem pureTry_round {gl : Nat} {S : List Blk} {T : List Value} {o : Oper} {l : Nat} {args : List Value} (h : pureTry P gl o T S = some (.round l args)) : False := by
  unfold pureTry at h
  repeat' split at h
  all_goals cases h
theorem evOp_round {gl fl : Nat} {φ : Ren} {S : List Blk} (ok : Ok gl φ S w) {T : List Value} {a : Act} (hT : LRel φ T a.tmps.toList) {o : Oper} {l : Nat} {args : List Value}
    (h : evOp P gl fl o T S = some (.round l args)) : ∃ (r : Nat) (args' : List Value), φ l = some r ∧ (execOp a.eval o).run P w = (Instr.yield r args'.toArray).run P w ∧ LRel φ args args' ∧ (∀ c, o.op ≠ .defer c) := by
  rw [evOp_eqO] at h; unfold evOpO at h
  simp only [forceK_eq] at h
  split at h
  case h_12 f args x1 x2 ho =>
    split at h
    · rename_i g vs hg hv
      obtain ⟨r, h1, rfl, h2⟩ := rel_round (P := P) (w := w) (vs' := List.map a.eval x1.toList) (opd_rel ok hT hg) h
      refine ⟨r, _, h1, ?_, opds_rel ok hT hv, fun c e => by rw [ho] at e; cases e⟩
      rw [← h2]
      have harr : Array.map a.eval x1 = (List.map a.eval x1.toList).toArray := Array.toList_inj.1 (by simp)
      simp only [execOp, ho, resolve, harr]
    · cases h
  all_goals (repeat' split at h)
  all_goals first | (cases h; done) | exact (pureTry_round h).elim
/-- What is evaluated is no 'defer'. -/
theorem evOp_defer {gl fl : Nat} {S : List Blk} {T : List Value} {o : Oper} {c : Call} (ho : o.op = .defer c) : evOp P gl fl o T S = none := by
  rw [evOp_eqO]; unfold evOpO
  simp only [ho]
  unfold pureTry
  simp only [ho, pureOp, Bool.false_and, Bool.false_eq_true, if_false]
  split <;> rfl
end
end Go.Proofs.XX.Vm
