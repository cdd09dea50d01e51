/- Ring: the program's functions that halve nothing. -/
import Derived.Test.YtihccnfaibiiiaaDoorRM2
import Derived.Test.YtihccnfaibiiiaaDoorProg
namespace Go.Proofs.YtihccnfaibiiiaaDoor.R
open Go Go.Proofs.XX.Vm Go.Proofs.XX.Rm
set_option maxRecDepth 100000

def N.v (x : N) : Value := .agg #[.int .i64 x.a, .int .i64 x.b, .int .i64 x.c, .int .i64 x.d, .int .i64 x.k]
def N.cv (x : N) : Value := .agg #[.int .i64 x.a, .int .i64 x.b, .int .i64 x.c, .int .i64 x.d]
def asN : Value → Option N
  | .agg x => match x.toList with
    | [.int .i64 a, .int .i64 b, .int .i64 c, .int .i64 d, .int .i64 k] => some ⟨a, b, c, d, k⟩
    | _ => none
  | _ => none
theorem asN_eq {v : Value} {x : N} (h : asN v = some x) : v = N.v x := by
  unfold asN at h
  split at h
  · rename_i y
    split at h
    · rename_i a b c d k e
      cases h
      cases y
      simp only at e
      subst e
      rfl
    · cases h
  · cases h
/-- The variables that are looked at. -/
def str (l : List UInt8) : Value := .string ⟨l.toArray⟩
def uni : Blk := ⟨[str [], str [119], str [119, 50], str [119, 51]], 116, true, none⟩
def pow : Blk := ⟨[.int .u64 1, .int .u64 10, .int .u64 100, .int .u64 1000, .int .u64 10000, .int .u64 100000, .int .u64 1000000, .int .u64 10000000, .int .u64 100000000, .int .u64 1000000000, .int .u64 10000000000, .int .u64 100000000000, .int .u64 1000000000000, .int .u64 10000000000000, .int .u64 100000000000000, .int .u64 1000000000000000, .int .u64 10000000000000000, .int .u64 100000000000000000, .int .u64 1000000000000000000, .int .u64 10000000000000000000], 145, true, none⟩
def mxl (M : Int) : Blk := ⟨[.int .i64 M], 3, true, none⟩
abbrev Sg1 (M : Int) : List Blk := [uni, pow, mxl M]
theorem sg1 (M : Int) : SgOk (Sg1 M) := by
  unfold SgOk
  have h1 : (uni.cells.all scalar && uni.obj.isNone) = true := by decide
  have h2 : (pow.cells.all scalar && pow.obj.isNone) = true := by decide
  have h3 : ((mxl M).cells.all scalar && (mxl M).obj.isNone) = true := rfl
  simp only [List.all_cons, h1, h2, h3, List.all_nil, Bool.and_self]

/-- Contracts, one for each function, put in a list. -/
structure Con where
  f : FuncId
  dom : List Value → Option OT
def orcV : List Con → FuncId → List Value → Option OT
  | [], _, _ => none
  | c :: l, f, args => match Nat.beq c.f f with
    | true => c.dom args
    | false => orcV l f args
/-- Contracts of calls with memory. -/
structure MCon where
  f : FuncId
  dom : Nat → List Value → List Blk → Option OTM
def orcM : List MCon → Nat → FuncId → List Value → List Blk → Option OTM
  | [], _, _, _, _ => none
  | c :: l, fl, f, args, S => match Nat.beq c.f f with
    | true => c.dom fl args S
    | false => orcM l fl f args S
def orcL (l : List Con) : Orc := ⟨orcV l, fun _ _ _ _ => none⟩
def orcLM (l : List Con) (m : List MCon) : Orc := ⟨orcV l, orcM m⟩
def ConOk (M : Int) (c : Con) : Prop := ∀ (args : List Value) (t : OT) (v : Value), c.dom args = some t → t.get = some v → ∀ w : World, Inv (Sg1 M) (baseRen (Sg1 M).length) (Sg1 M) w →
  Calls Tryd.prog c.f args.toArray w fun e w' => e = .returned v ∧ RowKit.Below w.heap.size w w'
theorem orcV_of {M : Int} {l : List Con} (h : ∀ c ∈ l, ConOk M c) : ∀ (f : FuncId) (args : List Value) (t : OT) (v : Value), orcV l f args = some t → t.get = some v → ∀ w : World, Inv (Sg1 M) (baseRen (Sg1 M).length) (Sg1 M) w →
    Calls Tryd.prog f args.toArray w fun e w' => e = .returned v ∧ RowKit.Below w.heap.size w w' := by
  induction l with
  | nil => intro f args t v hv; simp [orcV] at hv
  | cons c l ih =>
    intro f args t v hv ht w inv
    simp only [orcV] at hv
    cases hb : Nat.beq c.f f with
    | true =>
      rw [hb] at hv
      have hf : c.f = f := Nat.eq_of_beq_eq_true hb
      subst hf
      exact h c (by simp) args t v hv ht w inv
    | false =>
      rw [hb] at hv
      exact ih (fun d hd => h d (by simp [hd])) f args t v hv ht w inv
theorem orcOk_of {M : Int} {l : List Con} (h : ∀ c ∈ l, ConOk M c) : OrcOk Tryd.prog (Sg1 M) (orcOf (orcL l)) := by
  refine ⟨fun f args v hv w inv => ?_, fun _ _ _ _ _ _ hv => ?_⟩
  · simp only [orcOf, orcL] at hv
    split at hv
    · rename_i t ht
      exact orcV_of h f args t v ht hv w inv
    · cases hv
  · simp only [orcOf, orcL] at hv; cases hv
def MConOk (M : Int) (c : MCon) : Prop := ∀ (fl : Nat) (args : List Value) (S : List Blk) (t : OTM) (v : Value) (S' : List Blk), c.dom fl args S = some t → t.get = some (v, S') → (Sg1 M).length ≤ fl → (Sg1 M).length ≤ S.length →
  CallAt Tryd.prog (Sg1 M) fl c.f args S v S'
theorem orcLM_ok {M : Int} {l : List Con} {m : List MCon} (h : ∀ c ∈ l, ConOk M c) (hm : ∀ c ∈ m, MConOk M c) : OrcOk Tryd.prog (Sg1 M) (orcOf (orcLM l m)) := by
  refine ⟨fun f args v hv w inv => ?_, fun fl f args S v S' hv h1 h2 => ?_⟩
  · simp only [orcOf, orcLM] at hv
    split at hv
    · rename_i t ht
      exact orcV_of h f args t v ht hv w inv
    · cases hv
  · have key : ∀ m : List MCon, (∀ c ∈ m, MConOk M c) → ∀ t, orcM m fl f args S = some t → t.get = some (v, S') → CallAt Tryd.prog (Sg1 M) fl f args S v S' := by
      intro m
      induction m with
      | nil => intro _ t ht; simp [orcM] at ht
      | cons c m ih =>
        intro hm t ht hg
        simp only [orcM] at ht
        cases hb : Nat.beq c.f f with
        | true =>
          rw [hb] at ht
          have hf : c.f = f := Nat.eq_of_beq_eq_true hb
          subst hf
          exact hm c (by simp) fl args S t v S' ht hg h1 h2
        | false =>
          rw [hb] at ht
          exact ih (fun d hd => hm d (by simp [hd])) t ht hg
    simp only [orcOf, orcLM] at hv
    split at hv
    · rename_i t ht
      exact key m hm t ht hv
    · cases hv
theorem mem_cons_mok {M : Int} {c : MCon} {l : List MCon} (h : MConOk M c) (hl : ∀ d ∈ l, MConOk M d) : ∀ d ∈ c :: l, MConOk M d := by
  intro d hd
  rcases List.mem_cons.1 hd with rfl | hd
  · exact h
  · exact hl d hd
theorem nil_mok {M : Int} : ∀ d ∈ ([] : List MCon), MConOk M d := by simp
theorem conOk_of_evF {M : Int} {l : List Con} (hl : ∀ c ∈ l, ConOk M c) {c : Con} (h : ∀ args t v, c.dom args = some t → t.get = some v → args.all plain = true ∧ EvF Tryd.prog (orcL l) (Sg1 M) c.f args v) : ConOk M c := by
  intro args t v ht hv w inv
  obtain ⟨h1, h2⟩ := h args t v ht hv
  exact h2.calls (sg1 M) (orcOk_of hl) h1 inv
theorem plainN (x : N) : plain (N.v x) = true := rfl

/-- Check. -/
def mn (x y : Int) : Int := if y < x then y else x
def mx (x y : Int) : Int := if y > x then y else x
def withinB (a b c d l : Int) : Bool := (mn (mn (mn (mn (IntKind.i64.wrap (0 - l)) a) b) c) d == IntKind.i64.wrap (0 - l)) && ((mx (mx (mx (mx l a) b) c) d == l) && true)
def chkI (x : N) : Int := bif decide (x.k < 0) then 3 else bif decide (x.k > 60) then 3 else bif !(withinB x.a x.b x.c x.d 1073741824) then 8 else 0
theorem t17 (M : Int) (m : Nat) (x : N) : runK Tryd.prog (orcL []) (Sg1 M) (m + 60) 17 [N.v x] =
    bif decide (x.k < 0) then some (.int .i64 3) else bif decide (x.k > 60) then some (.int .i64 3) else bif !(withinB x.a x.b x.c x.d 1073741824) then some (.int .i64 8) else some (.int .i64 0) := by kernel_rfl
theorem e17 (M : Int) (x : N) : EvF Tryd.prog (orcL []) (Sg1 M) 17 [N.v x] (.int .i64 (chkI x)) :=
  EvF.of_eq 60 fun m => by
    rw [t17]; unfold chkI
    cases decide (x.k < 0) <;> cases decide (x.k > 60) <;> cases withinB x.a x.b x.c x.d 1073741824 <;> rfl
/-- Contracts of functions of one number, and of two. -/
def con1 (f : FuncId) (g : N → OT) : Con := ⟨f, fun args => match args with
  | [v] => match asN v with
    | some x => some (g x)
    | none => none
  | _ => none⟩
theorem con1_ok {M : Int} {l : List Con} {f : FuncId} {g : N → OT} (hl : ∀ c ∈ l, ConOk M c) (h : ∀ x v, (g x).get = some v → EvF Tryd.prog (orcL l) (Sg1 M) f [N.v x] v) : ConOk M (con1 f g) := by
  refine conOk_of_evF hl ?_
  intro args t v ht hv
  simp only [con1] at ht
  split at ht
  · rename_i u
    split at ht
    · rename_i x hx
      rw [asN_eq hx]
      cases ht
      exact ⟨rfl, h x v hv⟩
    · cases ht
  · cases ht
def con2 (f : FuncId) (g : N → N → OT) : Con := ⟨f, fun args => match args with
  | [u, v] => match asN u, asN v with
    | some x, some y => some (g x y)
    | _, _ => none
  | _ => none⟩
theorem con2_ok {M : Int} {l : List Con} {f : FuncId} {g : N → N → OT} (hl : ∀ c ∈ l, ConOk M c) (h : ∀ x y v, (g x y).get = some v → EvF Tryd.prog (orcL l) (Sg1 M) f [N.v x, N.v y] v) : ConOk M (con2 f g) := by
  refine conOk_of_evF hl ?_
  intro args t v ht hv
  simp only [con2] at ht
  split at ht
  · rename_i u t'
    split at ht
    · rename_i x y hx hy
      rw [asN_eq hx, asN_eq hy]
      cases ht
      exact ⟨rfl, h x y v hv⟩
    · cases ht
  · cases ht
theorem mem_cons_ok {M : Int} {c : Con} {l : List Con} (h : ConOk M c) (hl : ∀ d ∈ l, ConOk M d) : ∀ d ∈ c :: l, ConOk M d := by
  intro d hd
  rcases List.mem_cons.1 hd with rfl | hd
  · exact h
  · exact hl d hd
theorem nil_ok {M : Int} : ∀ d ∈ ([] : List Con), ConOk M d := by simp
/-- Right numbers, and those with a right power of r. -/
def rgB (x : N) : Bool := !(decide (x.k < 0)) && !(decide (x.k > 60))
def inB (x : N) : Bool := withinB x.a x.b x.c x.d 1073741824
/-- Check, by tests. -/
def cChk : Con := con1 17 fun x => .ite (rgB x) (.ite (inB x) (.val (.int .i64 0)) (.val (.int .i64 8))) (.val (.int .i64 3))
theorem chkI_eq (x : N) : chkI x = bif rgB x then (bif inB x then 0 else 8) else 3 := by
  unfold chkI rgB inB
  cases decide (x.k < 0) <;> cases decide (x.k > 60) <;> cases withinB x.a x.b x.c x.d 1073741824 <;> rfl
theorem cChk_ok (M : Int) : ConOk M cChk := con1_ok nil_ok fun x v h => by
  have e := chkI_eq x
  simp only [OT.get] at h
  have h2 : v = .int .i64 (chkI x) := by
    rw [e]
    cases h1 : rgB x <;> cases h3 : inB x <;> rw [h1, h3] at h <;> cases h <;> rfl
  rw [h2]
  exact e17 M x
abbrev L1 : List Con := [cChk]
theorem L1_ok (M : Int) : ∀ c ∈ L1, ConOk M c := mem_cons_ok (cChk_ok M) nil_ok
end Go.Proofs.YtihccnfaibiiiaaDoor.R
