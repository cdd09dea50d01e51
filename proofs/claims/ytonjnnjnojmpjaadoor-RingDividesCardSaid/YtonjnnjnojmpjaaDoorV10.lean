/- A small evaluator over a shadow heap, part 10: an operation looks at its operands alone. -/
import Derived.Test.YtonjnnjnojmpjaaDoorV9
namespace Go.Proofs.XX.Vm
open Go Go.RowKit
section
variable {P : Program}

theorem opds_congr {gl : Nat} {T T2 : List Value} : ∀ {l : List Operand}, (∀ x ∈ l, opd gl T2 x = opd gl T x) → opds gl T2 l = opds gl T l := by
  intro l
  induction l with
  | nil => intro _; rfl
  | cons x l ih =>
    intro h
    simp only [opds]
    rw [h x (List.mem_cons_self ..), ih fun y hy => h y (List.mem_cons_of_mem _ hy)]

theorem pureTry_congr {gl : Nat} {T T2 : List Value} {o : Oper} {S : List Blk} (h : ∀ x ∈ o.op.operands.toList, opd gl T2 x = opd gl T x) : pureTry P gl o T2 S = pureTry P gl o T S := by
  unfold pureTry
  rw [opds_congr h]
  split
  · split
    · rename_i hc
      simp only [Bool.and_eq_true] at hc
      rw [execOp_congr (ρ := fun x => (opd gl T2 x).getD undef) (ρ' := fun x => (opd gl T x).getD undef) o (pureOp_select hc.1) fun x hx => by rw [h x (by simpa using hx)]]
    · rfl
  · rfl

theorem evOp_congr {gl fl : Nat} {T T2 : List Value} {o : Oper} {S : List Blk} (h : ∀ x ∈ o.op.operands.toList, opd gl T2 x = opd gl T x) : evOp P gl fl o T2 S = evOp P gl fl o T S := by
  have hp := pureTry_congr (P := P) (S := S) h
  obtain ⟨dst, op, ty, pos, after, guard⟩ := o
  simp only at h
  cases op
  case call c =>
    obtain ⟨callee, args, argTypes⟩ := c
    cases callee
    case value f =>
      simp only [evOp]
      have h1 := h f (by simp [Op.operands, Call.operands])
      have h2 := opds_congr (l := args.toList) fun x hx => h x (by simp [Op.operands, Call.operands]; right; simpa using hx)
      rw [h1, h2]
    case builtin b =>
      have h2 := opds_congr (l := args.toList) fun x hx => h x (by simp [Op.operands, Call.operands]; simpa using hx)
      cases b
      case len => simp only [evOp]; rw [h2, hp]
      all_goals exact hp
    case invoke r m => exact hp
  case makeFunc fn first captured =>
    cases fn
    case func f =>
      simp only [evOp]
      have h1 := opds_congr (l := first.toList) fun x hx => h x (by simp [Op.operands]; left; simpa using hx)
      have h2 := opds_congr (l := captured.toList) fun x hx => h x (by simp [Op.operands]; right; simpa using hx)
      rw [h1, h2]
    all_goals exact hp
  case buildSlice t len parts =>
    simp only [evOp]
    rw [opds_congr (l := parts.toList.map (·.2)) fun x hx => h x (by simpa [Op.operands] using hx)]
  case next x isString =>
    cases isString
    · rfl
    · simp only [evOp]; rw [h x (by simp [Op.operands])]
  case makeMap t r =>
    cases r
    · rfl
    · exact hp
  case slice t x lo hi mx =>
    cases lo <;> cases hi <;> cases mx
    case none.none.none => simp only [evOp]; rw [h x (by simp [Op.operands]), hp]
    all_goals exact hp
  all_goals first
    | exact hp
    | (simp only [evOp, hp]; simp only [Op.operands] at h; simp only [h _ (List.mem_cons_self ..)]; done)
    | (simp only [evOp]; simp only [Op.operands] at h; rw [h _ (List.mem_cons_self ..), h _ (List.mem_cons_of_mem _ (List.mem_cons_self ..)), hp]; done)
    | (simp only [evOp]; simp only [Op.operands] at h; simp only [h _ (List.mem_cons_self ..), h _ (List.mem_cons_of_mem _ (List.mem_cons_self ..))]; done)
    | (simp only [evOp]; simp only [Op.operands] at h; simp only [h _ (List.mem_cons_self ..), h _ (List.mem_cons_of_mem _ (List.mem_cons_self ..)), h _ (List.mem_cons_of_mem _ (List.mem_cons_of_mem _ (List.mem_cons_self ..)))]; done)
    | rfl

def maskL (o : Oper) (l : List Value) : List Value := l.mapIdx fun t v => if (tmpsOf o).contains t then v else undef
theorem mask_opd {gl : Nat} {T : List Value} {o : Oper} : ∀ x ∈ o.op.operands.toList, opd gl (maskL o T) x = opd gl T x := by
  intro x hx
  cases x with
  | tmp t =>
    have : (tmpsOf o).contains t = true := by
      simp only [List.contains_iff_mem, tmpsOf, List.mem_filterMap]
      exact ⟨.tmp t, hx, rfl⟩
    simp only [opd, nthD_eq, maskL, List.getElem?_mapIdx]
    have this' : t ∈ tmpsOf o := by simpa using this
    cases T[t]? <;> simp [this']
  | _ => rfl
theorem mask_eval {a : Act} {o : Oper} : ∀ x ∈ o.op.operands, ({ a with tmps := (maskL o a.tmps.toList).toArray } : Act).eval x = a.eval x := by
  intro x hx
  cases x with
  | tmp t =>
    have : (tmpsOf o).contains t = true := by
      simp only [List.contains_iff_mem, tmpsOf, List.mem_filterMap]
      exact ⟨.tmp t, by simpa using hx, rfl⟩
    simp only [Act.eval, maskL, Array.getD_eq_getD_getElem?]
    simp only [List.getElem?_toArray, List.getElem?_mapIdx, Array.getElem?_toList]
    have this' : t ∈ tmpsOf o := by simpa using this
    cases a.tmps[t]? <;> simp [this']
  | _ => rfl
theorem mask_rel {φ : Ren} {o : Oper} {T : List Value} {a : Act} (hlen : T.length = a.tmps.size) (h : ∀ t ∈ tmpsOf o, ∀ v v', T[t]? = some v → a.tmps[t]? = some v' → VRel φ v v') :
    LRel φ (maskL o T) (maskL o a.tmps.toList) := by
  refine ⟨by simp [maskL, hlen], fun i v v' hv hv' => ?_⟩
  simp only [maskL, List.getElem?_mapIdx] at hv hv'
  cases h1 : T[i]? with
  | none => simp [h1] at hv
  | some u => cases h2 : a.tmps.toList[i]? with
    | none => simp [h2] at hv'
    | some u' =>
      simp only [h1, h2, Option.map_some, Option.some.injEq] at hv hv'
      subst hv; subst hv'
      by_cases hc : (tmpsOf o).contains i = true
      · simp only [hc, if_true]
        exact h i (by simpa using hc) u u' h1 (by simpa using h2)
      · simp only [hc]
        exact undef_refl φ
end
end Go.Proofs.XX.Vm
