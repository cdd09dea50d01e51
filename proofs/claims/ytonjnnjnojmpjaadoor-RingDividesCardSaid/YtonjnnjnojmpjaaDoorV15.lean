/- A small evaluator over a shadow heap, part 15: operations that may come before or behind what writes to other blocks. -/
import Derived.Test.YtonjnnjnojmpjaaDoorV12
namespace Go.Proofs.XX.Vm
open Go Go.RowKit

section
variable {P : Program}

theorem pureTry_fac {gl : Nat} {T : List Value} {o : Oper} : ∃ g : Option Value, ∀ S : List Blk, pureTry P gl o T S = g.map fun v => R.val v S := by
  unfold pureTry
  cases opds gl T o.op.operands.toList with
  | none => exact ⟨none, fun S => rfl⟩
  | some vs =>
    by_cases hc : (pureOp o.op && vs.all plain) = true
    · simp only [hc, if_true]
      cases pureSem P (execOp (fun x => (opd gl T x).getD undef) o) with
      | none => exact ⟨none, fun S => rfl⟩
      | some e =>
        cases e with
        | value v =>
          by_cases hp : plain v = true
          · exact ⟨some v, fun S => by simp [hp]⟩
          · exact ⟨none, fun S => by simp [hp]⟩
        | _ => exact ⟨none, fun S => rfl⟩
    · exact ⟨none, fun S => by simp [hc]⟩

theorem reg_fac {gl : Nat} {T : List Value} {o : Oper} (h : regOnly o.op = true) : ∃ g : Option Value, ∀ (fl : Nat) (S : List Blk), evOp P gl fl o T S = g.map fun v => R.val v S := by
  obtain ⟨gp, hp⟩ := pureTry_fac (P := P) (gl := gl) (T := T) (o := o)
  have hd : ∃ g : Option Value, ∀ (fl : Nat) (S : List Blk), pureTry P gl o T S = g.map fun v => R.val v S := ⟨gp, fun _ S => hp S⟩
  obtain ⟨dst, op, ty, pos, after, guard⟩ := o
  simp only at h
  cases op
  case move x => exact ⟨opd gl T x, fun fl S => by simp only [evOp]; cases opd gl T x <;> rfl⟩
  case assign x => exact ⟨opd gl T x, fun fl S => by simp only [evOp]; cases opd gl T x <;> rfl⟩
  case pick c a b =>
    simp only [evOp]
    split
    · rename_i β v u _ _ _; exact ⟨some (bif β then v else u), fun fl S => rfl⟩
    · exact ⟨none, fun fl S => rfl⟩
  case nilCheck x =>
    simp only [evOp]
    split
    · exact ⟨some _, fun fl S => rfl⟩
    · exact ⟨none, fun fl S => rfl⟩
  case fieldAddr t x f =>
    simp only [evOp]
    split
    · split
      · exact ⟨some _, fun fl S => rfl⟩
      · exact ⟨none, fun fl S => rfl⟩
    · exact ⟨none, fun fl S => rfl⟩
  case indexAddr t x i =>
    simp only [evOp]
    split
    · split
      · exact ⟨some _, fun fl S => rfl⟩
      · exact ⟨none, fun fl S => rfl⟩
    · exact ⟨none, fun fl S => rfl⟩
  case binOp op t x y s =>
    simp only [evOp]
    split
    · split
      · exact ⟨some _, fun fl S => rfl⟩
      · exact hd
    · split
      · split
        · exact ⟨some _, fun fl S => rfl⟩
        · exact hd
      · exact hd
    · exact hd
  case call c =>
    obtain ⟨callee, args, argTypes⟩ := c
    cases callee
    case builtin b =>
      cases b
      case len =>
        simp only [evOp]
        split
        · split
          · exact ⟨some _, fun fl S => rfl⟩
          · exact ⟨none, fun fl S => rfl⟩
        · exact hd
      all_goals exact hd
    all_goals cases h
  case slice t x lo hi mx =>
    cases lo <;> cases hi <;> cases mx
    case none.none.none =>
      simp only [evOp]
      split
      · split
        · exact ⟨some _, fun fl S => rfl⟩
        · exact ⟨none, fun fl S => rfl⟩
      · exact hd
    all_goals exact hd
  all_goals first
    | (cases h; done)
    | exact hd

theorem opRes_reg {gl fl : Nat} {cl : Caller} {ops : Array Oper} {o : Oper} {T : List Value} {S S1 : List Blk} {v : Value} (ho : regOnly o.op = true) (h : opRes P gl cl fl ops o T S = some (v, S1)) :
    S1 = S ∧ ∀ (fl2 : Nat) (S2 : List Blk), opRes P gl cl fl2 ops o T S2 = some (v, S2) := by
  obtain ⟨g, hg⟩ := reg_fac (P := P) (gl := gl) (T := T) ho
  unfold opRes at h ⊢
  split at h
  · rename_i hw
    rw [hg] at h
    cases g with
    | none => cases h
    | some u =>
      cases h
      exact ⟨rfl, fun fl2 S2 => by simp only [hg, Option.map_some]⟩
  · rename_i hw
    cases h
    exact ⟨rfl, fun fl2 S2 => by simp only⟩
  · cases h

theorem opRes_load {gl fl : Nat} {cl : Caller} {ops : Array Oper} {o : Oper} {T : List Value} {S S1 : List Blk} {v : Value} {ty : TypeId} {x : Operand} {b off : Nat} (ho : o.op = .load ty x) (hx : opd gl T x = some (.pointer (some ⟨b, off, none⟩)))
    (h : opRes P gl cl fl ops o T S = some (v, S1)) : S1 = S ∧ ∀ (fl2 : Nat) (S2 : List Blk), (b < S.length → S2[b]? = S[b]?) → opRes P gl cl fl2 ops o T S2 = some (v, S2) := by
  unfold opRes at h ⊢
  split at h
  · rename_i hw
    simp only [evOp, ho, hx] at h ⊢
    cases hl : load P ty S (.pointer (some ⟨b, off, none⟩)) with
    | none => rw [hl] at h; cases h
    | some u =>
      rw [hl] at h
      cases h
      refine ⟨rfl, fun fl2 S2 e => ?_⟩
      have hb : b < S.length := by
        simp only [load] at hl
        split at hl
        · rename_i hk; exact (List.getElem?_eq_some_iff.1 hk).1
        · cases hl
      have : load P ty S2 (.pointer (some ⟨b, off, none⟩)) = some v := by
        simp only [load] at hl ⊢
        rw [e hb]; exact hl
      simp only [this]
  · rename_i hw
    cases h
    exact ⟨rfl, fun fl2 S2 _ => by simp only⟩
  · cases h

theorem floatBlks_spec {ops : Array Oper} {T : List Value} : ∀ (F : List Nat) (B : List (Nat × Nat)), floatBlks ops T F = some B → ∀ j ∈ F, ∃ o, ops[j]? = some o ∧
    (regOnly o.op = true ∨ ∃ ty t b off, o.op = .load ty (.tmp t) ∧ nthD T t = .pointer (some ⟨b, off, none⟩) ∧ (j, b) ∈ B) := by
  intro F
  induction F with
  | nil => intro B _ j hj; cases hj
  | cons i F ih =>
    intro B h j hj
    simp only [floatBlks] at h
    split at h
    · rename_i o B1 ho hB
      rw [getR_arr] at ho
      have tl : ∀ B2 : List (Nat × Nat), (∀ b ∈ B1, b ∈ B2) → j ∈ F → ∃ o, ops[j]? = some o ∧ (regOnly o.op = true ∨ ∃ ty t b off, o.op = .load ty (.tmp t) ∧ nthD T t = .pointer (some ⟨b, off, none⟩) ∧ (j, b) ∈ B2) := by
        intro B2 hs hm
        obtain ⟨o, h1, h2⟩ := ih B1 hB j hm
        refine ⟨o, h1, ?_⟩
        rcases h2 with h2 | ⟨ty, t, b, off, h2, h3, h4⟩
        · exact .inl h2
        · exact .inr ⟨ty, t, b, off, h2, h3, hs _ h4⟩
      split at h
      · rename_i hr
        cases h
        cases hj with
        | head => exact ⟨o, ho, .inl hr⟩
        | tail _ hm => exact tl _ (fun _ h => h) hm
      · split at h
        · rename_i ty t hop
          split at h
          · rename_i b off hn
            cases h
            cases hj with
            | head => exact ⟨o, ho, .inr ⟨ty, t, b, off, hop, hn, List.mem_cons_self ..⟩⟩
            | tail _ hm => exact tl _ (fun _ h => List.mem_cons_of_mem _ h) hm
          · cases h
        · cases h
    · cases h

theorem quiet_keeps {gl fl : Nat} {cl : Caller} {ops : Array Oper} {o : Oper} {T : List Value} {S S1 : List Blk} {v : Value} {B : List (Nat × Nat)} (hq : quietOp gl B o T = true) (h : opRes P gl cl fl ops o T S = some (v, S1)) :
    ∀ p ∈ B, S1[p.2]? = S[p.2]? := by
  intro p hb
  unfold quietOp at hq
  split at hq
  · cases hb
  · split at hq
    · rename_i t x y hop
      split at hq
      · rename_i b2 off hx
        have hne : b2 ≠ p.2 := by
          intro e
          rw [allR_eq, List.all_eq_true] at hq
          have := hq p hb
          simp [e] at this
        unfold opRes at h
        split at h
        · simp only [evOp, hop, hx] at h
          cases hy : opd gl T y with
          | none => rw [hy] at h; cases h
          | some u =>
            rw [hy] at h
            simp only at h
            cases hs : store P fl t S (.pointer (some ⟨b2, off, none⟩)) u with
            | none => rw [hs] at h; cases h
            | some S2 =>
              rw [hs] at h
              cases h
              unfold store at hs
              simp only [forceK_eq] at hs
              repeat' split at hs
              all_goals first
                | (cases hs; done)
                | (cases hs; rw [List.getElem?_set_ne hne])
        · cases h; rfl
        · cases h
      · cases hq
    · rw [(opRes_reg hq h).1]
end
end Go.Proofs.XX.Vm
