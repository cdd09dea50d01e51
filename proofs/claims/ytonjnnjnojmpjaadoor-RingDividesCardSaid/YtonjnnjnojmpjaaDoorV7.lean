/- A small evaluator over a shadow heap, part 7: an operation in a region. -/
import Derived.Test.YtonjnnjnojmpjaaDoorV6
namespace Go.Proofs.XX.Vm
open Go Go.RowKit

/-- All that is asked of renaming, shadow and world: the first blocks are the package-level variables. -/
structure Inv (Sg : List Blk) (φ : Ren) (S : List Blk) (w : World) : Prop where
  ok : Ok Sg.length φ S w
  base : ∀ g, g < Sg.length → S[g]? = Sg[g]?
  len : Sg.length ≤ S.length

theorem Inv.step {Sg : List Blk} {fl : Nat} {φ ψ : Ren} {S S' : List Blk} {w w' : World} (h : Inv Sg φ S w) (hfl : Sg.length ≤ fl) (s : Step fl φ S w ψ S' w') (g : Good ψ S' w') : Inv Sg ψ S' w' :=
  ⟨⟨g, fun x hx => s.ext _ _ (h.ok.glob x hx)⟩, fun x hx => by rw [s.keep x (by omega) (by have := h.len; omega), h.base x hx], Nat.le_trans h.len s.len⟩

/-- The shadow heap has grown, and nothing below fl has turned. -/
def Ext (fl : Nat) (S S' : List Blk) : Prop := S.length ≤ S'.length ∧ ∀ b, b < fl → b < S.length → S'[b]? = S[b]?
theorem Ext.refl (fl : Nat) (S : List Blk) : Ext fl S S := ⟨Nat.le_refl _, fun _ _ _ => rfl⟩
theorem Ext.trans {fl : Nat} {S S' S'' : List Blk} (h : Ext fl S S') (k : Ext fl S' S'') : Ext fl S S'' :=
  ⟨Nat.le_trans h.1 k.1, fun b e1 e2 => by rw [k.2 b e1 (Nat.lt_of_lt_of_le e2 h.1), h.2 b e1 e2]⟩
theorem Ext.app (fl : Nat) (S T : List Blk) : Ext fl S (S ++ T) := ⟨by simp, fun b _ e2 => by rw [List.getElem?_append_left e2]⟩

/-- A caller that is right. -/
structure ClOk (P : Program) (Sg : List Blk) (cl : Caller) : Prop where
  call : ∀ (fl : Nat) (f : FuncId) (args : List Value) (S : List Blk) (v : Value) (S' : List Blk), cl.call fl f args S = some (v, S') → Sg.length ≤ fl → Sg.length ≤ S.length →
    Ext fl S S' ∧ ∀ (φ : Ren) (w : World) (args' : List Value), Inv Sg φ S w → LRel φ args args' → Fresh φ S.length S'.length →
      Calls P f args'.toArray w fun e w' => ∃ v' ψ, e = .returned v' ∧ VRel ψ v v' ∧ Good ψ S' w' ∧ Step fl φ S w ψ S' w'
  round : ∀ (fl l : Nat) (args : List Value) (S : List Blk) (v : Value) (S' : List Blk), cl.round fl l args S = some (v, S') → Sg.length ≤ fl → Sg.length ≤ S.length →
    Ext fl S S' ∧ ∀ (φ : Ren) (w : World) (r : Nat) (args' : List Value), Inv Sg φ S w → φ l = some r → LRel φ args args' → Fresh φ S.length S'.length →
      ∃ fn tmps assign body, (Instr.yield r args'.toArray).run P w = .ok (.round r fn tmps assign body) w ∧
        RoundIn Fence.wide 0 P r fn tmps assign body w fun e w' => ∃ v' ψ, e = .returned v' ∧ VRel ψ v v' ∧ Good ψ S' w' ∧ Step fl φ S w ψ S' w'

/-- A fence that lets all by, in a round or not. -/
def wideAt (ro : Option Nat) : Fence := { Fence.wide with round := ro }
theorem callsIn_wideAt {ro : Option Nat} {n : Nat} {P : Program} {f : FuncId} {args : Array Value} {w : World} {R : Ending → World → Prop} : CallsIn (wideAt ro) n P f args w R ↔ Calls P f args w R :=
  callsIn_wide (n := n)

section
variable {P : Program} {ro : Option Nat}

theorem writeAt_length : ∀ (vs : List Value) (l : List Value) (o : Nat), (writeAt l o vs).length = l.length := by
  intro vs
  induction vs with
  | nil => intro l o; rfl
  | cons v vs ih => intro l o; simp [writeAt, ih]

theorem store_ext {fl : Nat} {t : TypeId} {S S' : List Blk} {p v : Value} (h : store P fl t S p v = some S') : Ext fl S S' := by
  unfold store at h
  simp only [forceK_eq] at h
  repeat' split at h
  all_goals first
    | (cases h; done)
    | (rename_i hc; cases h; simp only [Bool.and_eq_true, decide_eq_true_eq] at hc
       exact ⟨by simp, fun x e1 _ => by rw [List.getElem?_set_ne (by omega)]⟩)

theorem pureTry_heap {gl : Nat} {S S' : List Blk} {T : List Value} {o : Oper} {v : Value} (h : pureTry P gl o T S = some (.val v S')) : S' = S := by
  unfold pureTry at h
  repeat' split at h
  all_goals first | (cases h; done) | (cases h; rfl)

theorem evOp_ext {gl fl : Nat} {S S' : List Blk} {T : List Value} {o : Oper} {v : Value} (h : evOp P gl fl o T S = some (.val v S')) : Ext fl S S' := by
  unfold evOp at h
  simp only [forceK_eq] at h
  repeat' split at h
  all_goals first
    | (cases h; done)
    | (cases h; exact Ext.refl _ _)
    | (cases h; exact Ext.app _ _ _)
    | (rename_i hs; cases h; exact store_ext hs)
    | (rename_i hs; cases h; rcases nextP_set hs with rfl | ⟨b, K, h1, rfl⟩; exact Ext.refl _ _; exact ⟨by simp, fun x e1 _ => by rw [List.getElem?_set_ne (by omega)]⟩)
    | (rename_i hs; cases h; obtain ⟨b, K, h1, rfl⟩ := updateP_set hs; exact ⟨by simp, fun x e1 _ => by rw [List.getElem?_set_ne (by omega)]⟩)
    | (rw [pureTry_heap h]; exact Ext.refl _ _)
    | exact (callee_call h).elim

theorem opRes_ext {Sg : List Blk} {cl : Caller} (hcl : ClOk P Sg cl) {gl fl : Nat} (hfl : Sg.length ≤ fl) {ops : Array Oper} {o : Oper} {T : List Value} {S S' : List Blk} {v : Value} (hS : Sg.length ≤ S.length)
    (h : opRes P gl cl fl ops o T S = some (v, S')) : Ext fl S S' := by
  unfold opRes at h
  split at h
  · split at h
    · rename_i hv; cases h; exact evOp_ext hv
    · exact (hcl.call _ _ _ _ _ _ h hfl hS).1
    · exact (hcl.round _ _ _ _ _ _ h hfl hS).1
    · cases h
  · cases h; exact Ext.refl _ _
  · cases h

theorem wantedS_rel {φ : Ren} {T : List Value} {a : Act} {ops : Array Oper} {o : Oper} {b : Bool} (h : wantedS ops T o = some b)
    (hT : ∀ j want p d v, o.guard = some (j, want) → ops[j]? = some p → p.dst = some d → T[d]? = some v → ∃ v', a.tmps[d]? = some v' ∧ VRel φ v v') :
    Region.wanted o (yielded ops a.tmps) = b := by
  unfold wantedS at h
  unfold Region.wanted
  split at h
  · rename_i hg; cases h; simp [hg]
  · rename_i j want hg
    split at h
    · rename_i p hp
      split at h
      · rename_i d hd
        split at h
        · rename_i β hβ
          cases h
          have hβ' : T[d]? = some (.bool β) := by
            rw [nthD_eq] at hβ
            cases ht : T[d]? with
            | none => rw [ht] at hβ; cases hβ
            | some u => rw [ht] at hβ; exact congrArg some hβ
          obtain ⟨v', h1, h2⟩ := hT j want p d _ hg hp hd hβ'
          cases h2
          simp [hg, yielded, hp, hd, h1]
        · rename_i xs hβ
          split at h
          · cases hl : Nat.blt d T.length with
            | false => rw [hl] at h; cases h
            | true =>
              rw [hl] at h
              cases h
              have hlt : d < T.length := by simpa [Nat.blt_eq] using hl
              have hβ' : T[d]? = some (.tuple xs) := by
                rw [nthD_eq] at hβ
                rw [List.getElem?_eq_getElem hlt] at hβ ⊢
                exact congrArg some hβ
              obtain ⟨v', h1, h2⟩ := hT j want p d _ hg hp hd hβ'
              cases h2
              simp [hg, yielded, hp, hd, h1]
          · cases h
        · cases h
      · cases h
    · cases h

/-- An operation of a region and what follows it. -/
theorem opRes_wp {Sg : List Blk} {cl : Caller} (hcl : ClOk P Sg cl) {fl : Nat} (hfl : Sg.length ≤ fl) {ops : Array Oper} {i : Nat} {o : Oper} (hi : ops[i]? = some o) {T T2 : List Value} {S S' : List Blk} {v : Value}
    (h : opRes P Sg.length cl fl ops o T S = some (v, S')) {φ : Ren} {w : World} {a a2 : Act} (inv : Inv Sg φ S w) (hT : LRel φ T2 a2.tmps.toList) (hev2 : evOp P Sg.length fl o T2 S = evOp P Sg.length fl o T S) (he : execOp a2.eval o = execOp a.eval o)
    (hw : ∀ b, wantedS ops T o = some b → Region.wanted o (yielded ops a.tmps) = b)
    (hf : Fresh φ S.length S'.length) {Q : Exit → Act → World → Prop} {K : Act → World → Prop}
    (hK : ∀ (v' : Value) (ψ : Ren) (w' : World), VRel ψ v v' → Good ψ S' w' → Step fl φ S w ψ S' w' → K (a.put o.dst v') w') : wpOpIn (wideAt ro) 0 P ops Q i K a w := by
  unfold wpOpIn
  simp only [hi]
  unfold opRes at h
  split at h
  · rename_i hwt
    rw [hw _ hwt, if_pos rfl]
    refine ⟨fun _ _ => trivial, ?_⟩
    have hnd : ∀ c, o.op ≠ .defer c := by
      intro c hc
      have := evOp_defer (P := P) (gl := Sg.length) (fl := fl) (S := S) (T := T) hc
      rw [this] at h
      cases h
    rw [Oper.semAt_eq _ _ _ hnd, ← he]
    split at h
    · rename_i u S2 hev
      cases h
      obtain ⟨v', w', ψ, hr, hv, hg, hs⟩ := evOp_val (P := P) inv.ok hT (hev2.trans hev) hf
      rcases hr with hr | ⟨hr, rfl⟩
      · rw [hr]; exact hK v' ψ w' hv hg hs
      · rw [hr]; exact hK undef ψ w' hv hg hs
    · rename_i f args hev
      obtain ⟨args', hr, hargs⟩ := evOp_call (P := P) inv.ok hT (hev2.trans hev)
      rw [hr]
      refine ⟨(fun hd => by cases hd), callsIn_wideAt.2 (Calls.mono ((hcl.call _ _ _ _ _ _ h hfl inv.len).2 φ w args' inv hargs hf) ?_)⟩
      rintro e w' ⟨v', ψ, rfl, hv, hg, hs⟩
      exact hK v' ψ w' hv hg hs
    · rename_i l args hev
      obtain ⟨r, args', hl, hr, hargs, _⟩ := evOp_round (P := P) inv.ok hT (hev2.trans hev)
      obtain ⟨fn, tmps, assign, body, hy, hround⟩ := (hcl.round _ _ _ _ _ _ h hfl inv.len).2 φ w r args' inv hl hargs hf
      rw [hr, hy]
      refine ⟨(fun hd => by cases hd), RoundIn.mono (show RoundIn (wideAt ro) 0 P r fn tmps assign body w _ from hround) ?_⟩
      rintro e w' ⟨v', ψ, rfl, hv, hg, hs⟩
      exact hK v' ψ w' hv hg hs
    · cases h
  · rename_i hwt
    cases h
    rw [hw _ hwt, if_neg (by simp)]
    exact ⟨fun _ _ => trivial, hK undef φ w (undef_refl _) inv.ok.good (Step.refl _ _ _ _)⟩
  · cases h

theorem LRel.put {φ : Ren} {T : List Value} {a : Act} (h : LRel φ T a.tmps.toList) (d : Option Tmp) {v v' : Value} (hv : VRel φ v v') : LRel φ (putL T d v) (a.put d v').tmps.toList := by
  cases d with
  | none => exact h
  | some d => simpa [putL, Act.put] using h.set hv d
theorem put_defers (a : Act) (d : Option Tmp) (v : Value) : (a.put d v).defers = a.defers := by cases d <;> rfl

theorem LRel.guard {φ : Ren} {T : List Value} {a : Act} (h : LRel φ T a.tmps.toList) {d : Nat} {v : Value} (hv : T[d]? = some v) : ∃ v', a.tmps[d]? = some v' ∧ VRel φ v v' := by
  obtain ⟨v', h1, h2⟩ := h.get hv
  exact ⟨v', by simpa using h1, h2⟩

theorem evOps_ext {Sg : List Blk} {cl : Caller} (hcl : ClOk P Sg cl) {gl fl : Nat} (hfl : Sg.length ≤ fl) {ops : Array Oper} : ∀ {l : List Oper} {T T' : List Value} {S S' : List Blk}, Sg.length ≤ S.length →
    evOps P gl cl fl ops l T S = some (T', S') → Ext fl S S' := by
  intro l
  induction l with
  | nil => intro T T' S S' _ h; cases h; exact Ext.refl _ _
  | cons o l ih =>
    intro T T' S S' hS h
    simp only [evOps, putK_eq] at h
    split at h
    · rename_i v S1 h1
      have hx := opRes_ext hcl hfl hS h1
      exact hx.trans (ih (Nat.le_trans hS hx.1) h)
    · cases h

/-- A region in the text's order. -/
theorem evOps_wp {Sg : List Blk} {cl : Caller} (hcl : ClOk P Sg cl) {fl : Nat} (hfl : Sg.length ≤ fl) {ops : Array Oper} {Q : Exit → Act → World → Prop} :
    ∀ (l : List Oper) (n : Nat) (T T' : List Value) (S S' : List Blk), ops.toList.drop n = l → evOps P Sg.length cl fl ops l T S = some (T', S') →
    ∀ (φ : Ren) (a : Act) (w : World), Inv Sg φ S w → LRel φ T a.tmps.toList → Fresh φ S.length S'.length →
    (∀ (ψ : Ren) (a' : Act) (w' : World), Good ψ S' w' → LRel ψ T' a'.tmps.toList → a'.defers = a.defers → Step fl φ S w ψ S' w' → Q .normal a' w') →
    wpOpsIn (wideAt ro) 0 P ops Q (List.range' n l.length) a w := by
  intro l
  induction l with
  | nil =>
    intro n T T' S S' _ h φ a w inv hT _ hQ
    cases h
    exact hQ φ a w inv.ok.good hT rfl (Step.refl _ _ _ _)
  | cons o l ih =>
    intro n T T' S S' hn h φ a w inv hT hf hQ
    simp only [evOps, putK_eq] at h
    split at h
    · rename_i v S1 h1
      have hi : ops[n]? = some o := by
        have : ops.toList[n]? = some o := by
          have := congrArg (·[0]?) hn
          simpa using this
        simpa using this
      have hl1 := (opRes_ext hcl hfl inv.len h1).1
      have hl2 := (evOps_ext hcl hfl (Nat.le_trans inv.len hl1) h).1
      simp only [List.length_cons, List.range'_succ, wpOpsIn_cons]
      refine opRes_wp hcl hfl hi h1 inv hT rfl rfl (fun b hb => wantedS_rel (φ := φ) hb fun j want p d u _ _ _ hu => hT.guard hu) (fun b e1 e2 => hf b e1 (by omega)) ?_
      intro v' ψ w' hv hg hs
      refine ih (n + 1) _ _ _ _ ?_ h ψ (a.put o.dst v') w' (inv.step hfl hs hg) ((hT.mono hs.ext).put o.dst hv) (hs.fresh hf) ?_
      · rw [← List.drop_drop, hn]; rfl
      · intro χ a' w'' g1 g2 g3 g4
        exact hQ χ a' w'' g1 g2 (by rw [g3, put_defers]) (hs.trans g4 hf)
    · cases h
end
end Go.Proofs.XX.Vm
