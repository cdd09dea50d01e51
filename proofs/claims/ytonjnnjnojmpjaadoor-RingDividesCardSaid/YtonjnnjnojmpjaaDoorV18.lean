/- A small evaluator over a shadow heap, part 18: what is evaluated is what the program does. -/
import Derived.Test.YtonjnnjnojmpjaaDoorV17
namespace Go.Proofs.XX.Vm
open Go Go.RowKit

section
variable {P : Program}

theorem Then.trans {fl : Nat} {φ ψ : Ren} {S S1 S' : List Blk} {w w1 : World} {d d1 : List Deferred} {x : Ex} {T' : List Value} {Q : Exit → Act → World → Prop} (hQ : Then fl φ S w d x T' S' Q)
    (g3 : Defs w.heap.size d d1 ψ w1) (g4 : Step fl φ S w ψ S1 w1) (hf : Fresh φ S.length S'.length) : Then fl ψ S1 w1 d1 x T' S' Q :=
  fun χ a2 w2 f1 f2 f3 f4 => hQ χ a2 w2 f1 f2 (g3.trans f4 g4.size f3) (g4.trans f4 hf)

theorem stepR_scopeV {b : Frame} {a : Act} {k : List Item} {cs : List Frame} {w : World} {c : Code} : step P (lone (b.atR a (.code (.scope c) :: k)) cs w) = .next (lone (b.atR a (.code c :: .inScope c :: k)) cs w) :=
  step_lone_go (by simp [stepG, stepG.exec, Frame.atR])
theorem stepR_inScopeV {b : Frame} {a : Act} {k : List Item} {cs : List Frame} {w : World} {c : Code} : step P (lone (b.atR a (.inScope c :: k)) cs w) = .next (lone (b.atR a k) cs w) :=
  step_lone_go (by simp [stepG, stepG.exec, Frame.atR])
theorem wpIn_scopeV {F : Fence} {n : Nat} {Q : Exit → Act → World → Prop} {a : Act} {w : World} {c : Code} (h : c.wpIn F n P (Exit.noGoto Q) a w) : (Code.scope c).wpIn F n P Q a w := by
  intro b k cs hro hb hr
  have h0 : (lone (b.atR a (.code (.scope c) :: k)) cs w).fenced P F := fenced_calm hb hr rfl
  obtain ⟨e, a₁, w₁, hq, harr⟩ := h b (.inScope c :: k) cs hro hb hr
  cases e with
  | normal => exact ⟨.normal, a₁, w₁, hq, .head h0 stepR_scopeV (StepsIn.trans harr (.one (fenced_calm hb hr rfl) stepR_inScopeV))⟩
  | exit id =>
    have hx : exitTo id (.inScope c :: k) = exitTo id k := by simp [exitTo]
    exact ⟨.exit id, a₁, w₁, hq, fun k' hk => .head h0 stepR_scopeV (harr.1 k' (by rw [hx]; exact hk)),
      fun hr' hk => let ⟨k₁, h1, h2⟩ := harr.2 hr' (by rw [hx]; exact hk); ⟨k₁, h1, .head h0 stepR_scopeV h2⟩⟩
  | goto l => exact hq.elim
  | ret => exact ⟨_, a₁, w₁, hq, .of_steps (.one h0 stepR_scopeV) harr⟩
  | panic ch => exact ⟨_, a₁, w₁, hq, .of_steps (.one h0 stepR_scopeV) harr⟩
  | outgrown => exact ⟨_, a₁, w₁, hq, .of_steps (.one h0 stepR_scopeV) harr⟩

theorem callS_ok {orc : FuncId → List Value → Option Value} {Sg : List Blk} (hsg : SgOk Sg) (horc : OrcOk P Sg orc) {rec : RecT} (hcode : CodeOk P Sg rec) {fl : Nat} {f : FuncId} {args : List Value} {S S' : List Blk} {v : Value} (h : callS P orc Sg rec fl f args S = some (v, S')) (hfl : Sg.length ≤ fl) (hS : Sg.length ≤ S.length) :
    Ext fl S S' ∧ ∀ (φ : Ren) (w : World) (args' : List Value), Inv Sg φ S w → LRel φ args args' → Fresh φ S.length S'.length →
      Calls P f args'.toArray w fun e w' => ∃ v' ψ, e = .returned v' ∧ VRel ψ v v' ∧ Good ψ S' w' ∧ Step fl φ S w ψ S' w' := by
  have apart : ∀ (u : Value), args.all plain = true → plain u = true → (∀ w : World, Inv Sg (baseRen Sg.length) Sg w → Calls P f args.toArray w fun e w' => e = .returned u ∧ Below w.heap.size w w') →
      ∀ (φ : Ren) (w : World) (args' : List Value), Inv Sg φ S w → LRel φ args args' → Fresh φ S.length S.length →
      Calls P f args'.toArray w fun e w' => ∃ v' ψ, e = .returned v' ∧ VRel ψ u v' ∧ Good ψ S w' ∧ Step fl φ S w ψ S w' := by
    intro u hall hu hc φ w args' inv hargs _
    have he := list_eq plain (fun _ _ => plain_eq) hall hargs
    subst he
    refine Calls.mono (hc w (inv.toBase hsg)) ?_
    rintro e w' ⟨rfl, hb⟩
    exact ⟨u, φ, rfl, plain_refl hu, good_of_below inv.ok.good hb, step_of_below hb⟩
  have inplace : callIn P rec fl f args S = some (v, S') → Ext fl S S' ∧ ∀ (φ : Ren) (w : World) (args' : List Value), Inv Sg φ S w → LRel φ args args' → Fresh φ S.length S'.length →
      Calls P f args'.toArray w fun e w' => ∃ v' ψ, e = .returned v' ∧ VRel ψ v v' ∧ Good ψ S' w' ∧ Step fl φ S w ψ S' w' := by
    intro hin
    exact callIn_ok hcode hin hfl hS
  unfold callS at h
  split at h
  · rename_i hcond
    simp only [Bool.and_eq_true] at hcond
    have hall := hcond.1
    split at h
    · rename_i u hu
      split at h
      · rename_i hpl
        cases h
        exact ⟨Ext.refl _ _, apart v hall hpl (horc f args v hu)⟩
      · cases h
    · split at h
      · rename_i u S1 hin
        split at h
        · rename_i hpl
          cases h
          refine ⟨Ext.refl _ _, apart v hall hpl fun w inv => ?_⟩
          refine Calls.mono ((callIn_ok hcode hin (Nat.le_refl _) (Nat.le_refl _)).2 (baseRen Sg.length) w args inv (list_refl plain (fun _ => plain_refl) hall) fun b h1 _ => by simp [baseRen]; omega) ?_
          rintro e w' ⟨v', ψ, rfl, hv, _, hs⟩
          exact ⟨by rw [plain_eq hpl hv], below_of_step hs⟩
        · cases h
      · cases h
  · exact inplace h

theorem callerS_ok {orc : FuncId → List Value → Option Value} {Sg : List Blk} (hsg : SgOk Sg) (horc : OrcOk P Sg orc) {rec : RecT} (hcode : CodeOk P Sg rec) : ClOk P Sg (callerS P orc Sg rec) :=
  ⟨fun _ _ _ _ _ _ h hfl hS => callS_ok hsg horc hcode h hfl hS, fun _ _ _ _ _ _ h hfl hS => roundS_ok hcode h hfl hS⟩

/-- A loop is as many rounds as there was fuel. -/
def LoopOk (P : Program) (Sg : List Blk) (rec : RecT) (n : Nat) : Prop :=
  ∀ (b : Bool) (fl : Nat) (c : Code) (T : List Value) (S : List Blk) (x : Ex) (T' : List Value) (S' : List Blk), rec b fl (.loop c) T S = some (x, T', S') → Sg.length ≤ fl → Sg.length ≤ S.length →
    ∀ (ro : Option Nat), ro.isSome = b → ∀ (Q : Exit → Act → World → Prop) (φ : Ren) (a : Act) (w : World), Inv Sg φ S w → LRel φ T a.tmps.toList → Fresh φ S.length S'.length → Then fl φ S w a.defers x T' S' Q →
      Code.roundsIn (wideAt ro) 0 P c Q n a w

theorem evCode_ok {orc : FuncId → List Value → Option Value} {Sg : List Blk} (hsg : SgOk Sg) (horc : OrcOk P Sg orc) : ∀ n, CodeOk P Sg (evCode P orc Sg n) ∧ LoopOk P Sg (evCode P orc Sg n) n := by
  intro n
  induction n with
  | zero => exact ⟨fun b fl c T S x T' S' h => by (cases h), fun b fl c T S x T' S' h => by (cases h)⟩
  | succ n ih =>
    obtain ⟨ihc, ihl⟩ := ih
    have hcl := callerS_ok hsg horc ihc
    have hloop : ∀ (b : Bool) (fl : Nat) (c1 : Code) (T : List Value) (S : List Blk) (x : Ex) (T' : List Value) (S' : List Blk), evCode P orc Sg (n + 1) b fl (.loop c1) T S = some (x, T', S') → Sg.length ≤ fl → Sg.length ≤ S.length →
        Ext fl S S' ∧ ∀ (ro : Option Nat), ro.isSome = b → ∀ (Q : Exit → Act → World → Prop) (φ : Ren) (a : Act) (w : World), Inv Sg φ S w → LRel φ T a.tmps.toList → Fresh φ S.length S'.length → Then fl φ S w a.defers x T' S' Q →
          Code.roundsIn (wideAt ro) 0 P c1 Q (n + 1) a w := by
      intro b fl c1 T S x T' S' h hfl hS
      simp only [evCode] at h
      split at h
      · rename_i T1 S1 h1
        obtain ⟨x1, k1⟩ := ihc _ _ _ _ _ _ _ _ h1 hfl hS
        obtain ⟨x2, _⟩ := ihc _ _ _ _ _ _ _ _ h hfl (Nat.le_trans hS x1.1)
        have k2 := ihl _ _ _ _ _ _ _ _ h hfl (Nat.le_trans hS x1.1)
        refine ⟨x1.trans x2, fun ro hro Q φ a w inv hT hf hQ => ?_⟩
        rw [roundsIn_succ]
        refine k1 ro hro _ φ a w inv hT (fun b e1 e2 => hf b e1 (Nat.lt_of_lt_of_le e2 x2.1)) ?_
        intro ψ a' w' g1 g2 g3 g4
        exact k2 ro hro Q ψ a' w' (inv.step hfl g4 g1) g2 (g4.fresh hf) (hQ.trans g3 g4 hf)
      · rename_i hne
        obtain ⟨x1, k1⟩ := ihc _ _ _ _ _ _ _ _ h hfl hS
        refine ⟨x1, fun ro hro Q φ a w inv hT hf hQ => ?_⟩
        rw [roundsIn_succ]
        refine k1 ro hro _ φ a w inv hT hf ?_
        intro ψ a' w' g1 g2 g3 g4
        cases x with
        | normal => exact absurd h (hne T' S')
        | exit id => exact hQ ψ a' w' g1 g2 g3 g4
        | ret => exact hQ ψ a' w' g1 g2 g3 g4
    refine ⟨?_, fun b fl c T S x T' S' h hfl hS => (hloop b fl c T S x T' S' h hfl hS).2⟩
    intro b fl c T S x T' S' h hfl hS
    cases c with
    | skip =>
      cases h
      exact ⟨Ext.refl _ _, fun ro hro Q φ a w inv hT _ hQ => wpIn_skip (hQ φ a w inv.ok.good hT (Defs.refl _ _ _ _) (Step.refl _ _ _ _))⟩
    | exit id =>
      cases h
      exact ⟨Ext.refl _ _, fun ro hro Q φ a w inv hT _ hQ => wpIn_exit (hQ φ a w inv.ok.good hT (Defs.refl _ _ _ _) (Step.refl _ _ _ _))⟩
    | ret =>
      cases h
      exact ⟨Ext.refl _ _, fun ro hro Q φ a w inv hT _ hQ => wpIn_ret (hQ φ a w inv.ok.good hT (Defs.refl _ _ _ _) (Step.refl _ _ _ _))⟩
    | seq c1 c2 =>
      simp only [evCode] at h
      split at h
      · rename_i T1 S1 h1
        obtain ⟨x1, k1⟩ := ihc _ _ _ _ _ _ _ _ h1 hfl hS
        obtain ⟨x2, k2⟩ := ihc _ _ _ _ _ _ _ _ h hfl (Nat.le_trans hS x1.1)
        refine ⟨x1.trans x2, fun ro hro Q φ a w inv hT hf hQ => wpIn_seq (k1 ro hro _ φ a w inv hT (fun b e1 e2 => hf b e1 (Nat.lt_of_lt_of_le e2 x2.1)) ?_)⟩
        intro ψ a' w' g1 g2 g3 g4
        exact k2 ro hro Q ψ a' w' (inv.step hfl g4 g1) g2 (g4.fresh hf) (hQ.trans g3 g4 hf)
      · rename_i hne
        obtain ⟨x1, k1⟩ := ihc _ _ _ _ _ _ _ _ h hfl hS
        refine ⟨x1, fun ro hro Q φ a w inv hT hf hQ => wpIn_seq (k1 ro hro _ φ a w inv hT hf ?_)⟩
        intro ψ a' w' g1 g2 g3 g4
        cases x with
        | normal => exact absurd h (hne T' S')
        | exit id => exact hQ ψ a' w' g1 g2 g3 g4
        | ret => exact hQ ψ a' w' g1 g2 g3 g4
    | cond y c1 c2 =>
      simp only [evCode] at h
      split at h
      · rename_i β hβ
        obtain ⟨x1, k1⟩ := ihc _ _ _ _ _ _ _ _ h hfl hS
        refine ⟨x1, fun ro hro Q φ a w inv hT hf hQ => ?_⟩
        have hv := opd_rel inv.ok hT hβ
        generalize hce : a.eval y = cv at hv
        cases hv
        refine wpIn_cond hce ?_
        cases β
        · exact k1 ro hro Q φ a w inv hT hf hQ
        · exact k1 ro hro Q φ a w inv hT hf hQ
      · cases h
    | block id c1 =>
      simp only [evCode] at h
      split at h
      · rename_i id' T1 S1 h1
        obtain ⟨x1, k1⟩ := ihc _ _ _ _ _ _ _ _ h1 hfl hS
        split at h
        · rename_i he
          cases h
          refine ⟨x1, fun ro hro Q φ a w inv hT hf hQ => wpIn_block (k1 ro hro _ φ a w inv hT hf ?_)⟩
          intro ψ a' w' g1 g2 g3 g4
          simp only [Ex.to, Exit.inBlock, he, if_true]
          exact hQ ψ a' w' g1 g2 g3 g4
        · rename_i he
          cases h
          refine ⟨x1, fun ro hro Q φ a w inv hT hf hQ => wpIn_block (k1 ro hro _ φ a w inv hT hf ?_)⟩
          intro ψ a' w' g1 g2 g3 g4
          simp only [Ex.to, Exit.inBlock, he, if_false]
          exact hQ ψ a' w' g1 g2 g3 g4
      · rename_i hne
        obtain ⟨x1, k1⟩ := ihc _ _ _ _ _ _ _ _ h hfl hS
        refine ⟨x1, fun ro hro Q φ a w inv hT hf hQ => wpIn_block (k1 ro hro _ φ a w inv hT hf ?_)⟩
        intro ψ a' w' g1 g2 g3 g4
        cases x with
        | normal => exact hQ ψ a' w' g1 g2 g3 g4
        | exit id => exact absurd h (hne id T' S')
        | ret => exact hQ ψ a' w' g1 g2 g3 g4
    | loop c1 =>
      obtain ⟨x1, k1⟩ := hloop _ _ _ _ _ _ _ _ h hfl hS
      exact ⟨x1, fun ro hro Q φ a w inv hT hf hQ => wpIn_loop_rounds (n + 1) (k1 ro hro Q φ a w inv hT hf hQ)⟩
    | region id ops draw =>
      cases draw with
      | false =>
        simp only [evCode] at h
        split at h
        · rename_i T1 S1 h1
          cases h
          refine ⟨evOps_ext hcl hfl hS h1, fun ro hro Q φ a w inv hT hf hQ => wpIn_region ?_⟩
          have := evOps_wp (ro := ro) hcl hfl (Q := Q) ops.toList 0 T T' S S' rfl h1 φ a w inv hT hf fun ψ a' w' g1 g2 g3 g4 => hQ ψ a' w' g1 g2 (g3 ▸ Defs.refl _ _ _ _) g4
          simpa [List.range_eq_range'] using this
        · cases h
      | true =>
        simp only [evCode] at h
        split at h
        · rename_i T1 S1 h1
          cases h
          refine ⟨(evDraw_wp (ro := none) (id := id) hcl hfl hS h1).1, fun ro hro Q φ a w inv hT hf hQ => (evDraw_wp (ro := ro) (id := id) hcl hfl hS h1).2 Q φ a w inv hT hf fun ψ a' w' g1 g2 g3 g4 => hQ ψ a' w' g1 g2 (g3 ▸ Defs.refl _ _ _ _) g4⟩
        · cases h
    | rangeFunc g params assign body =>
      simp only [evCode] at h
      cases b with
      | true => cases h
      | false =>
        obtain ⟨x1, k1⟩ := rangeS_ok ihc h hfl hS
        refine ⟨x1, fun ro hro Q φ a w inv hT hf hQ => ?_⟩
        cases ro with
        | some r => cases hro
        | none => exact k1 Q φ a w inv hT hf hQ
    | label l =>
      cases h
      exact ⟨Ext.refl _ _, fun ro hro Q φ a w inv hT _ hQ => wpIn_label (hQ φ a w inv.ok.good hT (Defs.refl _ _ _ _) (Step.refl _ _ _ _))⟩
    | scope c1 =>
      obtain ⟨x1, k1⟩ := ihc _ _ _ _ _ _ _ _ h hfl hS
      refine ⟨x1, fun ro hro Q φ a w inv hT hf hQ => wpIn_scopeV (k1 ro hro _ φ a w inv hT hf ?_)⟩
      intro ψ a' w' g1 g2 g3 g4
      cases x with
      | normal => exact hQ ψ a' w' g1 g2 g3 g4
      | exit id => exact hQ ψ a' w' g1 g2 g3 g4
      | ret => exact hQ ψ a' w' g1 g2 g3 g4
    | _ => cases h

/-- What has been evaluated apart from all else is what the call does in every world in which the package-level variables hold what was assumed. -/
theorem run_calls {orc : FuncId → List Value → Option Value} {Sg : List Blk} (hsg : SgOk Sg) (horc : OrcOk P Sg orc) {n : Nat} {f : FuncId} {args : List Value} {v : Value}
    (h : run P orc Sg n f args = some v) (hargs : args.all plain = true) {w : World} (inv : Inv Sg (baseRen Sg.length) Sg w) :
    Calls P f args.toArray w fun e w' => e = .returned v ∧ Below w.heap.size w w' := by
  unfold run at h
  split at h
  · rename_i u S1 hin
    split at h
    · rename_i hpl
      cases h
      refine Calls.mono ((callIn_ok (evCode_ok hsg horc n).1 hin (Nat.le_refl _) (Nat.le_refl _)).2 (baseRen Sg.length) w args inv (list_refl plain (fun _ => plain_refl) hargs) fun b h1 _ => by simp [baseRen]; omega) ?_
      rintro e w' ⟨v', ψ, rfl, hv, _, hs⟩
      exact ⟨by rw [plain_eq hpl hv], below_of_step hs⟩
    · cases h
  · cases h

/-- Where no package-level variable is looked at. -/
theorem run_calls_any {n : Nat} {f : FuncId} {args : List Value} {v : Value} (h : run P (fun _ _ => none) [] n f args = some v) (hargs : args.all plain = true) (w : World) :
    Calls P f args.toArray w fun e w' => e = .returned v ∧ Below w.heap.size w w' :=
  run_calls (by simp [SgOk]) (fun _ _ _ h => by cases h) h hargs ⟨⟨⟨fun b k r hk _ => by simp at hk, fun b r hb => by simp [baseRen] at hb, fun b c r hb _ => by simp [baseRen] at hb⟩, fun g hg => by simp at hg⟩, fun g hg => by simp at hg, Nat.le_refl _⟩
end
end Go.Proofs.XX.Vm
