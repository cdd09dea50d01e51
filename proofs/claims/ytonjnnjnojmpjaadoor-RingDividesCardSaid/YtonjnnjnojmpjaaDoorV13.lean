/- A small evaluator over a shadow heap, part 13: code and calls. -/
import Derived.Test.YtonjnnjnojmpjaaDoorV22
namespace Go.Proofs.XX.Vm
open Go Go.RowKit

section
variable {P : Program} {ro : Option Nat}

theorem Inv.drew {Sg : List Blk} {φ : Ren} {S : List Blk} {w : World} (h : Inv Sg φ S w) (n : Nat) : Inv Sg φ S { w with drawn := n } :=
  ⟨⟨⟨h.ok.good.blk, h.ok.good.low, h.ok.good.inj⟩, h.ok.glob⟩, h.base, h.len⟩
theorem Step.undrew {fl : Nat} {φ ψ : Ren} {S S' : List Blk} {w w' : World} {n : Nat} (h : Step fl φ S { w with drawn := n } ψ S' w') : Step fl φ S w ψ S' w' :=
  ⟨h.ext, h.dom, h.len, h.keep, h.frame, h.size, h.os, h.tape, h.output⟩

theorem evDraw_wp {Sg : List Blk} {cl : Caller} (hcl : ClOk P Sg cl) {fl : Nat} (hfl : Sg.length ≤ fl) {ops : Array Oper} {id : Nat} {T T' : List Value} {S S' : List Blk}
    (hS : Sg.length ≤ S.length) (h : evDraw P Sg.length cl fl ops T S = some (T', S')) : Ext fl S S' ∧
    ∀ (Q : Exit → Act → World → Prop) (φ : Ren) (a : Act) (w : World), Inv Sg φ S w → LRel φ T a.tmps.toList → Fresh φ S.length S'.length →
      (∀ (ψ : Ren) (a' : Act) (w' : World), Good ψ S' w' → LRel ψ T' a'.tmps.toList → a'.defers = a.defers → Step fl φ S w ψ S' w' → Q .normal a' w') →
      (Code.region id ops true).wpIn (wideAt ro) 0 P Q a w := by
  unfold evDraw at h
  split at h
  · rename_i hdep
    simp only [Bool.and_eq_true, Bool.not_eq_true'] at hdep
    obtain ⟨hdep, hmix⟩ := hdep
    split at h
    · rename_i T1 S1 T2 S2 h1 h2
      split at h
      · rename_i hc
        simp only [Bool.and_eq_true] at hc
        cases h
        have e1 := leq_eq (fun _ _ => seq3_eq) hc.1
        have e2 := heq1_eq hc.2
        subst e1; subst e2
        obtain ⟨x1, k1⟩ := evRegion_wp (ro := ro) hcl hfl hS h1
        obtain ⟨_, k2⟩ := evRegion_wp (ro := ro) hcl hfl hS h2
        refine ⟨x1, fun Q φ a w inv hT hf hQ => wpIn_region_draw fun t => ?_⟩
        have hQ' : ∀ (ψ : Ren) (a' : Act) (w' : World), Good ψ S' w' → LRel ψ T' a'.tmps.toList → a'.defers = a.defers → Step fl φ S { w with drawn := w.drawn + 1 } ψ S' w' → Q .normal a' w' :=
          fun ψ a' w' g1 g2 g3 g4 => hQ ψ a' w' g1 g2 g3 g4.undrew
        simp only [Region.schedule, hmix, hdep, Bool.not_true, Bool.or_false, Bool.false_eq_true, if_false]
        by_cases ht : (t % 2 == 0) = true
        · rw [if_pos ht]; exact wpAnyIn_sound ops.size _ _ a _ (k1 Q φ a _ (inv.drew _) hT hf hQ')
        · rw [if_neg ht]; exact wpAnyIn_sound ops.size _ _ a _ (k2 Q φ a _ (inv.drew _) hT hf hQ')
      · cases h
    · cases h
  · rename_i hdep
    have hd : (P.follows .mixedOrders || !Region.departs ops) = true := by
      cases hm : P.follows .mixedOrders <;> cases hk : Region.departs ops <;> simp_all
    have key : Ext fl S S' ∧ ∀ (Q : Exit → Act → World → Prop) (φ : Ren) (a : Act) (w : World), Inv Sg φ S w → LRel φ T a.tmps.toList → Fresh φ S.length S'.length →
        (∀ (ψ : Ren) (a' : Act) (w' : World), Good ψ S' w' → LRel ψ T' a'.tmps.toList → a'.defers = a.defers → Step fl φ S w ψ S' w' → Q .normal a' w') →
        wpAnyIn (wideAt ro) 0 P .any ops Q ops.size (Array.replicate ops.size false) a w := by
      split at h
      · exact evRegion_wp (ro := ro) hcl hfl hS h
      · exact evFloat_wp (ro := ro) hcl hfl hS h
    obtain ⟨x1, k1⟩ := key
    refine ⟨x1, fun Q φ a w inv hT hf hQ => wpIn_region_draw fun t => ?_⟩
    simp only [Region.schedule, hd, if_true]
    exact wpAnyIn_sound ops.size _ _ a _ (k1 Q φ a _ (inv.drew _) hT hf fun ψ a' w' g1 g2 g3 g4 => hQ ψ a' w' g1 g2 g3 g4.undrew)

/-- What is asked of a callee's words by an oracle. -/
def baseRen (n : Nat) : Ren := fun b => if b < n then some b else none
def OrcOk (P : Program) (Sg : List Blk) (orc : FuncId → List Value → Option Value) : Prop :=
  ∀ (f : FuncId) (args : List Value) (v : Value), orc f args = some v → ∀ w : World, Inv Sg (baseRen Sg.length) Sg w →
    Calls P f args.toArray w fun e w' => e = .returned v ∧ Below w.heap.size w w'

def SgOk (Sg : List Blk) : Prop := Sg.all (fun k => k.cells.all scalar && k.obj.isNone) = true
theorem Inv.toBase {Sg : List Blk} (hsg : SgOk Sg) {φ : Ren} {S : List Blk} {w : World} (h : Inv Sg φ S w) : Inv Sg (baseRen Sg.length) Sg w := by
  have hx : ∀ b r, baseRen Sg.length b = some r → b < Sg.length ∧ r = b := by
    intro b r hb
    unfold baseRen at hb
    split at hb
    · exact ⟨by assumption, by cases hb; rfl⟩
    · cases hb
  refine ⟨⟨⟨fun b k r hk hr => ?_, fun b r hb => ?_, fun b c r hb hc => ?_⟩, fun g hg => by simp [baseRen, hg]⟩, fun _ _ => rfl, Nat.le_refl _⟩
  · obtain ⟨h1, rfl⟩ := hx b r hr
    have hk2 := (List.all_eq_true.1 hsg) k (List.mem_of_getElem? hk)
    simp only [Bool.and_eq_true, Option.isNone_iff_eq_none] at hk2
    obtain ⟨cs, e, ro, ob⟩ := k
    obtain ⟨hsc, hob⟩ := hk2
    simp only at hsc hob
    subst hob
    obtain ⟨c', fz, g1, g2, g3⟩ := h.ok.good.cells (by rw [h.base r h1]; exact hk) (h.ok.glob r h1)
    have hc := list_eq scalar (fun _ _ => scalar_eq) hsc g2
    exact ⟨_, g1, c', fz, rfl, by rw [hc]; exact list_refl scalar (fun _ => scalar_refl) hsc, g3⟩
  · obtain ⟨h1, rfl⟩ := hx b r hb
    exact h.ok.good.low r r (h.ok.glob r h1)
  · obtain ⟨_, rfl⟩ := hx b r hb
    obtain ⟨_, rfl⟩ := hx c r hc
    rfl

theorem step_of_below {fl : Nat} {φ : Ren} {S : List Blk} {w w' : World} (h : Below w.heap.size w w') : Step fl φ S w φ S w' :=
  ⟨fun _ _ e => e, fun _ _ e => .inl e, Nat.le_refl _, fun _ _ _ => rfl, fun r hr _ => h.block r hr, h.size, h.os, h.tape, h.output⟩
theorem good_of_below {φ : Ren} {S : List Blk} {w w' : World} (g : Good φ S w) (h : Below w.heap.size w w') : Good φ S w' :=
  ⟨fun b k r hk hr => by
    obtain ⟨o, g1, g2⟩ := g.blk b k r hk hr
    exact ⟨o, by rw [h.block r (g.low b r hr)]; exact g1, g2⟩, fun b r hb => Nat.lt_of_lt_of_le (g.low b r hb) h.size, g.inj⟩
theorem below_of_step {φ ψ : Ren} {Sg S' : List Blk} {w w' : World} (h : Step Sg.length φ Sg w ψ S' w') : Below w.heap.size w w' :=
  ⟨h.os, h.tape, h.output, h.size, fun r hr => h.frame r hr fun b h1 h2 => by omega⟩

def resF (tmps : Array Value) : ResultVar → Sem Value
  | .tmp t => pure (tmps.getD t undef)
  | .cell a t => do loadVar t (← asAddr (tmps.getD a undef))
theorem results_eq (fn : Func) (tmps : Array Value) : results fn tmps = (do
    let vs ← fn.results.mapM (resF tmps)
    pure (if h : vs.size = 1 then vs[0] else .tuple vs)) := by
  unfold results
  congr 1
theorem run_resVals {φ : Ren} {T : List Value} {S : List Blk} {w : World} (good : Good φ S w) {tmps : Array Value} (hT : LRel φ T tmps.toList) : ∀ (l : List ResultVar) (vs : List Value), resVals P T S l = some vs →
    ∃ vs', (l.mapM (resF tmps)).run P w = .ok vs' w ∧ LRel φ vs vs' := by
  have get : ∀ t : Nat, VRel φ (nthD T t) (tmps.getD t undef) := by
    intro t
    rw [nthD_eq]
    cases ht : T[t]? with
    | none =>
      have := hT.none ht
      simp only [Array.getElem?_toList] at this
      simp [this, undef_refl]
    | some v =>
      obtain ⟨v', h1, h2⟩ := hT.get ht
      simp only [Array.getElem?_toList] at h1
      simpa [h1] using h2
  intro l
  induction l with
  | nil => intro vs h; cases h; exact ⟨[], by simp, LRel.nil φ⟩
  | cons x l ih =>
    intro vs h
    cases x with
    | tmp t =>
      simp only [resVals] at h
      split at h
      · rename_i us hus
        cases h
        obtain ⟨vs', h1, h2⟩ := ih us hus
        exact ⟨tmps.getD t undef :: vs', by simp only [List.mapM_cons, resF, Sem.run_bind, Sem.run_pure, Result.andThen_ok, h1], LRel.cons (get t) h2⟩
      · cases h
    | cell a t =>
      simp only [resVals] at h
      split at h
      · rename_i v us hv hus
        cases h
        obtain ⟨vs', h1, h2⟩ := ih us hus
        obtain ⟨v', h3, h4⟩ := run_load (P := P) good (get a) hv
        have hp : ∃ ad, tmps.getD a undef = .pointer (some ad) := by
          have hg := get a
          unfold load at hv
          split at hv
          · rename_i b o heq
            rw [heq] at hg
            generalize tmps.getD a undef = u at hg
            cases hg
            exact ⟨_, rfl⟩
          · cases hv
        obtain ⟨ad, hp⟩ := hp
        rw [hp] at h3
        simp only [Instr.loadAt, Instr.sureAddr, Sem.run_bind, Sem.run_pure, Result.andThen_ok] at h3
        have h5 : (resF tmps (.cell a t)).run P w = .ok v' w := by simp only [resF, hp, asAddr, Sem.run_bind, Sem.run_pure, Result.andThen_ok, h3]
        exact ⟨v' :: vs', by simp only [List.mapM_cons, Sem.run_bind, h5, Sem.run_pure, Result.andThen_ok, h1], LRel.cons h4 h2⟩
      · cases h

theorem run_results {φ : Ren} {T : List Value} {S : List Blk} {w : World} (good : Good φ S w) {tmps : Array Value} (hT : LRel φ T tmps.toList) {fn : Func} {vs : List Value} (h : resVals P T S fn.results.toList = some vs) :
    ∃ v', (results fn tmps).run P w = .ok v' w ∧ VRel φ (oneVal vs) v' := by
  obtain ⟨vs', h1, h2⟩ := run_resVals (P := P) good hT _ _ h
  refine ⟨oneVal vs', ?_, ?_⟩
  · rw [results_eq, Array.mapM_eq_mapM_toList]
    simp only [map_eq_pure_bind, bind_assoc, pure_bind, Sem.run_bind]
    rw [h1]
    simp only [Result.andThen_ok, Sem.run_pure]
    match vs' with
    | [] => rfl
    | [v] => rfl
    | a :: b :: l => simp [oneVal]
  · match vs, vs', h2 with
    | [], [], _ => exact .tuple rfl (by simp)
    | [v], [v'], h2 => exact h2.head
    | a :: b :: l, a' :: b' :: l', h2 => exact .tuple (by simpa using h2.1) (by simpa using h2.2)
    | [], _ :: _, h2 => simp [LRel] at h2
    | [_], [], h2 => simp [LRel] at h2
    | [_], _ :: _ :: _, h2 => simp [LRel] at h2
    | _ :: _ :: _, [], h2 => simp [LRel] at h2
    | _ :: _ :: _, [_], h2 => simp [LRel] at h2
end
end Go.Proofs.XX.Vm
