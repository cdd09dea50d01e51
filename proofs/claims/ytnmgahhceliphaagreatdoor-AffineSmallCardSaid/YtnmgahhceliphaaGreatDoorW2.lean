/- A small evaluator over a shadow heap, calls. -/
import Derived.Test.YtnmgahhceliphaaGreatDoorW1
/- A small evaluator over a shadow heap, part 13: code and calls. -/
namespace Go.Proofs.XX.Vm
open Go Go.RowKit

section
variable {P : Program} {ro : Option Nat}

theorem Inv.drew {Sg : List Blk} {φ : Ren} {S : List Blk} {w : World} (h : Inv Sg φ S w) (n : Nat) : Inv Sg φ S { w with drawn := n } :=
  ⟨⟨⟨h.ok.good.blk, h.ok.good.low, h.ok.good.inj, h.ok.good.zero, h.ok.good.room⟩, h.ok.glob⟩, h.base, h.len⟩
theorem Step.undrew {fl : Nat} {φ ψ : Ren} {S S' : List Blk} {w w' : World} {n : Nat} (h : Step fl φ S { w with drawn := n } ψ S' w') : Step fl φ S w ψ S' w' :=
  ⟨h.ext, h.caps, h.dom, h.len, h.dead, h.keep, h.frame, h.size, h.os, h.tape, h.output⟩

theorem evDraw_wp {Sg : List Blk} {cl : Caller} (hcl : ClOk P Sg cl) {fl : Nat} (hfl : Sg.length ≤ fl) {ops : Array Oper} {id : Nat} {T T' : List Value} {S S' : List Blk}
    (hS : Sg.length ≤ S.length) (h : evDraw P Sg.length cl fl ops T S = some (T', S')) : Ext fl S S' ∧
    ∀ (Q : Exit → Act → World → Prop) (φ : Ren) (a : Act) (w : World), Inv Sg φ S w → LRel φ T a.tmps.toList → Fresh φ S.length S'.length →
      (∀ (ψ : Ren) (a' : Act) (w' : World), Good ψ S' w' → LRel ψ T' a'.tmps.toList → a'.defers = a.defers → Step fl φ S w ψ S' w' → Q .normal a' w') →
      (Code.region id ops true).wpIn (wideAt ro) 0 P Q a w := by
  unfold evDraw at h
  split at h
  · rename_i hdep
    simp only [Bool.and_eq_true, Bool.not_eq_true'] at hdep
    obtain ⟨hdep, hmix⟩ := hdep
    split at h
    · rename_i T1 S1 T2 S2 h1 h2
      split at h
      · rename_i hc
        simp only [Bool.and_eq_true] at hc
        cases h
        have e1 := leq_eq (fun _ _ => seq3_eq) hc.1
        have e2 := heq1_eq hc.2
        subst e1; subst e2
        obtain ⟨x1, k1⟩ := evRegion_wp (ro := ro) hcl hfl hS h1
        obtain ⟨_, k2⟩ := evRegion_wp (ro := ro) hcl hfl hS h2
        refine ⟨x1, fun Q φ a w inv hT hf hQ => wpIn_region_draw fun t => ?_⟩
        have hQ' : ∀ (ψ : Ren) (a' : Act) (w' : World), Good ψ S' w' → LRel ψ T' a'.tmps.toList → a'.defers = a.defers → Step fl φ S { w with drawn := w.drawn + 1 } ψ S' w' → Q .normal a' w' :=
          fun ψ a' w' g1 g2 g3 g4 => hQ ψ a' w' g1 g2 g3 g4.undrew
        simp only [Region.schedule, hmix, hdep, Bool.not_true, Bool.or_false, Bool.false_eq_true, if_false]
        by_cases ht : (t % 2 == 0) = true
        · rw [if_pos ht]; exact wpAnyIn_sound ops.size _ _ a _ (k1 Q φ a _ (inv.drew _) hT hf hQ')
        · rw [if_neg ht]; exact wpAnyIn_sound ops.size _ _ a _ (k2 Q φ a _ (inv.drew _) hT hf hQ')
      · cases h
    · cases h
  · rename_i hdep
    have hd : (P.follows .mixedOrders || !Region.departs ops) = true := by
      cases hm : P.follows .mixedOrders <;> cases hk : Region.departs ops <;> simp_all
    have key : Ext fl S S' ∧ ∀ (Q : Exit → Act → World → Prop) (φ : Ren) (a : Act) (w : World), Inv Sg φ S w → LRel φ T a.tmps.toList → Fresh φ S.length S'.length →
        (∀ (ψ : Ren) (a' : Act) (w' : World), Good ψ S' w' → LRel ψ T' a'.tmps.toList → a'.defers = a.defers → Step fl φ S w ψ S' w' → Q .normal a' w') →
        wpAnyIn (wideAt ro) 0 P .any ops Q ops.size (Array.replicate ops.size false) a w := by
      split at h
      · split at h
        · exact evFloatG_wp (ro := ro) hcl hfl hS h
        · exact evFloat_wp (ro := ro) hcl hfl hS h
      · split at h
        · exact evRegion_wp (ro := ro) hcl hfl hS h
        · split at h
          · exact evFloat_wp (ro := ro) hcl hfl hS h
          · split at h
            · exact evFloat_wp (ro := ro) hcl hfl hS h
            · exact evFloatG_wp (ro := ro) hcl hfl hS h
    obtain ⟨x1, k1⟩ := key
    refine ⟨x1, fun Q φ a w inv hT hf hQ => wpIn_region_draw fun t => ?_⟩
    simp only [Region.schedule, hd, if_true]
    exact wpAnyIn_sound ops.size _ _ a _ (k1 Q φ a _ (inv.drew _) hT hf fun ψ a' w' g1 g2 g3 g4 => hQ ψ a' w' g1 g2 g3 g4.undrew)

/-- What is asked of a callee's words by an oracle. -/
def baseRen (n : Nat) : Ren := ⟨fun b => if b < n then some b else none, fun _ => 0⟩
structure OrcOk (P : Program) (Sg : List Blk) (orc : OrcF) : Prop where
  val : ∀ (f : FuncId) (args : List Value) (v : Value), orc.val f args = some v → ∀ w : World, Inv Sg (baseRen Sg.length) Sg w →
    Calls P f args.toArray w fun e w' => e = .returned v ∧ Below w.heap.size w w'
  mem : ∀ (fl : Nat) (f : FuncId) (args : List Value) (S : List Blk) (v : Value) (S' : List Blk), orc.mem fl f args S = some (v, S') → Sg.length ≤ fl → Sg.length ≤ S.length →
    Ext fl S S' ∧ ∀ (φ : Ren) (w : World) (args' : List Value), Inv Sg φ S w → LRel φ args args' → Fresh φ S.length S'.length →
      Calls P f args'.toArray w fun e w' => ∃ v' ψ, e = .returned v' ∧ VRel ψ v v' ∧ Good ψ S' w' ∧ Step fl φ S w ψ S' w'

def SgOk (Sg : List Blk) : Prop := Sg.all (fun k => k.cells.all scalar && k.obj.isNone) = true
theorem Inv.toBase {Sg : List Blk} (hsg : SgOk Sg) {φ : Ren} {S : List Blk} {w : World} (h : Inv Sg φ S w) : Inv Sg (baseRen Sg.length) Sg w := by
  have hx : ∀ b r, baseRen Sg.length b = some r → b < Sg.length ∧ r = b := by
    intro b r hb
    unfold baseRen at hb
    simp only at hb
    split at hb
    · exact ⟨by assumption, by cases hb; rfl⟩
    · cases hb
  refine ⟨⟨⟨fun b k r hk hr => ?_, fun b r hb => ?_, fun b c r hb hc => ?_, fun _ _ => rfl, fun b k r hk hr => ?_⟩, fun g hg => by simp [baseRen, hg]⟩, fun _ _ => rfl, Nat.le_refl _⟩
  · obtain ⟨h1, rfl⟩ := hx b r hr
    have hk2 := (List.all_eq_true.1 hsg) k (List.mem_of_getElem? hk)
    simp only [Bool.and_eq_true, Option.isNone_iff_eq_none] at hk2
    obtain ⟨cs, e, ro, ob⟩ := k
    obtain ⟨hsc, hob⟩ := hk2
    simp only at hsc hob
    subst hob
    obtain ⟨c', fz, g1, g2, g3⟩ := h.ok.good.cells (by rw [h.base r h1]; exact hk) (h.ok.glob r h1)
    have hc := list_eq scalar (fun _ _ => scalar_eq) hsc g2
    exact ⟨_, g1, c', fz, rfl, by simp only; rw [hc]; exact list_refl scalar (fun _ => scalar_refl) hsc, g3⟩
  · obtain ⟨h1, rfl⟩ := hx b r hb
    exact h.ok.good.low r r (h.ok.glob r h1)
  · obtain ⟨_, rfl⟩ := hx b r hb
    obtain ⟨_, rfl⟩ := hx c r hc
    exact .inl rfl
  · have hk2 := (List.all_eq_true.1 hsg) k (List.mem_of_getElem? hk)
    simp only [Bool.and_eq_true, Option.isNone_iff_eq_none] at hk2
    exact .none rfl (by unfold isBuf; rw [hk2.2])

theorem step_of_below {fl : Nat} {φ : Ren} {S : List Blk} {w w' : World} (h : Below w.heap.size w w') : Step fl φ S w φ S w' :=
  ⟨RExt.refl φ, fun _ _ => rfl, fun _ _ e => .inl e, Nat.le_refl _, fun _ _ d => d, fun _ _ _ => rfl, fun r hr _ => h.block r hr, h.size, h.os, h.tape, h.output⟩
theorem good_of_below {φ : Ren} {S : List Blk} {w w' : World} (g : Good φ S w) (h : Below w.heap.size w w') : Good φ S w' :=
  ⟨fun b k r hk hr => by
    obtain ⟨o, g1, g2⟩ := g.blk b k r hk hr
    exact ⟨o, by rw [h.block r (g.low b r hr)]; exact g1, g2⟩, fun b r hb => Nat.lt_of_lt_of_le (g.low b r hb) h.size, g.inj, fun r hr => g.zero r (Nat.le_trans h.size hr), fun b k r hk hr => (g.room b k r hk hr).ext rfl (h.block r (g.low b r hr))⟩
theorem below_of_step {φ ψ : Ren} {Sg S' : List Blk} {w w' : World} (h : Step Sg.length φ Sg w ψ S' w') : Below w.heap.size w w' :=
  ⟨h.os, h.tape, h.output, h.size, fun r hr => h.frame r hr fun b h1 h2 => by omega⟩

def resF (tmps : Array Value) : ResultVar → Sem Value
  | .tmp t => pure (tmps.getD t undef)
  | .cell a t => do loadVar t (← asAddr (tmps.getD a undef))
theorem results_eq (fn : Func) (tmps : Array Value) : results fn tmps = (do
    let vs ← fn.results.mapM (resF tmps)
    pure (if h : vs.size = 1 then vs[0] else .tuple vs)) := by
  unfold results
  congr 1
theorem run_resVals {φ : Ren} {T : List Value} {S : List Blk} {w : World} (good : Good φ S w) {tmps : Array Value} (hT : LRel φ T tmps.toList) : ∀ (l : List ResultVar) (vs : List Value), resVals P T S l = some vs →
    ∃ vs', (l.mapM (resF tmps)).run P w = .ok vs' w ∧ LRel φ vs vs' := by
  have get : ∀ t : Nat, VRel φ (nthD T t) (tmps.getD t undef) := by
    intro t
    rw [nthD_eq]
    cases ht : T[t]? with
    | none =>
      have := hT.none ht
      simp only [Array.getElem?_toList] at this
      simp [this, undef_refl]
    | some v =>
      obtain ⟨v', h1, h2⟩ := hT.get ht
      simp only [Array.getElem?_toList] at h1
      simpa [h1] using h2
  intro l
  induction l with
  | nil => intro vs h; cases h; exact ⟨[], by simp, LRel.nil φ⟩
  | cons x l ih =>
    intro vs h
    cases x with
    | tmp t =>
      simp only [resVals] at h
      split at h
      · rename_i us hus
        cases h
        obtain ⟨vs', h1, h2⟩ := ih us hus
        exact ⟨tmps.getD t undef :: vs', by simp only [List.mapM_cons, resF, Sem.run_bind, Sem.run_pure, Result.andThen_ok, h1], LRel.cons (get t) h2⟩
      · cases h
    | cell a t =>
      simp only [resVals] at h
      split at h
      · rename_i v us hv hus
        cases h
        obtain ⟨vs', h1, h2⟩ := ih us hus
        obtain ⟨v', h3, h4⟩ := run_load (P := P) good (get a) hv
        have hp : ∃ ad, tmps.getD a undef = .pointer (some ad) := by
          have hg := get a
          rw [load_eqO] at hv; unfold loadO at hv
          split at hv
          · rename_i b o heq
            rw [heq] at hg
            generalize tmps.getD a undef = u at hg
            cases hg
            exact ⟨_, rfl⟩
          · rename_i z b o heq
            rw [heq] at hg
            generalize tmps.getD a undef = u at hg
            cases hg
            exact ⟨_, rfl⟩
          · cases hv
        obtain ⟨ad, hp⟩ := hp
        rw [hp] at h3
        simp only [Instr.loadAt, Instr.sureAddr, Sem.run_bind, Sem.run_pure, Result.andThen_ok] at h3
        have h5 : (resF tmps (.cell a t)).run P w = .ok v' w := by simp only [resF, hp, asAddr, Sem.run_bind, Sem.run_pure, Result.andThen_ok, h3]
        exact ⟨v' :: vs', by simp only [List.mapM_cons, Sem.run_bind, h5, Sem.run_pure, Result.andThen_ok, h1], LRel.cons h4 h2⟩
      · cases h

theorem run_results {φ : Ren} {T : List Value} {S : List Blk} {w : World} (good : Good φ S w) {tmps : Array Value} (hT : LRel φ T tmps.toList) {fn : Func} {vs : List Value} (h : resVals P T S fn.results.toList = some vs) :
    ∃ v', (results fn tmps).run P w = .ok v' w ∧ VRel φ (oneVal vs) v' := by
  obtain ⟨vs', h1, h2⟩ := run_resVals (P := P) good hT _ _ h
  refine ⟨oneVal vs', ?_, ?_⟩
  · rw [results_eq, Array.mapM_eq_mapM_toList]
    simp only [map_eq_pure_bind, bind_assoc, pure_bind, Sem.run_bind]
    rw [h1]
    simp only [Result.andThen_ok, Sem.run_pure]
    match vs' with
    | [] => rfl
    | [v] => rfl
    | a :: b :: l => simp [oneVal]
  · match vs, vs', h2 with
    | [], [], _ => exact .tuple rfl (by simp)
    | [v], [v'], h2 => exact h2.head
    | a :: b :: l, a' :: b' :: l', h2 => exact .tuple (by simpa using h2.1) (by simpa using h2.2)
    | [], _ :: _, h2 => simp [LRel] at h2
    | [_], [], h2 => simp [LRel] at h2
    | [_], _ :: _ :: _, h2 => simp [LRel] at h2
    | _ :: _ :: _, [], h2 => simp [LRel] at h2
    | _ :: _ :: _, [_], h2 => simp [LRel] at h2
end
end Go.Proofs.XX.Vm
/- A small evaluator over a shadow heap, part 14: what is evaluated is what the program does. -/
namespace Go.Proofs.XX.Vm
open Go Go.RowKit

section
variable {P : Program}

def markOf (r : Nat) : Deferred := { target := .collected r, args := #[] }
/-- What has come to an activation's deferred calls: the marks of loops over functions, and nothing else. -/
def Defs (m : Nat) (d d' : List Deferred) (ψ : Ren) (w' : World) : Prop :=
  ∃ rs : List Nat, d' = rs.map markOf ++ d ∧ rs.Nodup ∧ ∀ r ∈ rs, m ≤ r ∧ w'.heap[r]? = some (.deferred (some [])) ∧ ∀ b, ψ b ≠ some r
theorem Defs.refl (m : Nat) (d : List Deferred) (ψ : Ren) (w : World) : Defs m d d ψ w := ⟨[], rfl, List.nodup_nil, by simp⟩
theorem Defs.trans {m : Nat} {d d1 d2 : List Deferred} {fl : Nat} {ψ χ : Ren} {S1 S2 : List Blk} {w1 w2 : World} (h : Defs m d d1 ψ w1) (s : Step fl ψ S1 w1 χ S2 w2) (hm : m ≤ w1.heap.size) (k : Defs w1.heap.size d1 d2 χ w2) :
    Defs m d d2 χ w2 := by
  obtain ⟨rs, rfl, n1, h1⟩ := h
  obtain ⟨qs, rfl, n2, k1⟩ := k
  have lt : ∀ r ∈ rs, r < w1.heap.size := fun r hr => (Array.getElem?_eq_some_iff.1 (h1 r hr).2.1).1
  refine ⟨qs ++ rs, by simp, ?_, ?_⟩
  · rw [List.nodup_append]
    refine ⟨n2, n1, fun a ha b hb e => ?_⟩
    subst e
    have := lt a hb
    have := (k1 a ha).1
    omega
  · intro r hr
    rcases List.mem_append.1 hr with hr | hr
    · obtain ⟨a1, a2, a3⟩ := k1 r hr; exact ⟨Nat.le_trans hm a1, a2, a3⟩
    · obtain ⟨a1, a2, a3⟩ := h1 r hr
      refine ⟨a1, by rw [s.frame r (lt r hr) fun b _ _ _ => a3 b]; exact a2, fun b hb => ?_⟩
      rcases s.dom b r hb with h | ⟨_, _, h | ⟨c, _, _, h, _⟩⟩
      · exact a3 b h
      · have := lt r hr; omega
      · exact a3 c h

/-- What is to follow where code has been evaluated. -/
def Then (fl : Nat) (φ : Ren) (S : List Blk) (w : World) (d : List Deferred) (x : Ex) (T' : List Value) (S' : List Blk) (Q : Exit → Act → World → Prop) : Prop :=
  ∀ (ψ : Ren) (a' : Act) (w' : World), Good ψ S' w' → LRel ψ T' a'.tmps.toList → Defs w.heap.size d a'.defers ψ w' → Step fl φ S w ψ S' w' → Q x.to a' w'

abbrev RecT := Bool → Nat → Code → List Value → List Blk → Option (Ex × List Value × List Blk)

def CodeOk (P : Program) (Sg : List Blk) (rec : RecT) : Prop :=
  ∀ (b : Bool) (fl : Nat) (c : Code) (T : List Value) (S : List Blk) (x : Ex) (T' : List Value) (S' : List Blk), rec b fl c T S = some (x, T', S') → Sg.length ≤ fl → Sg.length ≤ S.length →
    Ext fl S S' ∧
    (∀ (ro : Option Nat), ro.isSome = b → ∀ (Q : Exit → Act → World → Prop) (φ : Ren) (a : Act) (w : World), Inv Sg φ S w → LRel φ T a.tmps.toList → Fresh φ S.length S'.length → Then fl φ S w a.defers x T' S' Q →
      c.wpIn (wideAt ro) 0 P Q a w)

theorem leaves_marks {F : Fence} {fn : Func} {tmps : Array Value} {R : Ending → World → Prop} : ∀ (rs : List Nat) (w : World), rs.Nodup → (∀ r ∈ rs, w.heap[r]? = some (.deferred (some []))) →
    (∀ w' : World, (∀ s, s ∉ rs → w'.heap[s]? = w.heap[s]?) → w'.heap.size = w.heap.size → w'.os = w.os → w'.tape = w.tape → w'.output = w.output → ∃ v, (results fn tmps).run P w' = .ok v w' ∧ R (.returned v) w') →
    LeavesInM F 0 P fn tmps R (rs.map markOf ++ []) .returning w := by
  intro rs
  induction rs with
  | nil =>
    intro w _ _ h
    obtain ⟨v, h1, h2⟩ := h w (fun _ _ => rfl) rfl rfl rfl rfl
    exact ⟨v, h1, h2⟩
  | cons r rs ih =>
    intro w hn hr h
    rw [List.nodup_cons] at hn
    refine ⟨by simp, .inl ⟨r, _, rfl, run_takeDeferred (hr r (List.mem_cons_self ..)), ?_⟩⟩
    have hheap : ∀ s, s ≠ r → (w.putObj r (.deferred none)).heap[s]? = w.heap[s]? := by
      intro s hs
      simp only [World.putObj]
      rw [Array.getElem?_setIfInBounds_ne (fun e => hs e.symm)]
    refine ih _ hn.2 (fun s hs => ?_) fun w' g1 g2 g3 g4 g5 => ?_
    · rw [hheap s (fun e => hn.1 (e ▸ hs))]; exact hr s (List.mem_cons_of_mem _ hs)
    · refine h w' (fun s hs => ?_) (by rw [g2]; simp [World.putObj]) g3 g4 g5
      rw [g1 s (fun e => hs (List.mem_cons_of_mem _ e)), hheap s (fun e => hs (e ▸ List.mem_cons_self ..))]

theorem callIn_ok {Sg : List Blk} {rec : RecT} (hcode : CodeOk P Sg rec) {fl : Nat} {f : FuncId} {args : List Value} {S S' : List Blk} {v : Value}
    (h : callIn P rec fl f args S = some (v, S')) (hfl : Sg.length ≤ fl) (hS : Sg.length ≤ S.length) : Ext fl S S' ∧ ∀ (φ : Ren) (w : World) (args' : List Value), Inv Sg φ S w → LRel φ args args' → Fresh φ S.length S'.length →
      Calls P f args'.toArray w fun e w' => ∃ v' ψ, e = .returned v' ∧ VRel ψ v v' ∧ Good ψ S' w' ∧ Step fl φ S w ψ S' w' := by
  unfold callIn at h
  simp only [forceK_eq] at h
  split at h
  · rename_i fn hfn
    split at h
    · rename_i c hbody
      split at h
      · cases h
      · rename_i x T' S1 hne hev
        split at h
        · rename_i vs hvs
          cases h
          obtain ⟨x1, k1⟩ := hcode _ _ _ _ _ _ _ _ hev hfl hS
          refine ⟨x1, fun φ w args' inv hargs hf => (callsIn_wide (n := 0)).1 ?_⟩
          refine callsIn_of_wp_marks (n := 0) hfn hbody trivial (show c.wpIn (wideAt none) 0 P _ _ w from k1 none rfl _ φ _ w inv ?_ hf ?_)
          · have hl : args'.toArray.size = args.length := by simpa using hargs.1.symm
            rw [hl]
            simp only [Array.toList_append, Array.toList_replicate]
            exact hargs.append (list_refl plain (fun _ => plain_refl) (by simp [undef, plain]))
          · intro ψ a' w' g1 g2 g3 g4
            obtain ⟨rs, hd, hnd, hrs⟩ := g3
            have key : LeavesInM (wideAt none) 0 P fn a'.tmps (fun e w' => ∃ v' ψ, e = .returned v' ∧ VRel ψ (oneVal vs) v' ∧ Good ψ S' w' ∧ Step fl φ S w ψ S' w') a'.defers .returning w' := by
              rw [hd]
              refine leaves_marks rs w' hnd (fun r hr => (hrs r hr).2.1) fun w2 f1 f2 f3 f4 f5 => ?_
              have g1' : Good ψ S' w2 := ⟨fun b k r hk hr => by
                obtain ⟨o, h1, h2⟩ := g1.blk b k r hk hr
                exact ⟨o, by rw [f1 r (fun e => (hrs r e).2.2 b hr)]; exact h1, h2⟩, fun b r hb => by rw [f2]; exact g1.low b r hb, g1.inj, fun r hr => g1.zero r (by omega), fun b k r hk hr => (g1.room b k r hk hr).ext rfl (f1 r (fun e => (hrs r e).2.2 b hr))⟩
              obtain ⟨v2, r3, r4⟩ := run_results (P := P) g1' g2 hvs
              refine ⟨v2, r3, v2, ψ, rfl, r4, g1', ⟨g4.ext, g4.caps, g4.dom, g4.len, g4.dead, g4.keep, fun r hr hn => ?_, by rw [f2]; exact g4.size, f3.trans g4.os, f4.trans g4.tape, f5.trans g4.output⟩⟩
              rw [f1 r (fun e => by have := (hrs r e).1; omega), g4.frame r hr hn]
            cases x with
            | normal => exact key
            | ret => exact key
            | exit id => exact (hne id rfl).elim
        · cases h
      · cases h
    · cases h
  · cases h
end
end Go.Proofs.XX.Vm
/- A small evaluator over a shadow heap, part 16: rounds of a range over a function, and the statement itself. -/
namespace Go.Proofs.XX.Vm
open Go Go.RowKit

section
variable {P : Program} {w : World}

theorem loopAt_get {S : List Blk} {l : Nat} {L : LoopS} (h : loopAt S l = some L) : ∃ k, S[l]? = some k ∧ k.obj = some (.loop L) := by
  unfold loopAt at h
  split at h
  · rename_i c e ro M hk; cases h; exact ⟨_, hk, rfl⟩
  · cases h
theorem loop_heap {φ : Ren} {S : List Blk} (good : Good φ S w) {l r : Nat} {L : LoopS} (h : loopAt S l = some L) (hr : φ l = some r) :
    ∃ fn tmps' d, w.heap[r]? = some (.loop { state := L.state, pending := L.pending, fn := fn, tmps := tmps', params := L.params, assign := L.assign, body := L.body, defers := d }) ∧ LRel φ L.tmps tmps'.toList := by
  obtain ⟨k, hk, ho⟩ := loopAt_get h
  obtain ⟨o, h1, h2⟩ := good.blk l k r hk hr
  unfold BRel at h2
  rw [ho] at h2
  obtain ⟨fn, tmps', d, rfl, h3⟩ := h2
  exact ⟨fn, tmps', d, h1, h3⟩
theorem run_getLoop {r : Nat} {L : Loop} (h : w.heap[r]? = some (.loop L)) : (Instr.getLoop r).run P w = .ok L w := by
  simp [Instr.getLoop, getObj, Sem.run, h]
theorem run_setLoop {r : Nat} {L : Loop} {o : Obj} (h : w.heap[r]? = some (.loop L)) : (setObj r o).run P w = .ok () (w.putObj r o) := by
  simp [setObj, Sem.run, h, World.putObj]
theorem heap_putObj {r : Nat} {o : Obj} (hr : r < w.heap.size) (s : Nat) : (w.putObj r o).heap[s]? = if s = r then some o else w.heap[s]? := by
  simp only [World.putObj]
  by_cases h : s = r
  · subst h; simp [hr]
  · rw [if_neg h, Array.getElem?_setIfInBounds_ne (fun e => h e.symm)]
theorem good_put {φ : Ren} {S : List Blk} (good : Good φ S w) {fl l r : Nat} {L M : LoopS} (h : loopAt S l = some L) (hr : φ l = some r) (hfl : fl ≤ l) {fn d : Nat} {t : Array Value} (ht : LRel φ M.tmps t.toList) :
    Good φ (S.set l (loopBlk M)) (w.putObj r (.loop { state := M.state, pending := M.pending, fn := fn, tmps := t, params := M.params, assign := M.assign, body := M.body, defers := d })) ∧
    Step fl φ S w φ (S.set l (loopBlk M)) (w.putObj r (.loop { state := M.state, pending := M.pending, fn := fn, tmps := t, params := M.params, assign := M.assign, body := M.body, defers := d })) := by
  obtain ⟨k, hk, _⟩ := loopAt_get h
  exact good.turn (List.getElem?_eq_some_iff.1 hk).1 hr hfl (show BRel φ (loopBlk M) _ from ⟨fn, t, d, rfl, ht⟩) (fun d => by have := d k hk; simp_all) (by have := good.room l k r hk hr; unfold Room at this ⊢; simp_all [loopBlk]) (heap_putObj (good.low l r hr)) (by simp [World.putObj]) rfl rfl rfl

theorem setParams_rel {φ : Ren} : ∀ (ps : List Tmp) (args args' : List Value) (T : List Value) (t : Array Value), LRel φ args args' → LRel φ T t.toList →
    LRel φ (setParams T ps args) ((ps.zip args').foldl (fun tmps (x : Tmp × Value) => tmps.setIfInBounds x.1 x.2) t).toList := by
  intro ps
  induction ps with
  | nil => intro args args' T t _ hT; simpa [setParams] using hT
  | cons p ps ih =>
    intro args args' T t ha hT
    cases args with
    | nil => cases args' with
      | nil => simpa [setParams] using hT
      | cons _ _ => simp [LRel] at ha
    | cons v vs => cases args' with
      | nil => simp [LRel] at ha
      | cons v' vs' =>
        simp only [setParams, List.zip_cons_cons, List.foldl_cons]
        exact ih vs vs' _ _ ha.tail (by simpa using hT.set ha.head p)

theorem ext_set {fl l : Nat} (h : fl ≤ l) (S : List Blk) (k : Blk) : Ext fl S (S.set l k) := ⟨by simp, fun b e1 _ => by rw [List.getElem?_set_ne (by omega)]⟩

theorem roundS_ok {Sg : List Blk} {rec : RecT} (hcode : CodeOk P Sg rec) {fl l : Nat} {args : List Value} {S S' : List Blk} {v : Value} (h : roundS rec fl l args S = some (v, S')) (hfl : Sg.length ≤ fl) (hS : Sg.length ≤ S.length) :
    Ext fl S S' ∧ ∀ (φ : Ren) (w : World) (r : Nat) (args' : List Value), Inv Sg φ S w → φ l = some r → LRel φ args args' → Fresh φ S.length S'.length →
      ∃ fn tmps assign body, (Instr.yield r args'.toArray).run P w = .ok (.round r fn tmps assign body) w ∧
        RoundIn Fence.wide 0 P r fn tmps assign body w fun e w' => ∃ v' ψ, e = .returned v' ∧ VRel ψ v v' ∧ Good ψ S' w' ∧ Step fl φ S w ψ S' w' := by
  unfold roundS at h
  simp only [forceK_eq] at h
  split at h
  · rename_i L hL
    split at h
    · rename_i hc
      simp only [Bool.and_eq_true, decide_eq_true_eq, beq_iff_eq] at hc
      obtain ⟨hll, hlen⟩ := hc
      split at h
      · rename_i T1 S1 h1
        split at h
        · rename_i p1 t1 q1 a1 b1 hL1
          split at h
          · rename_i x T3 S3 h2
            split at h
            · rename_i L3 hL3
              cases h
              obtain ⟨x1, k1⟩ := hcode _ _ _ _ _ _ _ _ h1 hfl hS
              have hS1 : Sg.length ≤ S1.length := Nat.le_trans hS x1.1
              obtain ⟨x2, k2⟩ := hcode _ _ _ _ _ _ _ _ h2 hfl (by simpa using hS1)
              refine ⟨x1.trans ((ext_set hll _ _).trans (x2.trans (ext_set hll _ _))), ?_⟩
              intro φ w r args' inv hr hargs hf
              have hlen2 : S1.length ≤ S3.length := by have := x2.1; simpa using this
              simp only [List.length_set] at hf
              obtain ⟨fn, tmps', d, g1, g2⟩ := loop_heap inv.ok.good hL hr
              have hsz : args'.length = L.params.toList.length := by rw [← hargs.1]; exact hlen
              refine ⟨fn, _, L.assign, L.body, ?_, roundIn_of_wpIn (F := Fence.wide) (n := 0) (tmps := (L.params.toList.zip args').foldl (fun tmps (x : Tmp × Value) => tmps.setIfInBounds x.1 x.2) tmps') trivial ?_⟩
              · have hz : ¬ args'.toArray.size ≠ L.params.size := by simpa using hsz
                simp only [Instr.yield, Sem.run_bind, run_getLoop g1, Result.andThen_ok, if_neg hz, Sem.run_pure]
                congr 2
                rw [← Array.foldl_toList]
                simp
              · refine k1 (some r) rfl _ φ _ w inv (setParams_rel _ _ _ _ _ hargs g2) (fun b e1 e2 => hf b e1 (Nat.lt_of_lt_of_le e2 hlen2)) ?_
                intro ψ1 a1' w1 e1 e2 _ e4
                have hr1 := e4.ext _ _ hr
                obtain ⟨fn1, u1, d1, m1, m2⟩ := loop_heap e1 hL1 hr1
                obtain ⟨n1, n2⟩ := good_put e1 (M := ⟨.busy, p1, t1, q1, a1, b1⟩) hL1 hr1 hll (fn := fn1) (d := d1) m2
                refine ⟨_, ?_, k2 (some r) rfl (roundPost P r _) ψ1 a1' _ ((inv.step hfl e4 e1).step hfl n2 n1) e2 ?_ ?_⟩
                · simp only [Instr.beginRound, Sem.run_bind, run_getLoop m1, Result.andThen_ok, run_setLoop m1, Sem.run_pure]
                · intro b f1 f2
                  simp only [List.length_set] at f1
                  exact (e4.fresh hf) b f1 f2
                · intro ψ3 a3 w3 o1 o2 _ o4
                  have hr3 := o4.ext _ _ hr1
                  obtain ⟨fn3, u3, d3, m3, m4⟩ := loop_heap o1 hL3 hr3
                  obtain ⟨n3, n4⟩ := good_put o1 (M := { L3 with state := if goesOn x then .ready else .done, pending := jumpOf x }) hL3 hr3 hll (fn := fn3) (d := d3) m4
                  have hfr1 : Fresh ψ1 S1.length (S3.set l (loopBlk { L3 with state := if goesOn x then .ready else .done, pending := jumpOf x })).length := fun b f1 f2 => (e4.fresh hf) b f1 (by simpa using f2)
                  have hst := e4.trans (n2.trans (o4.trans n4 fun b f1 f2 => hfr1 b (by simpa using f1) f2) hfr1) fun b f1 f2 => hf b f1 (by simpa using f2)
                  · have hend : (Instr.endRound r (jumpOf x)).run P w3 = .ok (.bool (jumpOf x).isNone) (w3.putObj r (.loop { state := if (jumpOf x).isNone then .ready else .done, pending := jumpOf x, fn := fn3, tmps := u3, params := L3.params, assign := L3.assign, body := L3.body, defers := d3 })) := by
                      simp only [Instr.endRound, Sem.run_bind, run_getLoop m3, Result.andThen_ok, run_setLoop m3, Sem.run_pure]
                    have hgo : (jumpOf x).isNone = goesOn x := by cases x <;> rfl
                    have hw : ∀ s : LoopState, (if (jumpOf x).isNone = true then LoopState.ready else .done) = (if goesOn x = true then .ready else .done) := by intro s; rw [hgo]
                    rw [hgo] at hend
                    cases x with
                    | normal => exact ⟨_, _, hend, _, ψ3, rfl, .bool _, n3, hst⟩
                    | exit id => exact ⟨_, _, hend, _, ψ3, rfl, .bool _, n3, hst⟩
                    | ret => exact ⟨_, _, hend, _, ψ3, rfl, .bool _, n3, hst⟩
            · cases h
          · cases h
        · cases h
      · cases h
    · cases h
  · cases h
end
end Go.Proofs.XX.Vm
/- A small evaluator over a shadow heap, part 17: what is evaluated is what the program does. -/
namespace Go.Proofs.XX.Vm
open Go Go.RowKit

section
variable {P : Program}

/-- A new object that the shadow knows nothing of. -/
theorem good_apart {φ : Ren} {S : List Blk} {w : World} (good : Good φ S w) (fl : Nat) (o : Obj) : Good φ S (w.alloc o) ∧ Step fl φ S w φ S (w.alloc o) :=
  ⟨⟨fun b k r hk hr => by
      obtain ⟨o2, h1, h2⟩ := good.blk b k r hk hr
      exact ⟨o2, by rw [Below.heap_alloc _ _ _ (good.low b r hr)]; exact h1, h2⟩,
    fun b r hr => by have := good.low b r hr; rw [size_new]; omega, good.inj, fun r hr => good.zero r (by rw [size_new] at hr; omega), fun b k r hk hr => (good.room b k r hk hr).ext rfl (Below.heap_alloc _ _ _ (good.low b r hr))⟩,
   ⟨RExt.refl φ, fun _ _ => rfl, fun _ _ e => .inl e, Nat.le_refl _, fun _ _ d => d, fun _ _ _ => rfl, fun r hr _ => Below.heap_alloc _ _ _ hr, by rw [size_new]; omega, rfl, rfl, rfl⟩⟩

theorem rangeS_ok {Sg : List Blk} {rec : RecT} (hcode : CodeOk P Sg rec) {fl : Nat} {g : Operand} {params : Array Tmp} {assign body : Code} {T T' : List Value} {S S' : List Blk} {x : Ex}
    (h : rangeS P Sg.length rec fl g params assign body T S = some (x, T', S')) (hfl : Sg.length ≤ fl) (hS : Sg.length ≤ S.length) :
    Ext fl S S' ∧ ∀ (Q : Exit → Act → World → Prop) (φ : Ren) (a : Act) (w : World), Inv Sg φ S w → LRel φ T a.tmps.toList → Fresh φ S.length S'.length → Then fl φ S w a.defers x T' S' Q →
      (Code.rangeFunc g params assign body).wpIn (wideAt none) 0 P Q a w := by
  unfold rangeS at h
  simp only [forceK_eq] at h
  by_cases hflS : fl ≤ S.length
  case neg => simp [hflS] at h
  simp only [hflS, decide_true, if_true] at h
  split at h
  · rename_i gv hg
    split at h
    · rename_i hfn args hcal
      split at h
      · rename_i u S2 hin
        split at h
        · rename_i L hL
          have hx0 : Ext fl S (S ++ [loopBlk ⟨.ready, none, T, params, assign, body⟩]) := Ext.app _ _ _
          obtain ⟨x1, k1⟩ := callIn_ok hcode hin hfl (Nat.le_trans hS hx0.1)
          have hlS2 : S.length < S2.length := by have := x1.1; simp at this; omega
          obtain ⟨pend, hstate, hpend, hres⟩ : ∃ pend, (L.state == .busy) = false ∧ L.pending = pend ∧ S' = S2.set S.length (loopBlk { L with state := .exhausted }) ∧ T = T' ∧
              ((pend = none ∧ x = .normal) ∨ (pend = some .ret ∧ x = .ret) ∨ (∃ id, pend = some (.exit id) ∧ x = .exit id)) := by
            refine ⟨L.pending, ?_⟩
            split at h
            · cases h
            · rename_i hst
              have hst' : (L.state == .busy) = false := by
                cases hs : L.state <;> first | rfl | exact absurd hs hst
              split at h
              · rename_i hp; cases h; exact ⟨hst', rfl, rfl, rfl, .inl ⟨hp, rfl⟩⟩
              · rename_i hp; cases h; exact ⟨hst', rfl, rfl, rfl, .inr (.inl ⟨hp, rfl⟩)⟩
              · rename_i id hp; cases h; exact ⟨hst', rfl, rfl, rfl, .inr (.inr ⟨id, hp, rfl⟩)⟩
              · cases h
          obtain ⟨rfl, rfl, hjump⟩ := hres
          refine ⟨hx0.trans (x1.trans (ext_set hflS _ _)), ?_⟩
          intro Q φ a w inv hT hf hQ
          simp only [List.length_set] at hf
          refine wpIn_rangeFunc fun fn _ => ?_
          -- the block of deferred calls, and the record
          obtain ⟨d1, d2⟩ := good_apart inv.ok.good fl (.deferred (some []))
          let Lo : Loop := { state := .ready, pending := none, fn := fn, tmps := a.tmps, params := params, assign := assign, body := body, defers := w.heap.size }
          have hn : φ S.length = none := hf _ (Nat.le_refl _) hlS2
          obtain ⟨n1, n2⟩ := d1.new fl hn (loopBlk ⟨.ready, none, T, params, assign, body⟩) (.loop Lo) ⟨fn, a.tmps, w.heap.size, rfl, hT⟩ rfl
          have hsz1 : (w.alloc (.deferred (some []))).heap.size = w.heap.size + 1 := size_new _ _
          rw [hsz1] at n1 n2
          have hf1 : Fresh φ S.length (S ++ [loopBlk ⟨.ready, none, T, params, assign, body⟩]).length := fun b f1 f2 => hf b f1 (by simp at f2; omega)
          have st1 := d2.trans n2 hf1
          have inv1 := inv.step hfl st1 n1
          have hl1 : newRen φ S.length (w.heap.size + 1) S.length = some (w.heap.size + 1) := newRen_new _ _ _
          have hyl : VRel (newRen φ S.length (w.heap.size + 1)) (.func (.yield S.length) #[] #[]) (.func (.yield (w.heap.size + 1)) #[] #[]) := .yield hl1
          have hgv : VRel (newRen φ S.length (w.heap.size + 1)) gv (a.eval g) := (opd_rel inv.ok hT hg).mono st1.ext
          have hdo : ∃ d args', (Deferred.ofValue (a.eval g) #[.func (.yield (w.heap.size + 1)) #[] #[]]).run P ((w.alloc (.deferred (some []))).alloc (.loop Lo)) = .ok d ((w.alloc (.deferred (some []))).alloc (.loop Lo)) ∧
              (invoke d.target d.args).run P ((w.alloc (.deferred (some []))).alloc (.loop Lo)) = .ok (.enter hfn args'.toArray) ((w.alloc (.deferred (some []))).alloc (.loop Lo)) ∧ LRel (newRen φ S.length (w.heap.size + 1)) args args' := by
            generalize a.eval g = gv' at hgv
            unfold callee at hcal
            split at hcal
            · rename_i g0 xs cs
              cases hgv with
              | func g' hx ex hc ec =>
                rename_i xs' cs'
                split at hcal
                · rename_i fnn hfnn
                  split at hcal
                  · cases hcal
                  · rename_i hname
                    split at hcal
                    · rename_i bd hbd
                      simp only [Option.some.injEq, R.call.injEq] at hcal
                      obtain ⟨rfl, rfl⟩ := hcal
                      have hname' : ¬ fnn.name = "runtime.NumGoroutine" := by simpa using hname
                      refine ⟨{ target := .fn (.func g0) cs', args := xs' ++ #[.func (.yield (w.heap.size + 1)) #[] #[]] }, xs'.toList ++ [.func (.yield (w.heap.size + 1)) #[] #[]] ++ cs'.toList, by simp [Deferred.ofValue], ?_, ((LRel.append (LRel.append ⟨hx, ex⟩ (LRel.cons hyl (LRel.nil _))) ⟨hc, ec⟩))⟩
                      simp [invoke, callFunc, program, Sem.run, hfnn, hname', hbd]
                    · cases hcal
                · cases hcal
            · split at hcal <;> cases hcal
            · cases hcal
          obtain ⟨d, args', hd1, hd2, hd3⟩ := hdo
          refine ⟨w.heap.size + 1, [markOf w.heap.size], ((w.alloc (.deferred (some []))).alloc (.loop Lo)), d, ((w.alloc (.deferred (some []))).alloc (.loop Lo)), hfn, args'.toArray, ((w.alloc (.deferred (some []))).alloc (.loop Lo)), ?_, ?_, (fun _ _ => trivial), hd2, (fun hd => by cases hd), callsIn_wideAt.2 (Calls.mono (k1 _ _ args' inv1 hd3 (st1.fresh hf)) ?_)⟩
          · exact run_enterLoop_outer _ _ _ _ _
          · simpa [resolve, rangeCall, Act.eval] using hd1
          · rintro e w3 ⟨v', ψ, rfl, _, hgood, hstep⟩
            have hl3 : ψ S.length = some (w.heap.size + 1) := hstep.ext _ _ hl1
            obtain ⟨fn3, u3, d3, m3, m4⟩ := loop_heap hgood hL hl3
            obtain ⟨n3, n4⟩ := good_put hgood (M := { L with state := .exhausted }) hL hl3 hflS (fn := fn3) (d := d3) m4
            have hend : (Instr.endLoop (w.heap.size + 1)).run P w3 = .ok L.pending (w3.putObj (w.heap.size + 1) (.loop { state := .exhausted, pending := L.pending, fn := fn3, tmps := u3, params := L.params, assign := L.assign, body := L.body, defers := d3 })) := by
              simp only [Instr.endLoop, Sem.run_bind, run_getLoop m3, Result.andThen_ok, hstate, Bool.false_eq_true, if_false, Sem.run_pure, run_setLoop m3]
            have hsz2 : ((w.alloc (.deferred (some []))).alloc (.loop Lo)).heap.size = w.heap.size + 2 := by rw [size_new, size_new]
            have hnone : ∀ b, newRen φ S.length (w.heap.size + 1) b ≠ some w.heap.size := by
              intro b hb
              unfold newRen at hb
              simp only at hb
              split at hb
              · have := Option.some.inj hb; omega
              · have := inv.ok.good.low b _ hb; omega
            have hdef1 : ((w.alloc (.deferred (some []))).alloc (.loop Lo)).heap[w.heap.size]? = some (.deferred (some [])) := by
              rw [Below.heap_alloc _ _ _ (by rw [size_new]; omega)]; exact heap_new _ _
            have hdef3 : w3.heap[w.heap.size]? = some (.deferred (some [])) := by
              rw [hstep.frame _ (by rw [hsz2]; omega) fun b _ _ _ => hnone b]; exact hdef1
            have hrsz : w.heap.size + 1 < w3.heap.size := by have := hstep.size; rw [hsz2] at this; omega
            have hfin : Step fl φ S w ψ (S2.set S.length (loopBlk { L with state := .exhausted })) (w3.putObj (w.heap.size + 1) (.loop { state := .exhausted, pending := L.pending, fn := fn3, tmps := u3, params := L.params, assign := L.assign, body := L.body, defers := d3 })) :=
              st1.trans (hstep.trans n4 fun b f1 f2 => (st1.fresh hf) b f1 (by simpa using f2)) fun b f1 f2 => hf b f1 (by simpa using f2)
            have hQx : Q x.to { a with defers := [markOf w.heap.size] ++ a.defers } (w3.putObj (w.heap.size + 1) (.loop { state := .exhausted, pending := L.pending, fn := fn3, tmps := u3, params := L.params, assign := L.assign, body := L.body, defers := d3 })) := by
              refine hQ ψ _ _ n3 (hT.mono (st1.ext.trans hstep.ext)) ⟨[w.heap.size], rfl, by simp, fun r hr => ?_⟩ hfin
              simp only [List.mem_singleton] at hr
              subst hr
              refine ⟨Nat.le_refl _, by rw [heap_putObj hrsz, if_neg (by omega)]; exact hdef3, fun b hb => ?_⟩
              rcases hstep.dom b _ hb with h1 | ⟨_, _, h1 | ⟨c, _, _, h1, _⟩⟩
              · exact hnone b h1
              · rw [hsz2] at h1; omega
              · exact hnone c h1
            refine ⟨L.pending, _, hend, ?_⟩
            revert hQx
            rw [hpend]
            intro hQx
            rcases hjump with ⟨rfl, rfl⟩ | ⟨rfl, rfl⟩ | ⟨id, rfl, rfl⟩
            · exact hQx
            · exact wpIn_ret hQx
            · exact wpIn_exit hQx
        · cases h
      · cases h
    · cases h
  · cases h
end
end Go.Proofs.XX.Vm
/- A small evaluator over a shadow heap, part 18: what is evaluated is what the program does. -/
namespace Go.Proofs.XX.Vm
open Go Go.RowKit

section
variable {P : Program}

theorem Then.trans {fl : Nat} {φ ψ : Ren} {S S1 S' : List Blk} {w w1 : World} {d d1 : List Deferred} {x : Ex} {T' : List Value} {Q : Exit → Act → World → Prop} (hQ : Then fl φ S w d x T' S' Q)
    (g3 : Defs w.heap.size d d1 ψ w1) (g4 : Step fl φ S w ψ S1 w1) (hf : Fresh φ S.length S'.length) : Then fl ψ S1 w1 d1 x T' S' Q :=
  fun χ a2 w2 f1 f2 f3 f4 => hQ χ a2 w2 f1 f2 (g3.trans f4 g4.size f3) (g4.trans f4 hf)

theorem stepR_scopeV {b : Frame} {a : Act} {k : List Item} {cs : List Frame} {w : World} {c : Code} : step P (lone (b.atR a (.code (.scope c) :: k)) cs w) = .next (lone (b.atR a (.code c :: .inScope c :: k)) cs w) :=
  step_lone_go (by simp [stepG, stepG.exec, Frame.atR])
theorem stepR_inScopeV {b : Frame} {a : Act} {k : List Item} {cs : List Frame} {w : World} {c : Code} : step P (lone (b.atR a (.inScope c :: k)) cs w) = .next (lone (b.atR a k) cs w) :=
  step_lone_go (by simp [stepG, stepG.exec, Frame.atR])
theorem wpIn_scopeV {F : Fence} {n : Nat} {Q : Exit → Act → World → Prop} {a : Act} {w : World} {c : Code} (h : c.wpIn F n P (Exit.noGoto Q) a w) : (Code.scope c).wpIn F n P Q a w := by
  intro b k cs hro hb hr
  have h0 : (lone (b.atR a (.code (.scope c) :: k)) cs w).fenced P F := fenced_calm hb hr rfl
  obtain ⟨e, a₁, w₁, hq, harr⟩ := h b (.inScope c :: k) cs hro hb hr
  cases e with
  | normal => exact ⟨.normal, a₁, w₁, hq, .head h0 stepR_scopeV (StepsIn.trans harr (.one (fenced_calm hb hr rfl) stepR_inScopeV))⟩
  | exit id =>
    have hx : exitTo id (.inScope c :: k) = exitTo id k := by simp [exitTo]
    exact ⟨.exit id, a₁, w₁, hq, fun k' hk => .head h0 stepR_scopeV (harr.1 k' (by rw [hx]; exact hk)),
      fun hr' hk => let ⟨k₁, h1, h2⟩ := harr.2 hr' (by rw [hx]; exact hk); ⟨k₁, h1, .head h0 stepR_scopeV h2⟩⟩
  | goto l => exact hq.elim
  | ret => exact ⟨_, a₁, w₁, hq, .of_steps (.one h0 stepR_scopeV) harr⟩
  | panic ch => exact ⟨_, a₁, w₁, hq, .of_steps (.one h0 stepR_scopeV) harr⟩
  | outgrown => exact ⟨_, a₁, w₁, hq, .of_steps (.one h0 stepR_scopeV) harr⟩

section
variable {φ ψ : Ren} {n : Nat}
/-- Both say the same of the first n blocks. -/
def Agr (n : Nat) (φ ψ : Ren) : Prop := ∀ b r, b < n → φ b = some r → ψ b = some r ∧ ψ.cap r = φ.cap r
theorem clA_to (h : Agr n φ ψ) {v v' : Value} (hc : clA n v = true) (r : VRel φ v v') : VRel ψ v v' := by
  cases r
  case bool b => exact .bool b
  case int k n => exact .int k n
  case string s => exact .string s
  case nilPtr => exact .nilPtr
  case ptr hb => exact .ptr (h _ _ (by simpa [clA, Nat.blt_eq] using hc) hb).1
  case nilSlice n c => exact .nilSlice n c
  case slice hb hc1 hn hk => exact .slice (h _ _ (by simpa [clA, Nat.blt_eq] using hc) hb).1 hc1 hn (by unfold CapOk at *; rw [(h _ _ (by simpa [clA, Nat.blt_eq] using hc) hb).2]; exact hk)
  case empty => exact .empty _ _ _ (by assumption)
  case emptyS b o a' c' => exact .emptyS _ _ _ _
  case nilMap => exact .nilMap
  case junk => exact .junk _
  case map hb => exact .map (h _ _ (by simpa [clA, Nat.blt_eq] using hc) hb).1
  case nilFunc => exact .nilFunc
  case yield hl => simp [clA] at hc
  case func => simp [clA] at hc
  case agg => simp [clA] at hc
  case tuple => simp [clA] at hc
  case qs => simp [clA] at hc
  case qp => simp [clA] at hc
theorem clL_to (p : Value → Bool) (hp : ∀ v v', p v = true → VRel φ v v' → VRel ψ v v') {l l' : List Value} (h : allR p l = true) (r : LRel φ l l') : LRel ψ l l' := by
  rw [allR_eq] at h
  refine ⟨r.1, fun i v v' a b => hp v v' ((List.all_eq_true.1 h) v (List.mem_of_getElem? a)) (r.2 i v v' a b)⟩
theorem clS_to (h : Agr n φ ψ) {v v' : Value} (hc : clS n v = true) (r : VRel φ v v') : VRel ψ v v' := by
  cases r
  case func f x x' c c' hx ex hcl ec =>
    simp only [clS, Bool.and_eq_true] at hc
    have h1 := clL_to (clA n) (fun _ _ => clA_to h) hc.1 ⟨hx, ex⟩
    have h2 := clL_to (clA n) (fun _ _ => clA_to h) hc.2 ⟨hcl, ec⟩
    exact .func f h1.1 h1.2 h2.1 h2.2
  case yield hl =>
    simp only [clS, Bool.and_eq_true, Nat.blt_eq] at hc
    exact .yield (h _ _ hc.1.1 hl).1
  all_goals exact clA_to h hc (by constructor <;> assumption)
theorem cl2_to (h : Agr n φ ψ) {v v' : Value} (hc : cl2 n v = true) (r : VRel φ v v') : VRel ψ v v' := by
  by_cases ha : ∃ x, v = .agg x
  · obtain ⟨x, rfl⟩ := ha
    cases r with
    | agg hx ex =>
      have h1 := clL_to (clS n) (fun _ _ => clS_to h) hc ⟨hx, ex⟩
      exact .agg h1.1 h1.2
  · have : cl2 n v = clS n v := by
      unfold cl2
      split
      · exact absurd ⟨_, rfl⟩ ha
      · rfl
    rw [this] at hc
    exact clS_to h hc r
theorem cl3_to (h : Agr n φ ψ) {v v' : Value} (hc : cl3 n v = true) (r : VRel φ v v') : VRel ψ v v' := by
  by_cases ha : ∃ x, v = .tuple x
  · obtain ⟨x, rfl⟩ := ha
    cases r with
    | tuple hx ex =>
      have h1 := clL_to (cl2 n) (fun _ _ => cl2_to h) hc ⟨hx, ex⟩
      exact .tuple h1.1 h1.2
  · have : cl3 n v = cl2 n v := by
      unfold cl3
      split
      · exact absurd ⟨_, rfl⟩ ha
      · rfl
    rw [this] at hc
    exact cl2_to h hc r
theorem clB_to (h : Agr n φ ψ) {k : Blk} {o : Obj} (hc : clB n k = true) (r : BRel φ k o) : BRel ψ k o := by
  obtain ⟨cs, e, ro, ob⟩ := k
  cases ob with
  | none =>
    obtain ⟨c', fz, e1, e2, e3⟩ := r
    exact ⟨c', fz, e1, clL_to (clS n) (fun _ _ => clS_to h) hc e2, e3⟩
  | some b =>
    cases b with
    | loop l =>
      obtain ⟨fn, t', d, h1, h2⟩ := r
      exact ⟨fn, t', d, h1, clL_to (cl3 n) (fun _ _ => cl3_to h) hc h2⟩
    | mapv es c => cases hc
    | map es c => exact r
    | iter s p => exact r
    | ints kd lo L => exact r
    | buf kd sz L => exact r
    | bufc sz =>
      obtain ⟨c', e1, e2, e3⟩ := r
      exact ⟨c', e1, clL_to (clS n) (fun _ _ => clS_to h) hc e2, e3⟩
    | que kd sz lo L => exact r
    | dead => exact r
end
theorem gc_ok {Sg : List Blk} {fl : Nat} {f : FuncId} {args : List Value} {S S' : List Blk} {v : Value} (hS : Sg.length ≤ S.length) (hc : gcOk S args v S' = true)
    (H : Ext fl S S' ∧ ∀ (φ : Ren) (w : World) (args' : List Value), Inv Sg φ S w → LRel φ args args' → Fresh φ S.length S'.length →
      Calls P f args'.toArray w fun e w' => ∃ v' ψ, e = .returned v' ∧ VRel ψ v v' ∧ Good ψ S' w' ∧ Step fl φ S w ψ S' w') :
    Ext fl S (S'.take S.length) ∧ ∀ (φ : Ren) (w : World) (args' : List Value), Inv Sg φ S w → LRel φ args args' → Fresh φ S.length (S'.take S.length).length →
      Calls P f args'.toArray w fun e w' => ∃ v' ψ, e = .returned v' ∧ VRel ψ v v' ∧ Good ψ (S'.take S.length) w' ∧ Step fl φ S w ψ (S'.take S.length) w' := by
  obtain ⟨hext, H⟩ := H
  simp only [gcOk, Bool.and_eq_true, lenR_eq, takeR_eq] at hc
  obtain ⟨_, hpl, hcS, hcS', hca⟩ := hc
  have hlen : (S'.take S.length).length = S.length := by rw [List.length_take]; have := hext.1; omega
  have hget : ∀ b, b < S.length → (S'.take S.length)[b]? = S'[b]? := fun b hb => by rw [List.getElem?_take, if_pos hb]
  have hout : ∀ b, S.length ≤ b → (S'.take S.length)[b]? = none := fun b hb => by rw [List.getElem?_eq_none_iff, hlen]; exact hb
  refine ⟨⟨by omega, fun b h1 h2 => by rw [hget b h2, hext.2 b h1 h2]⟩, fun φ w args' inv hargs _ => ?_⟩
  let φ0 : Ren := ⟨fun b => if b < S.length then φ b else none, φ.cap⟩
  have h0 : ∀ b r, φ0 b = some r → b < S.length ∧ φ b = some r := by
    intro b r h
    by_cases hb : b < S.length
    · simp only [φ0, hb, if_true] at h; exact ⟨hb, h⟩
    · simp only [φ0, hb, if_false] at h; cases h
  have h1 : ∀ b r, b < S.length → φ b = some r → φ0 b = some r := fun b r hb h => by simp only [φ0, hb, if_true]; exact h
  have agr : Agr S.length φ φ0 := fun b r hb h => ⟨h1 b r hb h, rfl⟩
  have hclS : ∀ {b : Nat} {k : Blk}, S[b]? = some k → clB S.length k = true := fun hk => by
    rw [allR_eq] at hcS
    exact (List.all_eq_true.1 hcS) _ (List.mem_of_getElem? hk)
  have hclS' : ∀ {b : Nat} {k : Blk}, (S'.take S.length)[b]? = some k → clB S.length k = true := fun hk => by
    rw [allR_eq] at hcS'
    exact (List.all_eq_true.1 hcS') _ (List.mem_of_getElem? hk)
  have g := inv.ok.good
  have inv0 : Inv Sg φ0 S w := by
    refine ⟨⟨⟨fun b k r hk hr => ?_, fun b r hr => g.low b r (h0 b r hr).2, fun b c r e1 e2 => g.inj b c r (h0 b r e1).2 (h0 c r e2).2, g.zero, fun b k r hk hr => (g.room b k r hk (h0 b r hr).2).ext rfl rfl⟩, fun x hx => h1 x x (by omega) (inv.ok.glob x hx)⟩, inv.base, inv.len⟩
    obtain ⟨o, o1, o2⟩ := g.blk b k r hk (h0 b r hr).2
    exact ⟨o, o1, clB_to agr (hclS hk) o2⟩
  refine Calls.mono (H φ0 w args' inv0 (clL_to (cl3 S.length) (fun _ _ => cl3_to agr) hca hargs) fun b hb _ => by simp only [φ0, show ¬ b < S.length by omega, if_false]) ?_
  rintro e w' ⟨v', ψ, rfl, hv, hg, hs⟩
  have back : ∀ b r, b < S.length → ψ b = some r → φ b = some r ∧ φ.cap r = ψ.cap r := by
    intro b r hb h
    rcases hs.dom b r h with h | ⟨h, _⟩
    · have := (h0 b r h).2
      exact ⟨this, (hs.caps r (g.low b r this)).symm⟩
    · omega
  refine ⟨v', φ, rfl, by rw [plain_eq hpl hv]; exact plain_refl hpl, ⟨fun b k r hk hr => ?_, fun b r hr => Nat.lt_of_lt_of_le (g.low b r hr) hs.size, fun b c r e1 e2 => ?_, fun r hr => g.zero r (Nat.le_trans hs.size hr), fun b k r hk hr => ?_⟩,
    ⟨RExt.refl φ, fun _ _ => rfl, fun _ _ h => .inl h, by omega, fun b hb d k hk => hs.dead b hb d k (by rw [← hget b hb]; exact hk), fun b e1 e2 => by rw [hget b e2, hs.keep b e1 e2], fun r hr hn => hs.frame r hr fun b e1 e2 e3 e4 => hn b e1 e2 e3 (h0 b r e4).2, hs.size, hs.os, hs.tape, hs.output⟩⟩
  · have hb : b < S.length := by
      by_cases hb : b < S.length
      · exact hb
      · rw [hout b (by omega)] at hk; cases hk
    have hk' := hk
    rw [hget b hb] at hk'
    obtain ⟨o, o1, o2⟩ := hg.blk b k r hk' (hs.ext.fn _ _ (h1 b r hb hr))
    exact ⟨o, o1, clB_to back (hclS' hk) o2⟩
  · have dd : ∀ b, Dead S b → Dead (S'.take S.length) b := by
      intro b d k hk
      by_cases hb : b < S.length
      · exact hs.dead b hb d k (by rw [← hget b hb]; exact hk)
      · rw [hout b (by omega)] at hk; cases hk
    rcases g.inj b c r e1 e2 with h | h | h
    · exact .inl h
    · exact .inr (.inl (dd b h))
    · exact .inr (.inr (dd c h))
  · have hb : b < S.length := by
      by_cases hb : b < S.length
      · exact hb
      · rw [hout b (by omega)] at hk; cases hk
    have hk' := hk
    rw [hget b hb] at hk'
    have hψ := hs.ext.fn _ _ (h1 b r hb hr)
    exact (hg.room b k r hk' hψ).ext (back b r hb hψ).2 rfl
theorem callS_ok {orc : OrcF} {Sg : List Blk} (hsg : SgOk Sg) (horc : OrcOk P Sg orc) {rec : RecT} (hcode : CodeOk P Sg rec) {fl : Nat} {f : FuncId} {args : List Value} {S S' : List Blk} {v : Value} (h : callS P orc Sg rec fl f args S = some (v, S')) (hfl : Sg.length ≤ fl) (hS : Sg.length ≤ S.length) :
    Ext fl S S' ∧ ∀ (φ : Ren) (w : World) (args' : List Value), Inv Sg φ S w → LRel φ args args' → Fresh φ S.length S'.length →
      Calls P f args'.toArray w fun e w' => ∃ v' ψ, e = .returned v' ∧ VRel ψ v v' ∧ Good ψ S' w' ∧ Step fl φ S w ψ S' w' := by
  have apart : ∀ (u : Value), args.all plain = true → plain u = true → (∀ w : World, Inv Sg (baseRen Sg.length) Sg w → Calls P f args.toArray w fun e w' => e = .returned u ∧ Below w.heap.size w w') →
      ∀ (φ : Ren) (w : World) (args' : List Value), Inv Sg φ S w → LRel φ args args' → Fresh φ S.length S.length →
      Calls P f args'.toArray w fun e w' => ∃ v' ψ, e = .returned v' ∧ VRel ψ u v' ∧ Good ψ S w' ∧ Step fl φ S w ψ S w' := by
    intro u hall hu hc φ w args' inv hargs _
    have he := list_eq plain (fun _ _ => plain_eq) hall hargs
    subst he
    refine Calls.mono (hc w (inv.toBase hsg)) ?_
    rintro e w' ⟨rfl, hb⟩
    exact ⟨u, φ, rfl, plain_refl hu, good_of_below inv.ok.good hb, step_of_below hb⟩
  have inplace : ∀ S' : List Blk, callIn P rec fl f args S = some (v, S') → Ext fl S S' ∧ ∀ (φ : Ren) (w : World) (args' : List Value), Inv Sg φ S w → LRel φ args args' → Fresh φ S.length S'.length →
      Calls P f args'.toArray w fun e w' => ∃ v' ψ, e = .returned v' ∧ VRel ψ v v' ∧ Good ψ S' w' ∧ Step fl φ S w ψ S' w' := by
    intro S' hin
    exact callIn_ok hcode hin hfl hS
  unfold callS at h
  split at h
  · rename_i hcond
    simp only [Bool.and_eq_true] at hcond
    have hall := hcond.1
    split at h
    · rename_i u hu
      split at h
      · rename_i hpl
        cases h
        exact ⟨Ext.refl _ _, apart v hall hpl (horc.val f args v hu)⟩
      · cases h
    · split at h
      · rename_i u S1 hin
        split at h
        · rename_i hpl
          cases h
          refine ⟨Ext.refl _ _, apart v hall hpl fun w inv => ?_⟩
          refine Calls.mono ((callIn_ok hcode hin (Nat.le_refl _) (Nat.le_refl _)).2 (baseRen Sg.length) w args inv (list_refl plain (fun _ => plain_refl) hall) fun b h1 _ => by simp [baseRen]; omega) ?_
          rintro e w' ⟨v', ψ, rfl, hv, _, hs⟩
          exact ⟨by rw [plain_eq hpl hv], below_of_step hs⟩
        · cases h
      · cases h
  · split at h
    · rename_i r hr
      cases h
      exact horc.mem _ _ _ _ _ _ hr hfl hS
    · split at h
      · rename_i u S1 hin
        cases h
        unfold gcS
        cases hg : gcOk S args v S1 with
        | false => exact inplace _ hin
        | true => rw [cond_true, takeR_eq, lenR_eq]; exact gc_ok hS hg (inplace _ hin)
      · cases h

theorem callerS_ok {orc : OrcF} {Sg : List Blk} (hsg : SgOk Sg) (horc : OrcOk P Sg orc) {rec : RecT} (hcode : CodeOk P Sg rec) : ClOk P Sg (callerS P orc Sg rec) :=
  ⟨fun _ _ _ _ _ _ h hfl hS => callS_ok hsg horc hcode h hfl hS, fun _ _ _ _ _ _ h hfl hS => roundS_ok hcode h hfl hS⟩

/-- A loop is as many rounds as there was fuel. -/
def LoopOk (P : Program) (Sg : List Blk) (rec : RecT) (n : Nat) : Prop :=
  ∀ (b : Bool) (fl : Nat) (c : Code) (T : List Value) (S : List Blk) (x : Ex) (T' : List Value) (S' : List Blk), rec b fl (.loop c) T S = some (x, T', S') → Sg.length ≤ fl → Sg.length ≤ S.length →
    ∀ (ro : Option Nat), ro.isSome = b → ∀ (Q : Exit → Act → World → Prop) (φ : Ren) (a : Act) (w : World), Inv Sg φ S w → LRel φ T a.tmps.toList → Fresh φ S.length S'.length → Then fl φ S w a.defers x T' S' Q →
      Code.roundsIn (wideAt ro) 0 P c Q n a w

theorem evCode_ok {orc : OrcF} {Sg : List Blk} (hsg : SgOk Sg) (horc : OrcOk P Sg orc) : ∀ n, CodeOk P Sg (evCode P orc Sg n) ∧ LoopOk P Sg (evCode P orc Sg n) n := by
  intro n
  induction n with
  | zero => exact ⟨fun b fl c T S x T' S' h => by (cases h), fun b fl c T S x T' S' h => by (cases h)⟩
  | succ n ih =>
    obtain ⟨ihc, ihl⟩ := ih
    have hcl := callerS_ok hsg horc ihc
    have hloop : ∀ (b : Bool) (fl : Nat) (c1 : Code) (T : List Value) (S : List Blk) (x : Ex) (T' : List Value) (S' : List Blk), evCode P orc Sg (n + 1) b fl (.loop c1) T S = some (x, T', S') → Sg.length ≤ fl → Sg.length ≤ S.length →
        Ext fl S S' ∧ ∀ (ro : Option Nat), ro.isSome = b → ∀ (Q : Exit → Act → World → Prop) (φ : Ren) (a : Act) (w : World), Inv Sg φ S w → LRel φ T a.tmps.toList → Fresh φ S.length S'.length → Then fl φ S w a.defers x T' S' Q →
          Code.roundsIn (wideAt ro) 0 P c1 Q (n + 1) a w := by
      intro b fl c1 T S x T' S' h hfl hS
      simp only [evCode] at h
      split at h
      · rename_i T1 S1 h1
        obtain ⟨x1, k1⟩ := ihc _ _ _ _ _ _ _ _ h1 hfl hS
        obtain ⟨x2, _⟩ := ihc _ _ _ _ _ _ _ _ h hfl (Nat.le_trans hS x1.1)
        have k2 := ihl _ _ _ _ _ _ _ _ h hfl (Nat.le_trans hS x1.1)
        refine ⟨x1.trans x2, fun ro hro Q φ a w inv hT hf hQ => ?_⟩
        rw [roundsIn_succ]
        refine k1 ro hro _ φ a w inv hT (fun b e1 e2 => hf b e1 (Nat.lt_of_lt_of_le e2 x2.1)) ?_
        intro ψ a' w' g1 g2 g3 g4
        exact k2 ro hro Q ψ a' w' (inv.step hfl g4 g1) g2 (g4.fresh hf) (hQ.trans g3 g4 hf)
      · rename_i hne
        obtain ⟨x1, k1⟩ := ihc _ _ _ _ _ _ _ _ h hfl hS
        refine ⟨x1, fun ro hro Q φ a w inv hT hf hQ => ?_⟩
        rw [roundsIn_succ]
        refine k1 ro hro _ φ a w inv hT hf ?_
        intro ψ a' w' g1 g2 g3 g4
        cases x with
        | normal => exact absurd h (hne T' S')
        | exit id => exact hQ ψ a' w' g1 g2 g3 g4
        | ret => exact hQ ψ a' w' g1 g2 g3 g4
    refine ⟨?_, fun b fl c T S x T' S' h hfl hS => (hloop b fl c T S x T' S' h hfl hS).2⟩
    intro b fl c T S x T' S' h hfl hS
    cases c with
    | skip =>
      cases h
      exact ⟨Ext.refl _ _, fun ro hro Q φ a w inv hT _ hQ => wpIn_skip (hQ φ a w inv.ok.good hT (Defs.refl _ _ _ _) (Step.refl _ _ _ _))⟩
    | exit id =>
      cases h
      exact ⟨Ext.refl _ _, fun ro hro Q φ a w inv hT _ hQ => wpIn_exit (hQ φ a w inv.ok.good hT (Defs.refl _ _ _ _) (Step.refl _ _ _ _))⟩
    | ret =>
      cases h
      exact ⟨Ext.refl _ _, fun ro hro Q φ a w inv hT _ hQ => wpIn_ret (hQ φ a w inv.ok.good hT (Defs.refl _ _ _ _) (Step.refl _ _ _ _))⟩
    | seq c1 c2 =>
      simp only [evCode] at h
      split at h
      · rename_i T1 S1 h1
        obtain ⟨x1, k1⟩ := ihc _ _ _ _ _ _ _ _ h1 hfl hS
        obtain ⟨x2, k2⟩ := ihc _ _ _ _ _ _ _ _ h hfl (Nat.le_trans hS x1.1)
        refine ⟨x1.trans x2, fun ro hro Q φ a w inv hT hf hQ => wpIn_seq (k1 ro hro _ φ a w inv hT (fun b e1 e2 => hf b e1 (Nat.lt_of_lt_of_le e2 x2.1)) ?_)⟩
        intro ψ a' w' g1 g2 g3 g4
        exact k2 ro hro Q ψ a' w' (inv.step hfl g4 g1) g2 (g4.fresh hf) (hQ.trans g3 g4 hf)
      · rename_i hne
        obtain ⟨x1, k1⟩ := ihc _ _ _ _ _ _ _ _ h hfl hS
        refine ⟨x1, fun ro hro Q φ a w inv hT hf hQ => wpIn_seq (k1 ro hro _ φ a w inv hT hf ?_)⟩
        intro ψ a' w' g1 g2 g3 g4
        cases x with
        | normal => exact absurd h (hne T' S')
        | exit id => exact hQ ψ a' w' g1 g2 g3 g4
        | ret => exact hQ ψ a' w' g1 g2 g3 g4
    | cond y c1 c2 =>
      simp only [evCode] at h
      split at h
      · rename_i β hβ
        obtain ⟨x1, k1⟩ := ihc _ _ _ _ _ _ _ _ h hfl hS
        refine ⟨x1, fun ro hro Q φ a w inv hT hf hQ => ?_⟩
        have hv := opd_rel inv.ok hT hβ
        generalize hce : a.eval y = cv at hv
        cases hv
        refine wpIn_cond hce ?_
        cases β
        · exact k1 ro hro Q φ a w inv hT hf hQ
        · exact k1 ro hro Q φ a w inv hT hf hQ
      · cases h
    | block id c1 =>
      simp only [evCode] at h
      split at h
      · rename_i id' T1 S1 h1
        obtain ⟨x1, k1⟩ := ihc _ _ _ _ _ _ _ _ h1 hfl hS
        split at h
        · rename_i he
          cases h
          refine ⟨x1, fun ro hro Q φ a w inv hT hf hQ => wpIn_block (k1 ro hro _ φ a w inv hT hf ?_)⟩
          intro ψ a' w' g1 g2 g3 g4
          simp only [Ex.to, Exit.inBlock, he, if_true]
          exact hQ ψ a' w' g1 g2 g3 g4
        · rename_i he
          cases h
          refine ⟨x1, fun ro hro Q φ a w inv hT hf hQ => wpIn_block (k1 ro hro _ φ a w inv hT hf ?_)⟩
          intro ψ a' w' g1 g2 g3 g4
          simp only [Ex.to, Exit.inBlock, he, if_false]
          exact hQ ψ a' w' g1 g2 g3 g4
      · rename_i hne
        obtain ⟨x1, k1⟩ := ihc _ _ _ _ _ _ _ _ h hfl hS
        refine ⟨x1, fun ro hro Q φ a w inv hT hf hQ => wpIn_block (k1 ro hro _ φ a w inv hT hf ?_)⟩
        intro ψ a' w' g1 g2 g3 g4
        cases x with
        | normal => exact hQ ψ a' w' g1 g2 g3 g4
        | exit id => exact absurd h (hne id T' S')
        | ret => exact hQ ψ a' w' g1 g2 g3 g4
    | loop c1 =>
      obtain ⟨x1, k1⟩ := hloop _ _ _ _ _ _ _ _ h hfl hS
      exact ⟨x1, fun ro hro Q φ a w inv hT hf hQ => wpIn_loop_rounds (n + 1) (k1 ro hro Q φ a w inv hT hf hQ)⟩
    | region id ops draw =>
      cases draw with
      | false =>
        simp only [evCode] at h
        split at h
        · rename_i T1 S1 h1
          cases h
          refine ⟨evOps_ext hcl hfl hS h1, fun ro hro Q φ a w inv hT hf hQ => wpIn_region ?_⟩
          have := evOps_wp (ro := ro) hcl hfl (Q := Q) ops.toList 0 T T' S S' rfl h1 φ a w inv hT hf fun ψ a' w' g1 g2 g3 g4 => hQ ψ a' w' g1 g2 (g3 ▸ Defs.refl _ _ _ _) g4
          simpa [List.range_eq_range'] using this
        · cases h
      | true =>
        simp only [evCode] at h
        split at h
        · rename_i T1 S1 h1
          cases h
          refine ⟨(evDraw_wp (ro := none) (id := id) hcl hfl hS h1).1, fun ro hro Q φ a w inv hT hf hQ => (evDraw_wp (ro := ro) (id := id) hcl hfl hS h1).2 Q φ a w inv hT hf fun ψ a' w' g1 g2 g3 g4 => hQ ψ a' w' g1 g2 (g3 ▸ Defs.refl _ _ _ _) g4⟩
        · cases h
    | rangeFunc g params assign body =>
      simp only [evCode] at h
      cases b with
      | true => cases h
      | false =>
        obtain ⟨x1, k1⟩ := rangeS_ok ihc h hfl hS
        refine ⟨x1, fun ro hro Q φ a w inv hT hf hQ => ?_⟩
        cases ro with
        | some r => cases hro
        | none => exact k1 Q φ a w inv hT hf hQ
    | label l =>
      cases h
      exact ⟨Ext.refl _ _, fun ro hro Q φ a w inv hT _ hQ => wpIn_label (hQ φ a w inv.ok.good hT (Defs.refl _ _ _ _) (Step.refl _ _ _ _))⟩
    | scope c1 =>
      obtain ⟨x1, k1⟩ := ihc _ _ _ _ _ _ _ _ h hfl hS
      refine ⟨x1, fun ro hro Q φ a w inv hT hf hQ => wpIn_scopeV (k1 ro hro _ φ a w inv hT hf ?_)⟩
      intro ψ a' w' g1 g2 g3 g4
      cases x with
      | normal => exact hQ ψ a' w' g1 g2 g3 g4
      | exit id => exact hQ ψ a' w' g1 g2 g3 g4
      | ret => exact hQ ψ a' w' g1 g2 g3 g4
    | _ => cases h

/-- What has been evaluated apart from all else is what the call does in every world in which the package-level variables hold what was assumed. -/
theorem run_calls {orc : OrcF} {Sg : List Blk} (hsg : SgOk Sg) (horc : OrcOk P Sg orc) {n : Nat} {f : FuncId} {args : List Value} {v : Value}
    (h : run P orc Sg n f args = some v) (hargs : args.all plain = true) {w : World} (inv : Inv Sg (baseRen Sg.length) Sg w) :
    Calls P f args.toArray w fun e w' => e = .returned v ∧ Below w.heap.size w w' := by
  unfold run at h
  split at h
  · rename_i u S1 hin
    split at h
    · rename_i hpl
      cases h
      refine Calls.mono ((callIn_ok (evCode_ok hsg horc n).1 hin (Nat.le_refl _) (Nat.le_refl _)).2 (baseRen Sg.length) w args inv (list_refl plain (fun _ => plain_refl) hargs) fun b h1 _ => by simp [baseRen]; omega) ?_
      rintro e w' ⟨v', ψ, rfl, hv, _, hs⟩
      exact ⟨by rw [plain_eq hpl hv], below_of_step hs⟩
    · cases h
  · cases h

/-- Where no package-level variable is looked at. -/
theorem run_calls_any {n : Nat} {f : FuncId} {args : List Value} {v : Value} (h : run P ⟨fun _ _ => none, fun _ _ _ _ => none⟩ [] n f args = some v) (hargs : args.all plain = true) (w : World) :
    Calls P f args.toArray w fun e w' => e = .returned v ∧ Below w.heap.size w w' :=
  run_calls (by simp [SgOk]) ⟨fun _ _ _ h => (by cases h), fun _ _ _ _ _ _ h => (by cases h)⟩ h hargs ⟨⟨⟨fun b k r hk _ => by simp at hk, fun b r hb => by simp [baseRen] at hb, fun b c r hb _ => by simp [baseRen] at hb, fun _ _ => rfl, fun b k r hk _ => by simp at hk⟩, fun g hg => by simp at hg⟩, fun g hg => by simp at hg, Nat.le_refl _⟩
end
end Go.Proofs.XX.Vm
