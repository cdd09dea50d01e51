/- A small evaluator over a shadow heap, calls, and the evaluator with variables. -/
import Derived.Test.YtfmnfdnoniljgaaDoorW2
/- A small evaluator over a shadow heap, part 16: rounds of a range over a function, and the statement itself. -/
namespace Go.Proofs.XX.Vm
open Go Go.RowKit

section
variable {P : Program} {w : World}

theorem loopAt_get {S : List Blk} {l : Nat} {L : LoopS} (h : loopAt S l = some L) : ∃ k, S[l]? = some k ∧ k.obj = some (.loop L) := by
  unfold loopAt at h
  split at h
  · rename_i c e ro M hk; cases h; exact ⟨_, hk, rfl⟩
  · cases h
theorem loop_heap {φ : Ren} {S : List Blk} (good : Good φ S w) {l r : Nat} {L : LoopS} (h : loopAt S l = some L) (hr : φ l = some r) :
    ∃ fn tmps' d, w.heap[r]? = some (.loop { state := L.state, pending := L.pending, fn := fn, tmps := tmps', params := L.params, assign := L.assign, body := L.body, defers := d }) ∧ LRel φ L.tmps tmps'.toList := by
  obtain ⟨k, hk, ho⟩ := loopAt_get h
  obtain ⟨o, h1, h2⟩ := good.blk l k r hk hr
  unfold BRel at h2
  rw [ho] at h2
  obtain ⟨fn, tmps', d, rfl, h3⟩ := h2
  exact ⟨fn, tmps', d, h1, h3⟩
theorem run_getLoop {r : Nat} {L : Loop} (h : w.heap[r]? = some (.loop L)) : (Instr.getLoop r).run P w = .ok L w := by
  simp [Instr.getLoop, getObj, Sem.run, h]
theorem run_setLoop {r : Nat} {L : Loop} {o : Obj} (h : w.heap[r]? = some (.loop L)) : (setObj r o).run P w = .ok () (w.putObj r o) := by
  simp [setObj, Sem.run, h, World.putObj]
theorem heap_putObj {r : Nat} {o : Obj} (hr : r < w.heap.size) (s : Nat) : (w.putObj r o).heap[s]? = if s = r then some o else w.heap[s]? := by
  simp only [World.putObj]
  by_cases h : s = r
  · subst h; simp [hr]
  · rw [if_neg h, Array.getElem?_setIfInBounds_ne (fun e => h e.symm)]
theorem good_put {φ : Ren} {S : List Blk} (good : Good φ S w) {fl l r : Nat} {L M : LoopS} (h : loopAt S l = some L) (hr : φ l = some r) (hfl : fl ≤ l) {fn d : Nat} {t : Array Value} (ht : LRel φ M.tmps t.toList) :
    Good φ (S.set l (loopBlk M)) (w.putObj r (.loop { state := M.state, pending := M.pending, fn := fn, tmps := t, params := M.params, assign := M.assign, body := M.body, defers := d })) ∧
    Step fl φ S w φ (S.set l (loopBlk M)) (w.putObj r (.loop { state := M.state, pending := M.pending, fn := fn, tmps := t, params := M.params, assign := M.assign, body := M.body, defers := d })) := by
  obtain ⟨k, hk, _⟩ := loopAt_get h
  exact good.turn (List.getElem?_eq_some_iff.1 hk).1 hr hfl (show BRel φ (loopBlk M) _ from ⟨fn, t, d, rfl, ht⟩) (fun d => by have := d k hk; simp_all) (by have := good.room l k r hk hr; unfold Room at this ⊢; simp_all [loopBlk]) (heap_putObj (good.low l r hr)) (by simp [World.putObj]) rfl rfl rfl

theorem setParams_rel {φ : Ren} : ∀ (ps : List Tmp) (args args' : List Value) (T : List Value) (t : Array Value), LRel φ args args' → LRel φ T t.toList →
    LRel φ (setParams T ps args) ((ps.zip args').foldl (fun tmps (x : Tmp × Value) => tmps.setIfInBounds x.1 x.2) t).toList := by
  intro ps
  induction ps with
  | nil => intro args args' T t _ hT; simpa [setParams] using hT
  | cons p ps ih =>
    intro args args' T t ha hT
    cases args with
    | nil => cases args' with
      | nil => simpa [setParams] using hT
      | cons _ _ => simp [LRel] at ha
    | cons v vs => cases args' with
      | nil => simp [LRel] at ha
      | cons v' vs' =>
        simp only [setParams, List.zip_cons_cons, List.foldl_cons]
        exact ih vs vs' _ _ ha.tail (by simpa using hT.set ha.head p)

theorem ext_set {fl l : Nat} (h : fl ≤ l) (S : List Blk) (k : Blk) : Ext fl S (S.set l k) := ⟨by simp, fun b e1 _ => by rw [List.getElem?_set_ne (by omega)]⟩

theorem roundS_ok {Sg : List Blk} {rec : RecT} (hcode : CodeOk P Sg rec) {fl l : Nat} {args : List Value} {S S' : List Blk} {v : Value} (h : roundS rec fl l args S = some (v, S')) (hfl : Sg.length ≤ fl) (hS : Sg.length ≤ S.length) :
    Ext fl S S' ∧ ∀ (φ : Ren) (w : World) (r : Nat) (args' : List Value), Inv Sg φ S w → φ l = some r → LRel φ args args' → Fresh φ S.length S'.length →
      ∃ fn tmps assign body, (Instr.yield r args'.toArray).run P w = .ok (.round r fn tmps assign body) w ∧
        RoundIn Fence.wide 0 P r fn tmps assign body w fun e w' => ∃ v' ψ, e = .returned v' ∧ VRel ψ v v' ∧ Good ψ S' w' ∧ Step fl φ S w ψ S' w' := by
  unfold roundS at h
  simp only [forceK_eq] at h
  split at h
  · rename_i L hL
    split at h
    · rename_i hc
      simp only [Bool.and_eq_true, decide_eq_true_eq, beq_iff_eq] at hc
      obtain ⟨hll, hlen⟩ := hc
      split at h
      · rename_i T1 S1 h1
        split at h
        · rename_i p1 t1 q1 a1 b1 hL1
          split at h
          · rename_i x T3 S3 h2
            split at h
            · rename_i L3 hL3
              cases h
              obtain ⟨x1, k1⟩ := hcode _ _ _ _ _ _ _ _ h1 hfl hS
              have hS1 : Sg.length ≤ S1.length := Nat.le_trans hS x1.1
              obtain ⟨x2, k2⟩ := hcode _ _ _ _ _ _ _ _ h2 hfl (by simpa using hS1)
              refine ⟨x1.trans ((ext_set hll _ _).trans (x2.trans (ext_set hll _ _))), ?_⟩
              intro φ w r args' inv hr hargs hf
              have hlen2 : S1.length ≤ S3.length := by have := x2.1; simpa using this
              simp only [List.length_set] at hf
              obtain ⟨fn, tmps', d, g1, g2⟩ := loop_heap inv.ok.good hL hr
              have hsz : args'.length = L.params.toList.length := by rw [← hargs.1]; exact hlen
              refine ⟨fn, _, L.assign, L.body, ?_, roundIn_of_wpIn (F := Fence.wide) (n := 0) (tmps := (L.params.toList.zip args').foldl (fun tmps (x : Tmp × Value) => tmps.setIfInBounds x.1 x.2) tmps') trivial ?_⟩
              · have hz : ¬ args'.toArray.size ≠ L.params.size := by simpa using hsz
                simp only [Instr.yield, Sem.run_bind, run_getLoop g1, Result.andThen_ok, if_neg hz, Sem.run_pure]
                congr 2
                rw [← Array.foldl_toList]
                simp
              · refine k1 (some r) rfl _ φ _ w inv (setParams_rel _ _ _ _ _ hargs g2) (fun b e1 e2 => hf b e1 (Nat.lt_of_lt_of_le e2 hlen2)) ?_
                intro ψ1 a1' w1 e1 e2 _ e4
                have hr1 := e4.ext _ _ hr
                obtain ⟨fn1, u1, d1, m1, m2⟩ := loop_heap e1 hL1 hr1
                obtain ⟨n1, n2⟩ := good_put e1 (M := ⟨.busy, p1, t1, q1, a1, b1⟩) hL1 hr1 hll (fn := fn1) (d := d1) m2
                refine ⟨_, ?_, k2 (some r) rfl (roundPost P r _) ψ1 a1' _ ((inv.step hfl e4 e1).step hfl n2 n1) e2 ?_ ?_⟩
                · simp only [Instr.beginRound, Sem.run_bind, run_getLoop m1, Result.andThen_ok, run_setLoop m1, Sem.run_pure]
                · intro b f1 f2
                  simp only [List.length_set] at f1
                  exact (e4.fresh hf) b f1 f2
                · intro ψ3 a3 w3 o1 o2 _ o4
                  have hr3 := o4.ext _ _ hr1
                  obtain ⟨fn3, u3, d3, m3, m4⟩ := loop_heap o1 hL3 hr3
                  obtain ⟨n3, n4⟩ := good_put o1 (M := { L3 with state := if goesOn x then .ready else .done, pending := jumpOf x }) hL3 hr3 hll (fn := fn3) (d := d3) m4
                  have hfr1 : Fresh ψ1 S1.length (S3.set l (loopBlk { L3 with state := if goesOn x then .ready else .done, pending := jumpOf x })).length := fun b f1 f2 => (e4.fresh hf) b f1 (by simpa using f2)
                  have hst := e4.trans (n2.trans (o4.trans n4 fun b f1 f2 => hfr1 b (by simpa using f1) f2) hfr1) fun b f1 f2 => hf b f1 (by simpa using f2)
                  · have hend : (Instr.endRound r (jumpOf x)).run P w3 = .ok (.bool (jumpOf x).isNone) (w3.putObj r (.loop { state := if (jumpOf x).isNone then .ready else .done, pending := jumpOf x, fn := fn3, tmps := u3, params := L3.params, assign := L3.assign, body := L3.body, defers := d3 })) := by
                      simp only [Instr.endRound, Sem.run_bind, run_getLoop m3, Result.andThen_ok, run_setLoop m3, Sem.run_pure]
                    have hgo : (jumpOf x).isNone = goesOn x := by cases x <;> rfl
                    have hw : ∀ s : LoopState, (if (jumpOf x).isNone = true then LoopState.ready else .done) = (if goesOn x = true then .ready else .done) := by intro s; rw [hgo]
                    rw [hgo] at hend
                    cases x with
                    | normal => exact ⟨_, _, hend, _, ψ3, rfl, .bool _, n3, hst⟩
                    | exit id => exact ⟨_, _, hend, _, ψ3, rfl, .bool _, n3, hst⟩
                    | ret => exact ⟨_, _, hend, _, ψ3, rfl, .bool _, n3, hst⟩
            · cases h
          · cases h
        · cases h
      · cases h
    · cases h
  · cases h
end
end Go.Proofs.XX.Vm
/- A small evaluator over a shadow heap, part 17: what is evaluated is what the program does. -/
namespace Go.Proofs.XX.Vm
open Go Go.RowKit

section
variable {P : Program}

/-- A new object that the shadow knows nothing of. -/
theorem good_apart {φ : Ren} {S : List Blk} {w : World} (good : Good φ S w) (fl : Nat) (o : Obj) : Good φ S (w.alloc o) ∧ Step fl φ S w φ S (w.alloc o) :=
  ⟨⟨fun b k r hk hr => by
      obtain ⟨o2, h1, h2⟩ := good.blk b k r hk hr
      exact ⟨o2, by rw [Below.heap_alloc _ _ _ (good.low b r hr)]; exact h1, h2⟩,
    fun b r hr => by have := good.low b r hr; rw [size_new]; omega, good.inj, fun r hr => good.zero r (by rw [size_new] at hr; omega), fun b k r hk hr => (good.room b k r hk hr).ext rfl (Below.heap_alloc _ _ _ (good.low b r hr))⟩,
   ⟨RExt.refl φ, fun _ _ => rfl, fun _ _ e => .inl e, Nat.le_refl _, fun _ _ d => d, fun _ _ _ => rfl, fun r hr _ => Below.heap_alloc _ _ _ hr, by rw [size_new]; omega, rfl, rfl, rfl⟩⟩

theorem rangeS_ok {Sg : List Blk} {rec : RecT} (hcode : CodeOk P Sg rec) {fl : Nat} {g : Operand} {params : Array Tmp} {assign body : Code} {T T' : List Value} {S S' : List Blk} {x : Ex}
    (h : rangeS P Sg.length rec fl g params assign body T S = some (x, T', S')) (hfl : Sg.length ≤ fl) (hS : Sg.length ≤ S.length) :
    Ext fl S S' ∧ ∀ (Q : Exit → Act → World → Prop) (φ : Ren) (a : Act) (w : World), Inv Sg φ S w → LRel φ T a.tmps.toList → Fresh φ S.length S'.length → Then fl φ S w a.defers x T' S' Q →
      (Code.rangeFunc g params assign body).wpIn (wideAt none) 0 P Q a w := by
  unfold rangeS at h
  simp only [forceK_eq] at h
  by_cases hflS : fl ≤ S.length
  case neg => simp [hflS] at h
  simp only [hflS, decide_true, if_true] at h
  split at h
  · rename_i gv hg
    split at h
    · rename_i hfn args hcal
      split at h
      · rename_i u S2 hin
        split at h
        · rename_i L hL
          have hx0 : Ext fl S (S ++ [loopBlk ⟨.ready, none, T, params, assign, body⟩]) := Ext.app _ _ _
          obtain ⟨x1, k1⟩ := callIn_ok hcode hin hfl (Nat.le_trans hS hx0.1)
          have hlS2 : S.length < S2.length := by have := x1.1; simp at this; omega
          obtain ⟨pend, hstate, hpend, hres⟩ : ∃ pend, (L.state == .busy) = false ∧ L.pending = pend ∧ S' = S2.set S.length (loopBlk { L with state := .exhausted }) ∧ T = T' ∧
              ((pend = none ∧ x = .normal) ∨ (pend = some .ret ∧ x = .ret) ∨ (∃ id, pend = some (.exit id) ∧ x = .exit id)) := by
            refine ⟨L.pending, ?_⟩
            split at h
            · cases h
            · rename_i hst
              have hst' : (L.state == .busy) = false := by
                cases hs : L.state <;> first | rfl | exact absurd hs hst
              split at h
              · rename_i hp; cases h; exact ⟨hst', rfl, rfl, rfl, .inl ⟨hp, rfl⟩⟩
              · rename_i hp; cases h; exact ⟨hst', rfl, rfl, rfl, .inr (.inl ⟨hp, rfl⟩)⟩
              · rename_i id hp; cases h; exact ⟨hst', rfl, rfl, rfl, .inr (.inr ⟨id, hp, rfl⟩)⟩
              · cases h
          obtain ⟨rfl, rfl, hjump⟩ := hres
          refine ⟨hx0.trans (x1.trans (ext_set hflS _ _)), ?_⟩
          intro Q φ a w inv hT hf hQ
          simp only [List.length_set] at hf
          refine wpIn_rangeFunc fun fn _ => ?_
          -- the block of deferred calls, and the record
          obtain ⟨d1, d2⟩ := good_apart inv.ok.good fl (.deferred (some []))
          let Lo : Loop := { state := .ready, pending := none, fn := fn, tmps := a.tmps, params := params, assign := assign, body := body, defers := w.heap.size }
          have hn : φ S.length = none := hf _ (Nat.le_refl _) hlS2
          obtain ⟨n1, n2⟩ := d1.new fl hn (loopBlk ⟨.ready, none, T, params, assign, body⟩) (.loop Lo) ⟨fn, a.tmps, w.heap.size, rfl, hT⟩ rfl
          have hsz1 : (w.alloc (.deferred (some []))).heap.size = w.heap.size + 1 := size_new _ _
          rw [hsz1] at n1 n2
          have hf1 : Fresh φ S.length (S ++ [loopBlk ⟨.ready, none, T, params, assign, body⟩]).length := fun b f1 f2 => hf b f1 (by simp at f2; omega)
          have st1 := d2.trans n2 hf1
          have inv1 := inv.step hfl st1 n1
          have hl1 : newRen φ S.length (w.heap.size + 1) S.length = some (w.heap.size + 1) := newRen_new _ _ _
          have hyl : VRel (newRen φ S.length (w.heap.size + 1)) (.func (.yield S.length) #[] #[]) (.func (.yield (w.heap.size + 1)) #[] #[]) := .yield hl1
          have hgv : VRel (newRen φ S.length (w.heap.size + 1)) gv (a.eval g) := (opd_rel inv.ok hT hg).mono st1.ext
          have hdo : ∃ d args', (Deferred.ofValue (a.eval g) #[.func (.yield (w.heap.size + 1)) #[] #[]]).run P ((w.alloc (.deferred (some []))).alloc (.loop Lo)) = .ok d ((w.alloc (.deferred (some []))).alloc (.loop Lo)) ∧
              (invoke d.target d.args).run P ((w.alloc (.deferred (some []))).alloc (.loop Lo)) = .ok (.enter hfn args'.toArray) ((w.alloc (.deferred (some []))).alloc (.loop Lo)) ∧ LRel (newRen φ S.length (w.heap.size + 1)) args args' := by
            generalize a.eval g = gv' at hgv
            unfold callee at hcal
            split at hcal
            · rename_i g0 xs cs
              cases hgv with
              | func g' hx ex hc ec =>
                rename_i xs' cs'
                split at hcal
                · rename_i fnn hfnn
                  split at hcal
                  · cases hcal
                  · rename_i hname
                    split at hcal
                    · rename_i bd hbd
                      simp only [Option.some.injEq, R.call.injEq] at hcal
                      obtain ⟨rfl, rfl⟩ := hcal
                      have hname' : ¬ fnn.name = "runtime.NumGoroutine" := by simpa using hname
                      refine ⟨{ target := .fn (.func g0) cs', args := xs' ++ #[.func (.yield (w.heap.size + 1)) #[] #[]] }, xs'.toList ++ [.func (.yield (w.heap.size + 1)) #[] #[]] ++ cs'.toList, by simp [Deferred.ofValue], ?_, ((LRel.append (LRel.append ⟨hx, ex⟩ (LRel.cons hyl (LRel.nil _))) ⟨hc, ec⟩))⟩
                      simp [invoke, callFunc, program, Sem.run, hfnn, hname', hbd]
                    · cases hcal
                · cases hcal
            · split at hcal <;> cases hcal
            · cases hcal
          obtain ⟨d, args', hd1, hd2, hd3⟩ := hdo
          refine ⟨w.heap.size + 1, [markOf w.heap.size], ((w.alloc (.deferred (some []))).alloc (.loop Lo)), d, ((w.alloc (.deferred (some []))).alloc (.loop Lo)), hfn, args'.toArray, ((w.alloc (.deferred (some []))).alloc (.loop Lo)), ?_, ?_, (fun _ _ => trivial), hd2, (fun hd => by cases hd), callsIn_wideAt.2 (Calls.mono (k1 _ _ args' inv1 hd3 (st1.fresh hf)) ?_)⟩
          · exact run_enterLoop_outer _ _ _ _ _
          · simpa [resolve, rangeCall, Act.eval] using hd1
          · rintro e w3 ⟨v', ψ, rfl, _, hgood, hstep⟩
            have hl3 : ψ S.length = some (w.heap.size + 1) := hstep.ext _ _ hl1
            obtain ⟨fn3, u3, d3, m3, m4⟩ := loop_heap hgood hL hl3
            obtain ⟨n3, n4⟩ := good_put hgood (M := { L with state := .exhausted }) hL hl3 hflS (fn := fn3) (d := d3) m4
            have hend : (Instr.endLoop (w.heap.size + 1)).run P w3 = .ok L.pending (w3.putObj (w.heap.size + 1) (.loop { state := .exhausted, pending := L.pending, fn := fn3, tmps := u3, params := L.params, assign := L.assign, body := L.body, defers := d3 })) := by
              simp only [Instr.endLoop, Sem.run_bind, run_getLoop m3, Result.andThen_ok, hstate, Bool.false_eq_true, if_false, Sem.run_pure, run_setLoop m3]
            have hsz2 : ((w.alloc (.deferred (some []))).alloc (.loop Lo)).heap.size = w.heap.size + 2 := by rw [size_new, size_new]
            have hnone : ∀ b, newRen φ S.length (w.heap.size + 1) b ≠ some w.heap.size := by
              intro b hb
              unfold newRen at hb
              simp only at hb
              split at hb
              · have := Option.some.inj hb; omega
              · have := inv.ok.good.low b _ hb; omega
            have hdef1 : ((w.alloc (.deferred (some []))).alloc (.loop Lo)).heap[w.heap.size]? = some (.deferred (some [])) := by
              rw [Below.heap_alloc _ _ _ (by rw [size_new]; omega)]; exact heap_new _ _
            have hdef3 : w3.heap[w.heap.size]? = some (.deferred (some [])) := by
              rw [hstep.frame _ (by rw [hsz2]; omega) fun b _ _ _ => hnone b]; exact hdef1
            have hrsz : w.heap.size + 1 < w3.heap.size := by have := hstep.size; rw [hsz2] at this; omega
            have hfin : Step fl φ S w ψ (S2.set S.length (loopBlk { L with state := .exhausted })) (w3.putObj (w.heap.size + 1) (.loop { state := .exhausted, pending := L.pending, fn := fn3, tmps := u3, params := L.params, assign := L.assign, body := L.body, defers := d3 })) :=
              st1.trans (hstep.trans n4 fun b f1 f2 => (st1.fresh hf) b f1 (by simpa using f2)) fun b f1 f2 => hf b f1 (by simpa using f2)
            have hQx : Q x.to { a with defers := [markOf w.heap.size] ++ a.defers } (w3.putObj (w.heap.size + 1) (.loop { state := .exhausted, pending := L.pending, fn := fn3, tmps := u3, params := L.params, assign := L.assign, body := L.body, defers := d3 })) := by
              refine hQ ψ _ _ n3 (hT.mono (st1.ext.trans hstep.ext)) ⟨[w.heap.size], rfl, by simp, fun r hr => ?_⟩ hfin
              simp only [List.mem_singleton] at hr
              subst hr
              refine ⟨Nat.le_refl _, by rw [heap_putObj hrsz, if_neg (by omega)]; exact hdef3, fun b hb => ?_⟩
              rcases hstep.dom b _ hb with h1 | ⟨_, _, h1 | ⟨c, _, _, h1, _⟩⟩
              · exact hnone b h1
              · rw [hsz2] at h1; omega
              · exact hnone c h1
            refine ⟨L.pending, _, hend, ?_⟩
            revert hQx
            rw [hpend]
            intro hQx
            rcases hjump with ⟨rfl, rfl⟩ | ⟨rfl, rfl⟩ | ⟨id, rfl, rfl⟩
            · exact hQx
            · exact wpIn_ret hQx
            · exact wpIn_exit hQx
        · cases h
      · cases h
    · cases h
  · cases h
end
end Go.Proofs.XX.Vm
/- A small evaluator over a shadow heap, part 18: what is evaluated is what the program does. -/
namespace Go.Proofs.XX.Vm
open Go Go.RowKit

section
variable {P : Program}

theorem Then.trans {fl : Nat} {φ ψ : Ren} {S S1 S' : List Blk} {w w1 : World} {d d1 : List Deferred} {x : Ex} {T' : List Value} {Q : Exit → Act → World → Prop} (hQ : Then fl φ S w d x T' S' Q)
    (g3 : Defs w.heap.size d d1 ψ w1) (g4 : Step fl φ S w ψ S1 w1) (hf : Fresh φ S.length S'.length) : Then fl ψ S1 w1 d1 x T' S' Q :=
  fun χ a2 w2 f1 f2 f3 f4 => hQ χ a2 w2 f1 f2 (g3.trans f4 g4.size f3) (g4.trans f4 hf)

theorem stepR_scopeV {b : Frame} {a : Act} {k : List Item} {cs : List Frame} {w : World} {c : Code} : step P (lone (b.atR a (.code (.scope c) :: k)) cs w) = .next (lone (b.atR a (.code c :: .inScope c :: k)) cs w) :=
  step_lone_go (by simp [stepG, stepG.exec, Frame.atR])
theorem stepR_inScopeV {b : Frame} {a : Act} {k : List Item} {cs : List Frame} {w : World} {c : Code} : step P (lone (b.atR a (.inScope c :: k)) cs w) = .next (lone (b.atR a k) cs w) :=
  step_lone_go (by simp [stepG, stepG.exec, Frame.atR])
theorem wpIn_scopeV {F : Fence} {n : Nat} {Q : Exit → Act → World → Prop} {a : Act} {w : World} {c : Code} (h : c.wpIn F n P (Exit.noGoto Q) a w) : (Code.scope c).wpIn F n P Q a w := by
  intro b k cs hro hb hr
  have h0 : (lone (b.atR a (.code (.scope c) :: k)) cs w).fenced P F := fenced_calm hb hr rfl
  obtain ⟨e, a₁, w₁, hq, harr⟩ := h b (.inScope c :: k) cs hro hb hr
  cases e with
  | normal => exact ⟨.normal, a₁, w₁, hq, .head h0 stepR_scopeV (StepsIn.trans harr (.one (fenced_calm hb hr rfl) stepR_inScopeV))⟩
  | exit id =>
    have hx : exitTo id (.inScope c :: k) = exitTo id k := by simp [exitTo]
    exact ⟨.exit id, a₁, w₁, hq, fun k' hk => .head h0 stepR_scopeV (harr.1 k' (by rw [hx]; exact hk)),
      fun hr' hk => let ⟨k₁, h1, h2⟩ := harr.2 hr' (by rw [hx]; exact hk); ⟨k₁, h1, .head h0 stepR_scopeV h2⟩⟩
  | goto l => exact hq.elim
  | ret => exact ⟨_, a₁, w₁, hq, .of_steps (.one h0 stepR_scopeV) harr⟩
  | panic ch => exact ⟨_, a₁, w₁, hq, .of_steps (.one h0 stepR_scopeV) harr⟩
  | outgrown => exact ⟨_, a₁, w₁, hq, .of_steps (.one h0 stepR_scopeV) harr⟩

theorem callS_ok {orc : OrcF} {Sg : List Blk} (hsg : SgOk Sg) (horc : OrcOk P Sg orc) {rec : RecT} (hcode : CodeOk P Sg rec) {fl : Nat} {f : FuncId} {args : List Value} {S S' : List Blk} {v : Value} (h : callS P orc Sg rec fl f args S = some (v, S')) (hfl : Sg.length ≤ fl) (hS : Sg.length ≤ S.length) :
    Ext fl S S' ∧ ∀ (φ : Ren) (w : World) (args' : List Value), Inv Sg φ S w → LRel φ args args' → Fresh φ S.length S'.length →
      Calls P f args'.toArray w fun e w' => ∃ v' ψ, e = .returned v' ∧ VRel ψ v v' ∧ Good ψ S' w' ∧ Step fl φ S w ψ S' w' := by
  have apart : ∀ (u : Value), args.all plain = true → plain u = true → (∀ w : World, Inv Sg (baseRen Sg.length) Sg w → Calls P f args.toArray w fun e w' => e = .returned u ∧ Below w.heap.size w w') →
      ∀ (φ : Ren) (w : World) (args' : List Value), Inv Sg φ S w → LRel φ args args' → Fresh φ S.length S.length →
      Calls P f args'.toArray w fun e w' => ∃ v' ψ, e = .returned v' ∧ VRel ψ u v' ∧ Good ψ S w' ∧ Step fl φ S w ψ S w' := by
    intro u hall hu hc φ w args' inv hargs _
    have he := list_eq plain (fun _ _ => plain_eq) hall hargs
    subst he
    refine Calls.mono (hc w (inv.toBase hsg)) ?_
    rintro e w' ⟨rfl, hb⟩
    exact ⟨u, φ, rfl, plain_refl hu, good_of_below inv.ok.good hb, step_of_below hb⟩
  have inplace : callIn P rec fl f args S = some (v, S') → Ext fl S S' ∧ ∀ (φ : Ren) (w : World) (args' : List Value), Inv Sg φ S w → LRel φ args args' → Fresh φ S.length S'.length →
      Calls P f args'.toArray w fun e w' => ∃ v' ψ, e = .returned v' ∧ VRel ψ v v' ∧ Good ψ S' w' ∧ Step fl φ S w ψ S' w' := by
    intro hin
    exact callIn_ok hcode hin hfl hS
  unfold callS at h
  split at h
  · rename_i hcond
    simp only [Bool.and_eq_true] at hcond
    have hall := hcond.1
    split at h
    · rename_i u hu
      split at h
      · rename_i hpl
        cases h
        exact ⟨Ext.refl _ _, apart v hall hpl (horc.val f args v hu)⟩
      · cases h
    · split at h
      · rename_i u S1 hin
        split at h
        · rename_i hpl
          cases h
          refine ⟨Ext.refl _ _, apart v hall hpl fun w inv => ?_⟩
          refine Calls.mono ((callIn_ok hcode hin (Nat.le_refl _) (Nat.le_refl _)).2 (baseRen Sg.length) w args inv (list_refl plain (fun _ => plain_refl) hall) fun b h1 _ => by simp [baseRen]; omega) ?_
          rintro e w' ⟨v', ψ, rfl, hv, _, hs⟩
          exact ⟨by rw [plain_eq hpl hv], below_of_step hs⟩
        · cases h
      · cases h
  · split at h
    · rename_i r hr
      cases h
      exact horc.mem _ _ _ _ _ _ hr hfl hS
    · exact inplace h

theorem callerS_ok {orc : OrcF} {Sg : List Blk} (hsg : SgOk Sg) (horc : OrcOk P Sg orc) {rec : RecT} (hcode : CodeOk P Sg rec) : ClOk P Sg (callerS P orc Sg rec) :=
  ⟨fun _ _ _ _ _ _ h hfl hS => callS_ok hsg horc hcode h hfl hS, fun _ _ _ _ _ _ h hfl hS => roundS_ok hcode h hfl hS⟩

/-- A loop is as many rounds as there was fuel. -/
def LoopOk (P : Program) (Sg : List Blk) (rec : RecT) (n : Nat) : Prop :=
  ∀ (b : Bool) (fl : Nat) (c : Code) (T : List Value) (S : List Blk) (x : Ex) (T' : List Value) (S' : List Blk), rec b fl (.loop c) T S = some (x, T', S') → Sg.length ≤ fl → Sg.length ≤ S.length →
    ∀ (ro : Option Nat), ro.isSome = b → ∀ (Q : Exit → Act → World → Prop) (φ : Ren) (a : Act) (w : World), Inv Sg φ S w → LRel φ T a.tmps.toList → Fresh φ S.length S'.length → Then fl φ S w a.defers x T' S' Q →
      Code.roundsIn (wideAt ro) 0 P c Q n a w

theorem evCode_ok {orc : OrcF} {Sg : List Blk} (hsg : SgOk Sg) (horc : OrcOk P Sg orc) : ∀ n, CodeOk P Sg (evCode P orc Sg n) ∧ LoopOk P Sg (evCode P orc Sg n) n := by
  intro n
  induction n with
  | zero => exact ⟨fun b fl c T S x T' S' h => by (cases h), fun b fl c T S x T' S' h => by (cases h)⟩
  | succ n ih =>
    obtain ⟨ihc, ihl⟩ := ih
    have hcl := callerS_ok hsg horc ihc
    have hloop : ∀ (b : Bool) (fl : Nat) (c1 : Code) (T : List Value) (S : List Blk) (x : Ex) (T' : List Value) (S' : List Blk), evCode P orc Sg (n + 1) b fl (.loop c1) T S = some (x, T', S') → Sg.length ≤ fl → Sg.length ≤ S.length →
        Ext fl S S' ∧ ∀ (ro : Option Nat), ro.isSome = b → ∀ (Q : Exit → Act → World → Prop) (φ : Ren) (a : Act) (w : World), Inv Sg φ S w → LRel φ T a.tmps.toList → Fresh φ S.length S'.length → Then fl φ S w a.defers x T' S' Q →
          Code.roundsIn (wideAt ro) 0 P c1 Q (n + 1) a w := by
      intro b fl c1 T S x T' S' h hfl hS
      simp only [evCode] at h
      split at h
      · rename_i T1 S1 h1
        obtain ⟨x1, k1⟩ := ihc _ _ _ _ _ _ _ _ h1 hfl hS
        obtain ⟨x2, _⟩ := ihc _ _ _ _ _ _ _ _ h hfl (Nat.le_trans hS x1.1)
        have k2 := ihl _ _ _ _ _ _ _ _ h hfl (Nat.le_trans hS x1.1)
        refine ⟨x1.trans x2, fun ro hro Q φ a w inv hT hf hQ => ?_⟩
        rw [roundsIn_succ]
        refine k1 ro hro _ φ a w inv hT (fun b e1 e2 => hf b e1 (Nat.lt_of_lt_of_le e2 x2.1)) ?_
        intro ψ a' w' g1 g2 g3 g4
        exact k2 ro hro Q ψ a' w' (inv.step hfl g4 g1) g2 (g4.fresh hf) (hQ.trans g3 g4 hf)
      · rename_i hne
        obtain ⟨x1, k1⟩ := ihc _ _ _ _ _ _ _ _ h hfl hS
        refine ⟨x1, fun ro hro Q φ a w inv hT hf hQ => ?_⟩
        rw [roundsIn_succ]
        refine k1 ro hro _ φ a w inv hT hf ?_
        intro ψ a' w' g1 g2 g3 g4
        cases x with
        | normal => exact absurd h (hne T' S')
        | exit id => exact hQ ψ a' w' g1 g2 g3 g4
        | ret => exact hQ ψ a' w' g1 g2 g3 g4
    refine ⟨?_, fun b fl c T S x T' S' h hfl hS => (hloop b fl c T S x T' S' h hfl hS).2⟩
    intro b fl c T S x T' S' h hfl hS
    cases c with
    | skip =>
      cases h
      exact ⟨Ext.refl _ _, fun ro hro Q φ a w inv hT _ hQ => wpIn_skip (hQ φ a w inv.ok.good hT (Defs.refl _ _ _ _) (Step.refl _ _ _ _))⟩
    | exit id =>
      cases h
      exact ⟨Ext.refl _ _, fun ro hro Q φ a w inv hT _ hQ => wpIn_exit (hQ φ a w inv.ok.good hT (Defs.refl _ _ _ _) (Step.refl _ _ _ _))⟩
    | ret =>
      cases h
      exact ⟨Ext.refl _ _, fun ro hro Q φ a w inv hT _ hQ => wpIn_ret (hQ φ a w inv.ok.good hT (Defs.refl _ _ _ _) (Step.refl _ _ _ _))⟩
    | seq c1 c2 =>
      simp only [evCode] at h
      split at h
      · rename_i T1 S1 h1
        obtain ⟨x1, k1⟩ := ihc _ _ _ _ _ _ _ _ h1 hfl hS
        obtain ⟨x2, k2⟩ := ihc _ _ _ _ _ _ _ _ h hfl (Nat.le_trans hS x1.1)
        refine ⟨x1.trans x2, fun ro hro Q φ a w inv hT hf hQ => wpIn_seq (k1 ro hro _ φ a w inv hT (fun b e1 e2 => hf b e1 (Nat.lt_of_lt_of_le e2 x2.1)) ?_)⟩
        intro ψ a' w' g1 g2 g3 g4
        exact k2 ro hro Q ψ a' w' (inv.step hfl g4 g1) g2 (g4.fresh hf) (hQ.trans g3 g4 hf)
      · rename_i hne
        obtain ⟨x1, k1⟩ := ihc _ _ _ _ _ _ _ _ h hfl hS
        refine ⟨x1, fun ro hro Q φ a w inv hT hf hQ => wpIn_seq (k1 ro hro _ φ a w inv hT hf ?_)⟩
        intro ψ a' w' g1 g2 g3 g4
        cases x with
        | normal => exact absurd h (hne T' S')
        | exit id => exact hQ ψ a' w' g1 g2 g3 g4
        | ret => exact hQ ψ a' w' g1 g2 g3 g4
    | cond y c1 c2 =>
      simp only [evCode] at h
      split at h
      · rename_i β hβ
        obtain ⟨x1, k1⟩ := ihc _ _ _ _ _ _ _ _ h hfl hS
        refine ⟨x1, fun ro hro Q φ a w inv hT hf hQ => ?_⟩
        have hv := opd_rel inv.ok hT hβ
        generalize hce : a.eval y = cv at hv
        cases hv
        refine wpIn_cond hce ?_
        cases β
        · exact k1 ro hro Q φ a w inv hT hf hQ
        · exact k1 ro hro Q φ a w inv hT hf hQ
      · cases h
    | block id c1 =>
      simp only [evCode] at h
      split at h
      · rename_i id' T1 S1 h1
        obtain ⟨x1, k1⟩ := ihc _ _ _ _ _ _ _ _ h1 hfl hS
        split at h
        · rename_i he
          cases h
          refine ⟨x1, fun ro hro Q φ a w inv hT hf hQ => wpIn_block (k1 ro hro _ φ a w inv hT hf ?_)⟩
          intro ψ a' w' g1 g2 g3 g4
          simp only [Ex.to, Exit.inBlock, he, if_true]
          exact hQ ψ a' w' g1 g2 g3 g4
        · rename_i he
          cases h
          refine ⟨x1, fun ro hro Q φ a w inv hT hf hQ => wpIn_block (k1 ro hro _ φ a w inv hT hf ?_)⟩
          intro ψ a' w' g1 g2 g3 g4
          simp only [Ex.to, Exit.inBlock, he, if_false]
          exact hQ ψ a' w' g1 g2 g3 g4
      · rename_i hne
        obtain ⟨x1, k1⟩ := ihc _ _ _ _ _ _ _ _ h hfl hS
        refine ⟨x1, fun ro hro Q φ a w inv hT hf hQ => wpIn_block (k1 ro hro _ φ a w inv hT hf ?_)⟩
        intro ψ a' w' g1 g2 g3 g4
        cases x with
        | normal => exact hQ ψ a' w' g1 g2 g3 g4
        | exit id => exact absurd h (hne id T' S')
        | ret => exact hQ ψ a' w' g1 g2 g3 g4
    | loop c1 =>
      obtain ⟨x1, k1⟩ := hloop _ _ _ _ _ _ _ _ h hfl hS
      exact ⟨x1, fun ro hro Q φ a w inv hT hf hQ => wpIn_loop_rounds (n + 1) (k1 ro hro Q φ a w inv hT hf hQ)⟩
    | region id ops draw =>
      cases draw with
      | false =>
        simp only [evCode] at h
        split at h
        · rename_i T1 S1 h1
          cases h
          refine ⟨evOps_ext hcl hfl hS h1, fun ro hro Q φ a w inv hT hf hQ => wpIn_region ?_⟩
          have := evOps_wp (ro := ro) hcl hfl (Q := Q) ops.toList 0 T T' S S' rfl h1 φ a w inv hT hf fun ψ a' w' g1 g2 g3 g4 => hQ ψ a' w' g1 g2 (g3 ▸ Defs.refl _ _ _ _) g4
          simpa [List.range_eq_range'] using this
        · cases h
      | true =>
        simp only [evCode] at h
        split at h
        · rename_i T1 S1 h1
          cases h
          refine ⟨(evDraw_wp (ro := none) (id := id) hcl hfl hS h1).1, fun ro hro Q φ a w inv hT hf hQ => (evDraw_wp (ro := ro) (id := id) hcl hfl hS h1).2 Q φ a w inv hT hf fun ψ a' w' g1 g2 g3 g4 => hQ ψ a' w' g1 g2 (g3 ▸ Defs.refl _ _ _ _) g4⟩
        · cases h
    | rangeFunc g params assign body =>
      simp only [evCode] at h
      cases b with
      | true => cases h
      | false =>
        obtain ⟨x1, k1⟩ := rangeS_ok ihc h hfl hS
        refine ⟨x1, fun ro hro Q φ a w inv hT hf hQ => ?_⟩
        cases ro with
        | some r => cases hro
        | none => exact k1 Q φ a w inv hT hf hQ
    | label l =>
      cases h
      exact ⟨Ext.refl _ _, fun ro hro Q φ a w inv hT _ hQ => wpIn_label (hQ φ a w inv.ok.good hT (Defs.refl _ _ _ _) (Step.refl _ _ _ _))⟩
    | scope c1 =>
      obtain ⟨x1, k1⟩ := ihc _ _ _ _ _ _ _ _ h hfl hS
      refine ⟨x1, fun ro hro Q φ a w inv hT hf hQ => wpIn_scopeV (k1 ro hro _ φ a w inv hT hf ?_)⟩
      intro ψ a' w' g1 g2 g3 g4
      cases x with
      | normal => exact hQ ψ a' w' g1 g2 g3 g4
      | exit id => exact hQ ψ a' w' g1 g2 g3 g4
      | ret => exact hQ ψ a' w' g1 g2 g3 g4
    | _ => cases h

/-- What has been evaluated apart from all else is what the call does in every world in which the package-level variables hold what was assumed. -/
theorem run_calls {orc : OrcF} {Sg : List Blk} (hsg : SgOk Sg) (horc : OrcOk P Sg orc) {n : Nat} {f : FuncId} {args : List Value} {v : Value}
    (h : run P orc Sg n f args = some v) (hargs : args.all plain = true) {w : World} (inv : Inv Sg (baseRen Sg.length) Sg w) :
    Calls P f args.toArray w fun e w' => e = .returned v ∧ Below w.heap.size w w' := by
  unfold run at h
  split at h
  · rename_i u S1 hin
    split at h
    · rename_i hpl
      cases h
      refine Calls.mono ((callIn_ok (evCode_ok hsg horc n).1 hin (Nat.le_refl _) (Nat.le_refl _)).2 (baseRen Sg.length) w args inv (list_refl plain (fun _ => plain_refl) hargs) fun b h1 _ => by simp [baseRen]; omega) ?_
      rintro e w' ⟨v', ψ, rfl, hv, _, hs⟩
      exact ⟨by rw [plain_eq hpl hv], below_of_step hs⟩
    · cases h
  · cases h

/-- Where no package-level variable is looked at. -/
theorem run_calls_any {n : Nat} {f : FuncId} {args : List Value} {v : Value} (h : run P ⟨fun _ _ => none, fun _ _ _ _ => none⟩ [] n f args = some v) (hargs : args.all plain = true) (w : World) :
    Calls P f args.toArray w fun e w' => e = .returned v ∧ Below w.heap.size w w' :=
  run_calls (by simp [SgOk]) ⟨fun _ _ _ h => (by cases h), fun _ _ _ _ _ _ h => (by cases h)⟩ h hargs ⟨⟨⟨fun b k r hk _ => by simp at hk, fun b r hb => by simp [baseRen] at hb, fun b c r hb _ => by simp [baseRen] at hb, fun _ _ => rfl, fun b k r hk _ => by simp at hk⟩, fun g hg => by simp at hg⟩, fun g hg => by simp at hg, Nat.le_refl _⟩
end
end Go.Proofs.XX.Vm
/- A small evaluator over a shadow heap, part 19: the same, handing on what it comes to: so that numbers may be variables, and a test that hangs on them parts the way. -/
namespace Go.Proofs.XX.Vm
open Go Go.RowKit

noncomputable section
/-- What a call comes to, by tests. -/
inductive OT where
  | val (v : Value)
  | ite (b : Bool) (t e : OT)
  | no
def OT.get : OT → Option Value
  | .val v => some v
  | .ite b t e => bif b then t.get else e.get
  | .no => none
def OT.ev {α : Type} : OT → (Value → Option α) → Option α
  | .val v, k => k v
  | .ite b t e, k => bif b then t.ev k else e.ev k
  | .no, _ => none
theorem OT.ev_ok {α : Type} {k : Value → Option α} {r : α} : ∀ {t : OT}, t.ev k = some r → ∃ v, t.get = some v ∧ k v = some r
  | .val v, h => ⟨v, rfl, h⟩
  | .ite b t e, h => by
    cases b
    · exact OT.ev_ok (t := e) h
    · exact OT.ev_ok (t := t) h
  | .no, h => by cases h
/-- What a call with memory comes to, by tests. -/
inductive OTM where
  | val (v : Value) (S : List Blk)
  | ite (b : Bool) (t e : OTM)
  | no
def OTM.get : OTM → Option (Value × List Blk)
  | .val v S => some (v, S)
  | .ite b t e => bif b then t.get else e.get
  | .no => none
def OTM.ev {α : Type} : OTM → (Value → List Blk → Option α) → Option α
  | .val v S, k => k v S
  | .ite b t e, k => bif b then t.ev k else e.ev k
  | .no, _ => none
theorem OTM.ev_ok {α : Type} {k : Value → List Blk → Option α} {r : α} : ∀ {t : OTM}, t.ev k = some r → ∃ v S, t.get = some (v, S) ∧ k v S = some r
  | .val v S, h => ⟨v, S, rfl, h⟩
  | .ite b t e, h => by
    cases b
    · exact OTM.ev_ok (t := e) h
    · exact OTM.ev_ok (t := t) h
  | .no, h => by cases h
structure Orc where
  val : FuncId → List Value → Option OT
  mem : Nat → FuncId → List Value → List Blk → Option OTM
abbrev CallerK (α : Type) := Nat → FuncId → List Value → List Blk → (Value → List Blk → Option α) → Option α
abbrev RoundK (α : Type) := Nat → Nat → List Value → List Blk → (Value → List Blk → Option α) → Option α

/-- The guard's test, known in what follows. -/
def guardK {α : Type} (ops : Array Oper) (T : List Value) (o : Oper) (k : List Value → Bool → Option α) : Option α :=
  match o.guard with
  | none => k T true
  | some (j, want) => match getR ops.toList j with
    | some p => match p.dst with
      | some d => match nthD T d with
        | .bool b => bif b then setK T d (.bool true) fun T' => k T' (match want with | true => true | false => false) else setK T d (.bool false) fun T' => k T' (match want with | true => false | false => true)
        | .tuple xs => match xs.toList with
          | [] => bif Nat.blt d T.length then k T false else none
          | _ => none
        | _ => none
      | none => none
    | none => none

/-- Operations that have a value under a condition on numbers. -/
def condOp (gl : Nat) (o : Oper) (T : List Value) : Option (Bool × Value) :=
  match o.op with
  | .binOp op _ a b _ => match opd gl T a, opd gl T b with
    | some (.string x), some (.string y) => match op with
      | .add => some (Nat.ble (x.size + y.size) 9223372036854775807, .string (x ++ y))
      | _ => none
    | some (.int k x), some (.int j y) => match op with
      | .quo => if k = j then some (y != 0, .int k (k.wrap (x.tdiv y))) else none
      | .rem => if k = j then some (y != 0, .int k (x.tmod y)) else none
      | .shl => some (decide (0 ≤ y), .int k (shlN k x y))
      | .shr => some (decide (0 ≤ y), .int k (shrN k x y))
      | _ => none
    | _, _ => none
  | _ => none
theorem condOp_ok {P : Program} {gl fl : Nat} {o : Oper} {T : List Value} {S : List Blk} {v : Value} (h : condOp gl o T = some (true, v)) : evOp P gl fl o T S = some (.val v S) := by
  unfold condOp at h
  split at h
  · rename_i op t a b t2 ho
    split at h
    · rename_i x y hx hy
      split at h
      · simp only [Option.some.injEq, Prod.mk.injEq] at h
        obtain ⟨h1, rfl⟩ := h
        have h2 := Nat.le_of_ble_eq_true h1
        have hne : ¬ (9223372036854775807 < (x.size : Int) + (y.size : Int)) := by omega
        simp only [evOp_eqO, evOpO, ho, hx, hy, pureTry, Op.operands, opds, pureOp]
        simp [plain, flat, scalar, execOp, ho, hx, hy, eqGuard, binOp, Op.stringOp, Bind.bind, Sem.bind, Pure.pure]
        simp [hne, pureSem, Sem.bind]
      · cases h
    · rename_i k x j y hx hy
      split at h
      · split at h
        · rename_i hkj
          subst hkj
          simp only [Option.some.injEq, Prod.mk.injEq, bne_iff_ne, ne_eq] at h
          obtain ⟨h1, rfl⟩ := h
          simp only [evOp_eqO, evOpO, ho, hx, hy, pureTry, Op.operands, opds, pureOp, fastBin]
          simp [plain, flat, scalar, execOp, ho, hx, hy, eqGuard, binOp, Op.intDiv, h1, pureSem, Bind.bind, Sem.bind, Pure.pure]
        · cases h
      · split at h
        · rename_i hkj
          subst hkj
          simp only [Option.some.injEq, Prod.mk.injEq, bne_iff_ne, ne_eq] at h
          obtain ⟨h1, rfl⟩ := h
          simp only [evOp_eqO, evOpO, ho, hx, hy, pureTry, Op.operands, opds, pureOp, fastBin]
          simp [plain, flat, scalar, execOp, ho, hx, hy, eqGuard, binOp, Op.intDiv, h1, pureSem, Bind.bind, Sem.bind, Pure.pure]
        · cases h
      · simp only [Option.some.injEq, Prod.mk.injEq, decide_eq_true_eq] at h
        obtain ⟨h1, rfl⟩ := h
        have h2 : ¬ y < 0 := by omega
        simp only [evOp_eqO, evOpO, ho, hx, hy, pureTry, Op.operands, opds, pureOp, fastBin, shlN, minN_eq]
        simp [plain, flat, scalar, execOp, ho, hx, hy, eqGuard, binOp, Op.shift, h2, pureSem, Bind.bind, Sem.bind, Pure.pure]
      · simp only [Option.some.injEq, Prod.mk.injEq, decide_eq_true_eq] at h
        obtain ⟨h1, rfl⟩ := h
        have h2 : ¬ y < 0 := by omega
        simp only [evOp_eqO, evOpO, ho, hx, hy, pureTry, Op.operands, opds, pureOp, fastBin, shrN, minN_eq]
        simp [plain, flat, scalar, execOp, ho, hx, hy, eqGuard, binOp, Op.shift, h2, pureSem, Bind.bind, Sem.bind, Pure.pure]
      · cases h
    · cases h
  · cases h

/-- Maps whose keys are compared by a test. -/
def keyOk (P : Program) (kt : TypeId) (k : Value) : Bool :=
  plain k && structT P kt && (match pureSem P (Instr.checkKey false 10000 kt k) with | some _ => true | none => false) && (match pureSem P (Instr.checkKey true 10000 kt k) with | some _ => true | none => false)
def okVals : List MapEntry → Bool
  | [] => true
  | e :: es => (match e.val with | .int .i64 _ => true | _ => false) && okVals es
def hasK (P : Program) (kt : TypeId) (k : Value) : List MapEntry → Bool
  | [] => false
  | e :: es => hitK P kt k e || hasK P kt k es
def valK (P : Program) (kt : TypeId) (k : Value) : List MapEntry → Int
  | [] => 0
  | e :: es => bif hitK P kt k e then (match e.val with | .int _ n => n | _ => 0) else valK P kt k es
def boolD : Bool → Bool
  | true => true
  | false => false
def lookupK {α : Type} (P : Program) (t : TypeId) (S : List Blk) (m key : Value) (ok : Bool) (k : Value → List Blk → Option α) : Option (Option α) :=
  match P.underlying t with
  | some (.map kt et) => match mapAt S m with
    | some (_, es, _) => match zeroT P et with
      | some (.int .i64 z) => match keyOk P kt key with
        | true => some (bif okKeys P kt key es && okVals es then (bif hasK P kt key es then k (okVal ok (.int .i64 (valK P kt key es)) true) S else k (okVal ok (.int .i64 z) false) S) else none)
        | false => none
      | _ => none
    | none => none
  | _ => none
def updateK {α : Type} (P : Program) (fl : Nat) (t : TypeId) (S : List Blk) (m key v : Value) (k : Value → List Blk → Option α) : Option (Option α) :=
  match P.underlying t with
  | some (.map kt _) => match mapAt S m with
    | some (b, es, clock) => match keyOk P kt key with
      | true => some (bif Nat.ble fl b && plain v && okKeys P kt key es then (bif hasK P kt key es then none else forceK (S.set b (mapBlk (es ++ [{ key := key, val := v, born := clock }]) (clock + 1))) fun S' => k undef S') else none)
      | false => none
    | none => none
  | _ => none
/-- Operations on memory that have a value under a condition on numbers. -/
def condMem (P : Program) (gl : Nat) (o : Oper) (T : List Value) (S : List Blk) : Option (Bool × Value) :=
  match o.op with
  | .load t x => match opd gl T x with
    | some (.pointer (some ⟨b, off, none⟩)) => match S[b]? with
      | some ⟨_, _, _, some (.ints kd lo L)⟩ => intsC P t kd lo L off
      | some ⟨_, _, _, some (.buf kd _ L)⟩ => intsC P t kd 0 L off
      | _ => none
    | _ => none
  | .indexAddr t x i => match opd gl T x with
    | some (.slice (some ⟨b, off, none⟩) n _) => match opd gl T i with
      | some (.int _ j) => match P.underlying t with
        | some (.slice e) => match sizeT P e with
          | some sz => some (decide (0 ≤ j) && decide (j < (n : Int)), .pointer (some ⟨b, off + j.toNat * sz, none⟩))
          | none => none
        | _ => none
      | _ => none
    | some (.pointer (some ⟨b, off, none⟩)) => match opd gl T i with
      | some (.int _ j) => match P.underlying t with
        | some (.array n e) => match sizeT P e with
          | some sz => some (decide (0 ≤ j) && decide (j < (n : Int)), .pointer (some ⟨b, off + j.toNat * sz, none⟩))
          | none => none
        | _ => none
      | _ => none
    | _ => none
  | .slice t x lo hi mx => match opd gl T x with
    | some (.slice (some a) n c) => match optV gl T lo with
      | some l => match optV gl T hi with
        | some h => match optV gl T mx with
          | some m => match l, h, m with
            | none, none, none => none
            | _, _, _ => sliceC P t (.slice (some a) n c) l h m
          | none => none
        | none => none
      | none => none
    | _ => none
  | _ => none
/-- A byte of a string, and a piece of one. -/
def byteN (s : ByteArray) (j : Int) : Int := (((s.data.toList[j.toNat]?).getD 0).toNat : Nat)
def strB (d : Nat) : Option Value → Option (Bool × Nat)
  | none => some (true, d)
  | some (.int _ i) => some (decide (0 ≤ i), i.toNat)
  | _ => none
def condStr (P : Program) (gl : Nat) (o : Oper) (T : List Value) : Option (Bool × Value) :=
  match o.op with
  | .index t x i => match opd gl T x with
    | some (.string s) => match opd gl T i with
      | some (.int _ j) => match P.underlying t with
        | some .string => some (decide (0 ≤ j) && decide (j < (s.size : Int)), .int .u8 (byteN s j))
        | _ => none
      | _ => none
    | _ => none
  | .slice t x lo hi none => match opd gl T x with
    | some (.string s) => match P.underlying t with
      | some .string => match optV gl T lo with
        | some l => match optV gl T hi with
          | some h => match l, h with
            | none, none => none
            | _, _ => match strB 0 l with
              | some (t1, l') => match strB s.size h with
                | some (t2, h') => some (t1 && t2 && Nat.ble l' h' && Nat.ble h' s.size, .string (s.extract l' h'))
                | none => none
              | none => none
          | none => none
        | none => none
      | _ => none
    | _ => none
  | _ => none
theorem pureSem_bind {P : Program} {α β : Type} {e : Sem α} {a : α} {f : α → Sem β} {b : β} (h : pureSem P e = some a) (hf : pureSem P (f a) = some b) : pureSem P (e.bind f) = some b := by
  induction e with
  | pure c => simp only [pureSem, Option.some.injEq] at h; subst h; exact hf
  | program k ih => simp only [pureSem] at h; simp only [Sem.bind, pureSem]; exact ih _ h
  | mark m k ih => simp only [pureSem] at h; simp only [Sem.bind, pureSem]; exact ih h
  | choose q k ih =>
    simp only [pureSem] at h
    split at h
    · rename_i hq; simp only [Sem.bind, pureSem, hq, if_true]; exact ih _ h
    · cases h
  | _ => simp [pureSem] at h
theorem pureSem_under {P : Program} {t : TypeId} {d : TypeDesc} (h : P.underlying t = some d) : pureSem P (underlying t) = some d := by
  simp [underlying, program, Bind.bind, Sem.bind, pureSem, h, Pure.pure]
theorem pureSem_strBound {P : Program} {v : Option Value} {d n : Nat} {b : Bool} {m : Nat} {code : BoundsCode} (h : strB d v = some (b, m)) (hb : b = true) (hm : m ≤ n) :
    pureSem P (match v with | some v => Instr.sliceBound v n code | none => pure d) = some m := by
  cases v with
  | none => simp only [strB, Option.some.injEq, Prod.mk.injEq] at h; obtain ⟨_, rfl⟩ := h; rfl
  | some v =>
    unfold strB at h
    split at h
    · cases ‹some v = none›
    · rename_i k i e
      cases e
      simp only [Option.some.injEq, Prod.mk.injEq] at h
      obtain ⟨rfl, rfl⟩ := h
      have h0 : 0 ≤ i := by simpa using hb
      have h1 : i ≤ (n : Int) := by omega
      simp [Instr.sliceBound, asIntOf, Bind.bind, Sem.bind, Pure.pure, pureSem, h0, h1]
    · cases h
theorem optV_map {gl : Nat} {T : List Value} {x : Option Operand} {l : Option Value} (h : optV gl T x = some l) : x.map (fun x => (opd gl T x).getD undef) = l := by
  cases x with
  | none => cases h; rfl
  | some y =>
    simp only [optV] at h
    split at h
    · rename_i v hv; cases h; simp [hv]
    · cases h
theorem strB_plain {d : Nat} {v : Value} {r : Bool × Nat} (h : strB d (some v) = some r) : plain v = true := by
  unfold strB at h
  split at h
  · cases ‹some v = none›
  · rename_i k i e; cases e; rfl
  · cases h
theorem optV_opds {gl : Nat} {T : List Value} {t : TypeId} {x : Operand} {lo hi : Option Operand} {l h : Option Value} {d : Nat} {r q : Bool × Nat} {s : ByteArray} (hl : optV gl T lo = some l) (hh : optV gl T hi = some h) (h1 : strB 0 l = some r) (h2 : strB d h = some q) (hx : opd gl T x = some (.string s)) :
    ∃ vs, opds gl T (Op.slice t x lo hi none).operands.toList = some vs ∧ vs.all plain = true := by
  have key : ∀ (y : Option Operand) (l : Option Value) (d : Nat) (r : Bool × Nat), optV gl T y = some l → strB d l = some r → (y = none ∨ ∃ z v, y = some z ∧ opd gl T z = some v ∧ plain v = true) := by
    intro y l d r hy hr
    cases y with
    | none => exact .inl rfl
    | some z =>
      simp only [optV] at hy
      split at hy
      · rename_i v hv; cases hy; exact .inr ⟨z, v, rfl, hv, strB_plain hr⟩
      · cases hy
  rcases key lo l 0 r hl h1 with rfl | ⟨z, v, rfl, hz, pz⟩ <;> rcases key hi h d q hh h2 with rfl | ⟨z', v', rfl, hz', pz'⟩ <;>
    simp_all [Op.operands, opds, plain, flat, scalar]
theorem pureSem_bounds {P : Program} {s : ByteArray} {l h : Option Value} {l' h' : Nat} (h1 : strB 0 l = some (true, l')) (h2 : strB s.size h = some (true, h')) (h3 : l' ≤ h') (h4 : h' ≤ s.size) :
    pureSem P ((Instr.sliceBounds false s.size s.size l h none).bind fun p => match p with | (l, h, _) => pure (Value.string (s.extract l h))) = some (Value.string (s.extract l' h')) := by
  have a := pureSem_strBound (P := P) (code := .sliceAlen) h2 rfl h4
  have b := pureSem_strBound (P := P) (code := .sliceB) h1 rfl h3
  refine pureSem_bind (a := (l', h', s.size)) ?_ rfl
  simp only [Instr.sliceBounds, Bind.bind]
  refine pureSem_bind (a := s.size) rfl ?_
  cases h with
  | none =>
    refine pureSem_bind (a := h') a ?_
    cases l with
    | none => exact pureSem_bind (a := l') b rfl
    | some v => exact pureSem_bind (a := l') b rfl
  | some u =>
    refine pureSem_bind (a := h') a ?_
    cases l with
    | none => exact pureSem_bind (a := l') b rfl
    | some v => exact pureSem_bind (a := l') b rfl
theorem condStr_ok {P : Program} {gl fl : Nat} {o : Oper} {T : List Value} {S : List Blk} {v : Value} (h : condStr P gl o T = some (true, v)) : evOp P gl fl o T S = some (.val v S) := by
  unfold condStr at h
  split at h
  · rename_i t x i ho
    split at h
    · rename_i s hx
      split at h
      · rename_i k j hi
        split at h
        · rename_i hu
          simp only [Option.some.injEq, Prod.mk.injEq, Bool.and_eq_true, decide_eq_true_eq] at h
          obtain ⟨⟨h1, h2⟩, rfl⟩ := h
          have hlt : j.toNat < s.size := by omega
          have hb : s[j.toNat]? = some s[j.toNat] := getElem?_pos s j.toNat hlt
          have hd : byteN s j = ((s[j.toNat]).toNat : Int) := by
            have hl : j.toNat < s.data.toList.length := by rw [Array.length_toList]; exact hlt
            unfold byteN
            rw [List.getElem?_eq_getElem hl]
            rfl
          have hp : pureSem P (execOp (fun x => (opd gl T x).getD undef) o) = some (.value (.int .u8 (byteN s j))) := by
            simp only [execOp, ho, hx, hi, Option.getD_some]
            refine pureSem_bind (a := .int .u8 (byteN s j)) ?_ rfl
            simp only [Instr.index, asIntOf, Bind.bind, Pure.pure, Sem.bind]
            refine pureSem_bind (pureSem_under hu) ?_
            simp [h1, hb, hd, pureSem]
          simp only [evOp_eqO, evOpO, ho, pureTry, Op.operands, opds, pureOp, hx, hi]
          simp [hp, plain, flat, scalar]
        · cases h
      · cases h
    · cases h
  · rename_i t x lo hi ho
    split at h
    · rename_i s hx
      split at h
      · rename_i hu
        split at h
        · rename_i l hl
          split at h
          · rename_i hh hhh
            split at h
            · cases h
            · rename_i hne
              split at h
              · rename_i t1 l' hb1
                split at h
                · rename_i t2 h' hb2
                  simp only [Option.some.injEq, Prod.mk.injEq, Bool.and_eq_true] at h
                  obtain ⟨⟨⟨⟨rfl, rfl⟩, h3⟩, h4⟩, rfl⟩ := h
                  have h3 := Nat.le_of_ble_eq_true h3
                  have h4 := Nat.le_of_ble_eq_true h4
                  have m1 : lo.map (fun x => (opd gl T x).getD undef) = l := optV_map hl
                  have m2 : hi.map (fun x => (opd gl T x).getD undef) = hh := optV_map hhh
                  have hp : pureSem P (execOp (fun x => (opd gl T x).getD undef) o) = some (.value (.string (s.extract l' h'))) := by
                    simp only [execOp, ho, hx, m1, m2, Option.getD_some, Option.map_none]
                    refine pureSem_bind (a := .string (s.extract l' h')) ?_ rfl
                    simp only [Instr.sliceAt, Bind.bind]
                    refine pureSem_bind (pureSem_under hu) ?_
                    simp only [Instr.slice, Bind.bind]
                    refine pureSem_bind (pureSem_under hu) ?_
                    exact pureSem_bounds hb1 hb2 h3 h4
                  have hv : ∃ vs, opds gl T o.op.operands.toList = some vs ∧ vs.all plain = true := by
                    rw [ho]
                    exact optV_opds hl hhh hb1 hb2 hx
                  obtain ⟨vs, hv1, hv2⟩ := hv
                  have hev : evOp P gl fl o T S = pureTry P gl o T S := by
                    cases lo with
                    | some y => simp only [evOp_eqO, evOpO, ho, hx]
                    | none =>
                      cases hi with
                      | some y => simp only [evOp_eqO, evOpO, ho, hx]
                      | none => cases hl; cases hhh; exact absurd rfl (hne rfl)
                  rw [hev]
                  have hpo : pureOp o.op = true := by rw [ho]; rfl
                  simp only [pureTry, hv1, hpo, hv2, Bool.and_self, if_true, hp]
                  rfl
                · cases h
              · cases h
          · cases h
        · cases h
      · cases h
    · cases h
  · cases h
/-- The next character of a string, at a place that need not be known. -/
def nextK {α : Type} (fl : Nat) (S : List Blk) (x : Value) (k : Value → List Blk → Option α) : Option (Option α) :=
  match x with
  | .pointer (some ⟨b, 0, none⟩) => match S[b]? with
    | some ⟨_, _, _, some (.iter s pos)⟩ => if decide (fl ≤ b) then
        some (bif Nat.blt pos s.size then forceK (S.set b (iterBlk s (pos + (Utf8.decode s pos).2))) fun S' => k (.tuple #[.bool true, goInt pos, .int .i32 ((Utf8.decode s pos).1 : Nat)]) S'
        else k (.tuple #[.bool false]) S)
      else none
    | _ => none
  | _ => none
theorem nextK_ok {α : Type} {fl : Nat} {S : List Blk} {x : Value} {k : Value → List Blk → Option α} {q : Option α} {r : α} (h : nextK fl S x k = some q) (hq : q = some r) :
    ∃ v S', nextP fl S x = some (v, S') ∧ k v S' = some r := by
  unfold nextK at h
  split at h
  · rename_i b
    split at h
    · rename_i s pos hk
      split at h
      · rename_i hc
        simp only [Option.some.injEq, forceK_eq] at h
        subst h
        cases hb : Nat.blt pos s.size with
        | true =>
          rw [hb] at hq
          have hp : pos < s.size := Nat.le_of_ble_eq_true hb
          exact ⟨_, _, by simp only [nextP_eqO, nextPO, hk, hc, if_true, hp, forceK_eq], hq⟩
        | false =>
          rw [hb] at hq
          have hp : ¬ pos < s.size := fun e => by rw [show Nat.blt pos s.size = true from Nat.ble_eq_true_of_le e] at hb; cases hb
          exact ⟨_, _, by simp only [nextP_eqO, nextPO, hk, hc, if_true, hp, if_false], hq⟩
      · cases h
    · cases h
  · cases h
theorem condMem_ok {P : Program} {gl fl : Nat} {o : Oper} {T : List Value} {S : List Blk} {v : Value} (h : condMem P gl o T S = some (true, v)) : evOp P gl fl o T S = some (.val v S) := by
  unfold condMem at h
  split at h
  · rename_i t x ho
    split at h
    · rename_i b off hx
      split at h
      · rename_i cs e ro kd lo L hk
        simp only [evOp_eqO, evOpO, ho, hx, load_eqO, loadO, hk, readInts, h]
      · rename_i cs e ro kd sz L hk
        simp only [evOp_eqO, evOpO, ho, hx, load_eqO, loadO, hk, readInts, h]
      · cases h
    · cases h
  · rename_i t x i ho
    split at h
    · rename_i b off n c hx
      split at h
      · rename_i kk j hi
        split at h
        · rename_i e hu
          split at h
          · rename_i sz hz
            simp only [Option.some.injEq, Prod.mk.injEq] at h
            obtain ⟨h1, rfl⟩ := h
            simp only [evOp_eqO, evOpO, ho, hx, hi, indexP, hu, h1, if_true, hz, Addr.add_lit]
          · cases h
        · cases h
      · cases h
    · rename_i b off hx
      split at h
      · rename_i kk j hi
        split at h
        · rename_i n e hu
          split at h
          · rename_i sz hz
            simp only [Option.some.injEq, Prod.mk.injEq] at h
            obtain ⟨h1, rfl⟩ := h
            simp only [evOp_eqO, evOpO, ho, hx, hi, indexP, hu, h1, if_true, hz, Addr.add_lit]
          · cases h
        · cases h
      · cases h
    · cases h
  · rename_i t x lo hi mx ho
    split at h
    · rename_i a n c hx
      split at h
      · rename_i l hl
        split at h
        · rename_i hh hhh
          split at h
          · rename_i m hm
            split at h
            · cases h
            · rename_i hne
              have hnone : ∀ y : Option Operand, optV gl T y = some none → y = none := by
                intro y hy
                cases y with
                | none => rfl
                | some z =>
                  simp only [optV] at hy
                  split at hy <;> cases hy
              cases lo with
              | some y => simp only [evOp_eqO, evOpO, ho, hx, hl, hhh, hm, h]
              | none =>
                have e0 : optV gl T none = some none := rfl
                cases hl
                cases hi with
                | some y => simp only [evOp_eqO, evOpO, ho, hx, e0, hhh, hm, h]
                | none =>
                  cases hhh
                  cases mx with
                  | some y => simp only [evOp_eqO, evOpO, ho, hx, e0, hm, h]
                  | none => cases hm; exact absurd rfl (hne rfl rfl)
          · cases h
        · cases h
      · cases h
    · cases h
  · cases h
def appendK {α : Type} (P : Program) (gl : Nat) (o : Oper) (T : List Value) (S : List Blk) (k : Value → List Blk → Option α) : Option (Option α) :=
  match o.op with
  | .call { callee := .builtin .append, args, argTypes } => match opds gl T args.toList with
    | some [d, s] => match appendC P S argTypes.toList d s with
      | some (t, d', v, b) => some (bif t then (bif Nat.beq (lenV s) 0 then k d' S else forceK (S ++ [b]) fun S' => k v S') else none)
      | none => none
    | _ => none
  | _ => none
theorem appendK_ok {α : Type} {P : Program} {gl fl : Nat} {o : Oper} {T : List Value} {S : List Blk} {k : Value → List Blk → Option α} {q : Option α} {r : α} (h : appendK P gl o T S k = some q) (hq : q = some r) :
    ∃ v S', evOp P gl fl o T S = some (.val v S') ∧ k v S' = some r := by
  unfold appendK at h
  split at h
  · rename_i args argTypes ho
    split at h
    · rename_i d s hv
      split at h
      · rename_i t d' v b hc
        simp only [Option.some.injEq, forceK_eq] at h
        subst h
        cases t with
        | false => cases hq
        | true =>
          simp only [cond_true] at hq
          cases hz : Nat.beq (lenV s) 0 with
          | true =>
            rw [hz] at hq
            have h0 : lenV s = 0 := Nat.eq_of_beq_eq_true hz
            exact ⟨d', S, by simp only [evOp_eqO, evOpO, ho, hv, appendP_eqO, appendPO, hc, h0, if_true], hq⟩
          | false =>
            rw [hz] at hq
            have h0 : ¬ lenV s = 0 := fun e => by rw [e] at hz; cases hz
            exact ⟨v, S ++ [b], by simp only [evOp_eqO, evOpO, ho, hv, appendP_eqO, appendPO, hc, h0, if_false, forceK_eq], hq⟩
      · cases h
    · cases h
  · cases h
def mapK {α : Type} (P : Program) (gl fl : Nat) (o : Oper) (T : List Value) (S : List Blk) (k : Value → List Blk → Option α) : Option (Option α) :=
  match o.op with
  | .lookup t x i ok => match opd gl T x with
    | some m => match opd gl T i with
      | some key => lookupK P t S m key ok k
      | none => none
    | none => none
  | .mapUpdate t x i y => match opd gl T x with
    | some m => match opd gl T i with
      | some key => match opd gl T y with
        | some v => updateK P fl t S m key v k
        | none => none
      | none => none
    | none => none
  | .next x true => match opd gl T x with
    | some u => nextK fl S u k
    | none => none
  | _ => none

def opO {α : Type} (P : Program) (gl : Nat) (cl : CallerK α) (rd : RoundK α) (fl : Nat) (o : Oper) (T : List Value) (S : List Blk) (k : Value → List Blk → Option α) : Option α :=
  match o.op with
  | .pick c a b => match opd gl T c, opd gl T a, opd gl T b with
    | some (.bool β), some v, some u => bif β then k v S else k u S
    | _, _, _ => none
  | _ => match condOp gl o T with
    | some (b, v) => bif b then k v S else none
    | none => match condMem P gl o T S with
      | some (b, v) => bif b then k v S else none
      | none => match condStr P gl o T with
      | some (b, v) => bif b then k v S else none
      | none => match mapK P gl fl o T S k with
        | some r => r
        | none => match appendK P gl o T S k with
          | some r => r
          | none => match evOp P gl fl o T S with
            | some (.val v S') => k v S'
            | some (.call f args) => cl fl f args S k
            | some (.round l args) => rd fl l args S k
            | none => none

def resO {α : Type} (P : Program) (gl : Nat) (cl : CallerK α) (rd : RoundK α) (fl : Nat) (ops : Array Oper) (o : Oper) (T : List Value) (S : List Blk) (k : List Value → List Blk → Option α) : Option α :=
  guardK ops T o fun T' b => match b with
    | true => opO P gl cl rd fl o T' S fun v S' => putK T' o.dst v fun T'' => k T'' S'
    | false => putK T' o.dst undef fun T'' => k T'' S

/- The same, faster: values are handed on, and little text is written out anew. -/
def nthK {β : Type} (T : List Value) : Nat → (Value → β) → β := List.rec (fun _ k => k undef) (fun v _ ih n k => Nat.rec (k v) (fun m _ => ih m k) n) T
theorem nthK_eq {β : Type} (T : List Value) (n : Nat) (k : Value → β) : nthK T n k = k (nthD T n) := by
  induction T generalizing n with
  | nil => rfl
  | cons v T ih => cases n with
    | zero => rfl
    | succ n => exact ih n
def opdK {α : Type} (gl : Nat) (T : List Value) (x : Operand) (k : Value → Option α) : Option α :=
  match x with
  | .tmp t => nthK T t k
  | .const v => if plain v then k v else none
  | .global g => if g < gl then k (.pointer (some ⟨g, 0, none⟩)) else none
  | .func f => k (.func (.func f) #[] #[])
theorem opdK_eq {α : Type} (gl : Nat) (T : List Value) (x : Operand) (k : Value → Option α) : opdK gl T x k = match opd gl T x with
    | some v => k v
    | none => none := by
  cases x with
  | tmp t => exact nthK_eq T t k
  | const v => simp only [opdK, opd]; split <;> rfl
  | global g => simp only [opdK, opd]; split <;> rfl
  | func f => rfl
def opdsK {α : Type} (gl : Nat) (T : List Value) (l : List Operand) : (List Value → Option α) → Option α :=
  List.rec (fun k => k []) (fun x _ ih k => opdK gl T x fun v => ih fun vs => k (v :: vs)) l
theorem opdsK_eq {α : Type} (gl : Nat) (T : List Value) (l : List Operand) (k : List Value → Option α) : opdsK gl T l k = match opds gl T l with
    | some vs => k vs
    | none => none := by
  induction l generalizing k with
  | nil => rfl
  | cons x l ih =>
    show opdK gl T x (fun v => opdsK gl T l fun vs => k (v :: vs)) = _
    rw [opdK_eq]
    simp only [opds]
    cases opd gl T x with
    | none => rfl
    | some v =>
      simp only [ih]
      cases opds gl T l <;> rfl
def binI {α : Type} (op : BinOp) (j l : IntKind) (a b : Int) (k : Value → Option α) (d : Option α) : Option α :=
  match op with
  | .shl => bif decide (0 ≤ b) then k (.int j (shlN j a b)) else none
  | .shr => bif decide (0 ≤ b) then k (.int j (shrN j a b)) else none
  | _ => if j = l then match fastBin op j a b with
      | some v => k v
      | none => d
    else d
def binQ {α : Type} (op : BinOp) (u v : Value) (k : Value → Option α) (d : Option α) : Option α :=
  match u with
  | .int j a => match v with
    | .int l b => binI op j l a b k d
    | _ => d
  | _ => d
def loadQ {α : Type} (P : Program) (t : TypeId) (S : List Blk) (p : Value) (k : Value → List Blk → Option α) (d : Option α) : Option α :=
  match p with
  | .pointer (some ⟨b, o, none⟩) => match getR S b with
    | some ⟨cs, _, _, none⟩ => match readAt P t cs o with
      | some v => k v S
      | none => none
    | _ => d
  | _ => d
def idxQ {α : Type} (P : Program) (t : TypeId) (S : List Blk) (u v : Value) (k : Value → List Blk → Option α) (d : Option α) : Option α :=
  match v with
  | .int _ i => match u with
    | .slice (some ⟨b, off, none⟩) n _ => match P.underlying t with
      | some (.slice e) => match sizeT P e with
        | some sz => bif decide (0 ≤ i) && decide (i < (n : Int)) then k (.pointer (some ⟨b, off + i.toNat * sz, none⟩)) S else none
        | none => d
      | _ => d
    | .pointer (some ⟨b, off, none⟩) => match P.underlying t with
      | some (.array n e) => match sizeT P e with
        | some sz => bif decide (0 ≤ i) && decide (i < (n : Int)) then k (.pointer (some ⟨b, off + i.toNat * sz, none⟩)) S else none
        | none => d
      | _ => d
    | _ => d
  | _ => d
def retQ {α : Type} (cl : CallerK α) (rd : RoundK α) (fl : Nat) (S : List Blk) (r : Option R) (k : Value → List Blk → Option α) : Option α :=
  match r with
  | some (.val v S') => k v S'
  | some (.call f args) => cl fl f args S k
  | some (.round l args) => rd fl l args S k
  | none => none
def lenQ {α : Type} (P : Program) (vs : List Value) (ats : Array TypeId) (S : List Blk) (k : Value → List Blk → Option α) (d : Option α) : Option α :=
  match vs with
  | [.slice (some _) n _] => match ats[0]? with
    | some t => match P.underlying t with
      | some (.slice _) => k (.int .i64 n) S
      | _ => d
    | none => d
  | _ => d
def callQ {α : Type} (P : Program) (gl : Nat) (cl : CallerK α) (rd : RoundK α) (fl : Nat) (c : Call) (T : List Value) (S : List Blk) (k : Value → List Blk → Option α) (d : Option α) : Option α :=
  match c with
  | { callee := .value f, args, .. } => opdK gl T f fun g => opdsK gl T args.toList fun vs => retQ cl rd fl S (callee P g vs) k
  | { callee := .builtin .len, args, argTypes } => opdsK gl T args.toList fun vs => lenQ P vs argTypes S k d
  | _ => d
def opK {α : Type} (P : Program) (gl : Nat) (cl : CallerK α) (rd : RoundK α) (fl : Nat) (o : Oper) (T : List Value) (S : List Blk) (k : Value → List Blk → Option α) : Option α :=
  match o.op with
  | .move x => opdK gl T x fun v => k v S
  | .assign x => opdK gl T x fun v => k v S
  | .binOp op _ x y _ => opdK gl T x fun u => opdK gl T y fun v => binQ op u v (fun v => k v S) (opO P gl cl rd fl o T S k)
  | .load t x => opdK gl T x fun p => loadQ P t S p k (opO P gl cl rd fl o T S k)
  | .store t x y => opdK gl T x fun p => opdK gl T y fun v => match store P fl t S p v with
    | some S' => k undef S'
    | none => none
  | .fieldAddr t x f => opdK gl T x fun p => match fieldP P t f p with
    | some v => k v S
    | none => none
  | .indexAddr t x i => opdK gl T x fun u => opdK gl T i fun v => idxQ P t S u v k (opO P gl cl rd fl o T S k)
  | .call c => callQ P gl cl rd fl c T S k (opO P gl cl rd fl o T S k)
  | _ => opO P gl cl rd fl o T S k
theorem opK_eqO {α : Type} (P : Program) (gl : Nat) (cl : CallerK α) (rd : RoundK α) (fl : Nat) (o : Oper) (T : List Value) (S : List Blk) (k : Value → List Blk → Option α) : opK P gl cl rd fl o T S k = opO P gl cl rd fl o T S k := by
  unfold opK
  split
  · rename_i x ho
    rw [opdK_eq]
    simp only [opO, ho, condOp, condMem, condStr, mapK, appendK, evOp]
    cases opd gl T x <;> rfl
  · rename_i x ho
    rw [opdK_eq]
    simp only [opO, ho, condOp, condMem, condStr, mapK, appendK, evOp]
    cases opd gl T x <;> rfl
  · rename_i op ty x y z ho
    simp only [opdK_eq]
    cases hx : opd gl T x with
    | none => simp [opO, ho, condOp, condMem, condStr, mapK, appendK, evOp, hx, pureTry, Op.operands, opds]
    | some u =>
      cases hy : opd gl T y with
      | none => simp [opO, ho, condOp, condMem, condStr, mapK, appendK, evOp, hx, hy, pureTry, Op.operands, opds]
      | some v =>
        simp only
        unfold binQ
        split
        · split
          · rename_i j a l b
            unfold binI
            split
            · simp only [opO, ho, condOp, hx, hy]
            · simp only [opO, ho, condOp, hx, hy]
            · split
              · rename_i hjl
                subst hjl
                split
                · rename_i v2 hv
                  cases op <;> first | (simp only [fastBin, reduceCtorEq] at hv; done) | simp only [opO, ho, condOp, condMem, condStr, mapK, appendK, evOp, hx, hy, if_true, hv]
                · rfl
              · rfl
          · rfl
        · rfl
  · rename_i t x ho
    rw [opdK_eq]
    cases hx : opd gl T x with
    | none => simp only [opO, ho, condOp, condMem, condStr, mapK, appendK, evOp, hx]
    | some p =>
      simp only
      unfold loadQ
      split
      · rename_i b off
        split
        · rename_i cs e2 ro hb
          have hb2 := hb
          rw [getR_eq] at hb2
          simp only [opO, ho, condOp, condMem, condStr, mapK, appendK, evOp, hx, load, hb, hb2]
          cases readAt P t cs off <;> rfl
        · rfl
      · rfl
  · rename_i t x y ho
    simp only [opdK_eq]
    simp only [opO, ho, condOp, condMem, condStr, mapK, appendK, evOp]
    cases opd gl T x with
    | none => rfl
    | some p => cases opd gl T y with
      | none => rfl
      | some v =>
        simp only
        cases store P fl t S p v <;> rfl
  · rename_i t x f ho
    rw [opdK_eq]
    simp only [opO, ho, condOp, condMem, condStr, mapK, appendK, evOp]
    cases opd gl T x with
    | none => rfl
    | some p =>
      simp only
      cases fieldP P t f p <;> rfl
  · rename_i t x i ho
    simp only [opdK_eq]
    cases hx : opd gl T x with
    | none => simp only [opO, ho, condOp, condMem, condStr, mapK, appendK, evOp, hx]
    | some u =>
      cases hi : opd gl T i with
      | none =>
        cases u with
        | slice ad n c => cases ad with
          | none => simp only [opO, ho, condOp, condMem, condStr, mapK, appendK, evOp, hx, hi]
          | some ad => obtain ⟨b, off, s⟩ := ad; cases s <;> simp only [opO, ho, condOp, condMem, condStr, mapK, appendK, evOp, hx, hi]
        | pointer ad => cases ad with
          | none => simp only [opO, ho, condOp, condMem, condStr, mapK, appendK, evOp, hx, hi]
          | some ad => obtain ⟨b, off, s⟩ := ad; cases s <;> simp only [opO, ho, condOp, condMem, condStr, mapK, appendK, evOp, hx, hi]
        | _ => simp only [opO, ho, condOp, condMem, condStr, mapK, appendK, evOp, hx, hi]
      | some v =>
        simp only
        unfold idxQ
        split
        · split
          · split
            · split
              · rename_i hu _ sz hz
                simp only [opO, ho, condOp, condMem, hx, hi, hu, hz]
              · rfl
            · rfl
          · split
            · split
              · rename_i hu _ sz hz
                simp only [opO, ho, condOp, condMem, hx, hi, hu, hz]
              · rfl
            · rfl
          · rfl
        · rfl
  · rename_i c ho
    unfold callQ
    split
    · rename_i f args ats
      simp only [opdK_eq, opdsK_eq]
      simp only [opO, ho, condOp, condMem, condStr, mapK, appendK, evOp]
      cases opd gl T f with
      | none => rfl
      | some g => cases opds gl T args.toList with
        | none => rfl
        | some vs => rfl
    · rename_i args ats
      simp only [opdsK_eq]
      cases hv : opds gl T args.toList with
      | none => simp [opO, ho, condOp, condMem, condStr, mapK, appendK, evOp, hv, pureTry, Op.operands, Call.operands]
      | some vs =>
        simp only
        unfold lenQ
        split
        · split
          · split
            · rename_i tt ht _ ee hu
              simp only [opO, ho, condOp, condMem, condStr, mapK, appendK, evOp, hv, ht, hu]
            · rfl
          · rfl
        · rfl
    · rfl
  · rfl

/-- The number of what a call returns, by tests. -/
def resK {α : Type} (P : Program) (gl : Nat) (cl : CallerK α) (rd : RoundK α) (fl : Nat) (ops : Array Oper) (o : Oper) (T : List Value) (S : List Blk) (k : List Value → List Blk → Option α) : Option α :=
  match o.guard with
  | none => opK P gl cl rd fl o T S fun v S' => putK T o.dst v fun T'' => k T'' S'
  | some _ => resO P gl cl rd fl ops o T S k
theorem resK_eqO {α : Type} (P : Program) (gl : Nat) (cl : CallerK α) (rd : RoundK α) (fl : Nat) (ops : Array Oper) (o : Oper) (T : List Value) (S : List Blk) (k : List Value → List Blk → Option α) : resK P gl cl rd fl ops o T S k = resO P gl cl rd fl ops o T S k := by
  unfold resK
  split
  · rename_i hg
    rw [opK_eqO]
    simp only [resO, guardK, hg]
  · rfl
def evOpsK {α : Type} (P : Program) (gl : Nat) (cl : CallerK α) (rd : RoundK α) (fl : Nat) (ops : Array Oper) (l : List Oper) : List Value → List Blk → (List Value → List Blk → Option α) → Option α :=
  List.rec (fun T S k => k T S) (fun o _ ih T S k => resK P gl cl rd fl ops o T S fun T' S' => ih T' S' k) l

def evPreK {α : Type} (P : Program) (gl : Nat) (cl : CallerK α) (rd : RoundK α) (ops : Array Oper) (l : List Nat) : List Value → List Blk → (List Value → List Blk → Option α) → Option α :=
  List.rec (fun T S k => k T S) (fun i _ ih T S k => match getR ops.toList i with
    | some o => resK P gl cl rd (lenR S) ops o T S fun T' S' => ih T' S' k
    | none => none) l
def evTailK {α : Type} (P : Program) (gl : Nat) (cl : CallerK α) (rd : RoundK α) (fl : Nat) (ops : Array Oper) (l : List Nat) : List Value → List Blk → (List Value → List Blk → Option α) → Option α :=
  List.rec (fun T S k => k T S) (fun i _ ih T S k => match getR ops.toList i with
    | some o => resK P gl cl rd fl ops o T S fun T' S' => ih T' S' k
    | none => none) l

def evTailFK {α : Type} (P : Program) (gl : Nat) (cl : CallerK α) (rd : RoundK α) (fl : Nat) (md : Region.Mode) (ops : Array Oper) : List Nat → List (Nat × Nat) → List Value → List Blk → (List Value → List Blk → Option α) → Option α
  | [], _, T, S, k => k T S
  | i :: l, B, T, S, k => match getR ops.toList i with
    | some o => forceK (openAt md o B) fun B' => if quietOp gl B' o T then resK P gl cl rd fl ops o T S fun T' S' => evTailFK P gl cl rd fl md ops l B' T' S' k
      else resK P gl cl rd fl ops o T S fun T' S' => if sameBlks S S' B' then evTailFK P gl cl rd fl md ops l B' T' S' k else none
    | none => none

def evTailGK {α : Type} (P : Program) (gl : Nat) (cl : CallerK α) (rd : RoundK α) (fl : Nat) (md : Region.Mode) (ops : Array Oper) : List Nat → List (Nat × Nat) → List Value → List Blk → (List Value → List Blk → Option α) → Option α
  | [], _, T, S, k => k T S
  | i :: l, B, T, S, k => match getR ops.toList i with
    | some o => match regOnly o.op with
      | true => resK P gl cl rd fl ops o T S fun T' S' => evTailGK P gl cl rd fl md ops l B T' S' k
      | false => forceK (openAt md o B) fun B' => if quietOp gl B' o T then resK P gl cl rd fl ops o T S fun T' S' => evTailGK P gl cl rd fl md ops l B' T' S' k
        else resK P gl cl rd fl ops o T S fun T' S' => bif sameBlks S S' B' then evTailGK P gl cl rd fl md ops l B' T' S' k else none
    | none => none
def evDrawK {α : Type} (P : Program) (gl : Nat) (cl : CallerK α) (rd : RoundK α) (fl : Nat) (ops : Array Oper) (T : List Value) (S : List Blk) (k : List Value → List Blk → Option α) : Option α :=
  if Region.departs ops && !P.follows .mixedOrders then none else
  match firstStatic P ops with
  | some (pre, F, tl) => match laterG P ops pre with
    | true => (match staticG .any ops (firstG .any ops (List.range ops.size) [] []) with
      | some (pre, F, tl) => evPreK P gl cl rd ops pre T S fun T' S' => match blksG ops T' F with
        | some B => evTailGK P gl cl rd fl .any ops tl B T' S' k
        | none => none
      | none => none)
    | false => evPreK P gl cl rd ops pre T S fun T' S' => match floatBlks ops T' F with
      | some B => evTailFK P gl cl rd fl .any ops tl B T' S' k
      | none => none
  | none => match regionStatic .any ops (List.range ops.size) with
  | some (pre, tl) => evPreK P gl cl rd ops pre T S fun T' S' => evTailK P gl cl rd fl ops tl T' S' k
  | none => match floatStatic .any ops (List.range ops.size) with
    | some (pre, F, tl) => evPreK P gl cl rd ops pre T S fun T' S' => match floatBlks ops T' F with
      | some B => evTailFK P gl cl rd fl .any ops tl B T' S' k
      | none => none
    | none => match floatStatic .any ops (floatsFirst .any ops (List.range ops.size) [] []) with
      | some (pre, F, tl) => evPreK P gl cl rd ops pre T S fun T' S' => match floatBlks ops T' F with
        | some B => evTailFK P gl cl rd fl .any ops tl B T' S' k
        | none => none
      | none => match staticG .any ops (firstG .any ops (List.range ops.size) [] []) with
        | some (pre, F, tl) => evPreK P gl cl rd ops pre T S fun T' S' => match blksG ops T' F with
          | some B => evTailGK P gl cl rd fl .any ops tl B T' S' k
          | none => none
        | none => none

def padR (n : Nat) : List Value := Nat.rec [] (fun _ l => undef :: l) n
theorem padR_eq (n : Nat) : padR n = List.replicate n undef := by
  induction n with
  | zero => rfl
  | succ n ih => show undef :: padR n = _; rw [ih]; rfl
def callInK {α : Type} (P : Program) (rec : Nat → Code → List Value → List Blk → (Ex → List Value → List Blk → Option α) → Option α) : CallerK α := fun fl f args S k =>
  match P.funcs[f]? with
  | some fn => match fn.body with
    | some c => appG args (padR (fn.ntmps - lenR args)) fun T => rec fl c T S fun x T' S' => match x with
      | .exit _ => none
      | _ => match resVals P T' S' fn.results.toList with
        | some vs => k (oneVal vs) S'
        | none => none
    | none => none
  | none => none

def callSK {α : Type} (P : Program) (orc : Orc) (Sg : List Blk) (rec : Nat → Code → List Value → List Blk → (Ex → List Value → List Blk → Option α) → Option α) : CallerK α := fun fl f args S k =>
  if args.all plain && isoOk P f then
    match orc.val f args with
    | some t => t.ev fun v => if plain v then k v S else none
    | none => callInK P rec Sg.length f args Sg fun v _ => if plain v then k v S else none
  else match orc.mem fl f args S with
    | some t => t.ev k
    | none => callInK P rec fl f args S k

def tmpOf : Operand → Option Tmp
  | .tmp t => some t
  | _ => none
/-- One round of a range over a function. -/
def roundK {α : Type} (rec : Nat → Code → List Value → List Blk → (Ex → List Value → List Blk → Option α) → Option α) : RoundK α := fun fl l args S k =>
  match loopAt S l with
  | some L => if decide (fl ≤ l) && args.length == L.params.toList.length then
      forceK (setParams L.tmps L.params.toList args) fun T => rec fl L.assign T S fun x T1 S1 => match x with
        | .normal => match loopAt S1 l with
          | some ⟨.ready, p1, t1, q1, a1, b1⟩ => forceK (S1.set l (loopBlk ⟨.busy, p1, t1, q1, a1, b1⟩)) fun S2 => rec fl L.body T1 S2 fun x _ S3 => match loopAt S3 l with
            | some L3 => forceK (S3.set l (loopBlk { L3 with state := if goesOn x then .ready else .done, pending := jumpOf x })) fun S4 => k (.bool (goesOn x)) S4
            | none => none
          | _ => none
        | _ => none
    else none
  | none => none
/-- A range over a function, outside of rounds. -/
def rangeK {α : Type} (P : Program) (gl : Nat) (rec : Nat → Code → List Value → List Blk → (Ex → List Value → List Blk → Option α) → Option α) (fl : Nat) (f : Operand) (params : Array Tmp) (assign body : Code) (T : List Value) (S : List Blk) (k : Ex → List Value → List Blk → Option α) : Option α :=
  if decide (fl ≤ S.length) then match opd gl T f with
  | some g => forceK (S ++ [loopBlk ⟨.ready, none, T, params, assign, body⟩]) fun S1 => match callee P g [.func (.yield S.length) #[] #[]] with
    | some (.call h args) => callInK P rec fl h args S1 fun _ S2 => match loopAt S2 S.length with
      | some L => match L.state with
        | .busy => none
        | _ => forceK (S2.set S.length (loopBlk { L with state := .exhausted })) fun S3 => match L.pending with
          | none => k .normal T S3
          | some .ret => k .ret T S3
          | some (.exit id) => k (.exit id) T S3
          | _ => none
      | none => none
    | _ => none
  | none => none
  else none

def evCodeB {α : Type} (P : Program) (orc : Orc) (Sg : List Blk) : Nat → Bool → Nat → Code → List Value → List Blk → (Ex → List Value → List Blk → Option α) → Option α
  | 0, _, _, _, _, _, _ => none
  | n + 1, ro, fl, c, T, S, k =>
    match c with
    | .skip => k .normal T S
    | .seq a b => evCodeB P orc Sg n ro fl a T S fun x T' S' => match x with
      | .normal => evCodeB P orc Sg n ro fl b T' S' k
      | .exit id => k (.exit id) T' S'
      | .ret => k .ret T' S'
    | .cond x a b => match opd Sg.length T x with
      | some (.bool β) => bif β then putK T (tmpOf x) (.bool true) fun T' => evCodeB P orc Sg n ro fl a T' S k
          else putK T (tmpOf x) (.bool false) fun T' => evCodeB P orc Sg n ro fl b T' S k
      | _ => none
    | .block id b => evCodeB P orc Sg n ro fl b T S fun x T' S' => match x with
      | .exit id' => (match Nat.beq id' id with
        | true => k .normal T' S'
        | false => k (.exit id') T' S')
      | .normal => k .normal T' S'
      | .ret => k .ret T' S'
    | .loop b => evCodeB P orc Sg n ro fl b T S fun x T' S' => match x with
      | .normal => evCodeB P orc Sg n ro fl (.loop b) T' S' k
      | .exit id => k (.exit id) T' S'
      | .ret => k .ret T' S'
    | .label _ => k .normal T S
    | .scope b => evCodeB P orc Sg n ro fl b T S k
    | .exit id => k (.exit id) T S
    | .ret => k .ret T S
    | .region _ ops false => evOpsK P Sg.length (callSK P orc Sg (evCodeB P orc Sg n false)) (roundK (evCodeB P orc Sg n true)) fl ops ops.toList T S (k .normal)
    | .region _ ops true => evDrawK P Sg.length (callSK P orc Sg (evCodeB P orc Sg n false)) (roundK (evCodeB P orc Sg n true)) fl ops T S (k .normal)
    | .rangeFunc f params assign body => match ro with
      | true => none
      | false => rangeK P Sg.length (evCodeB P orc Sg n false) fl f params assign body T S k
    | _ => none
def evCodeK {α : Type} (P : Program) (orc : Orc) (Sg : List Blk) (n : Nat) (fl : Nat) (c : Code) (T : List Value) (S : List Blk) (k : Ex → List Value → List Blk → Option α) : Option α := evCodeB P orc Sg n false fl c T S k

/-- A whole call, apart from all else. -/
def runK (P : Program) (orc : Orc) (Sg : List Blk) (n : Nat) (f : FuncId) (args : List Value) : Option Value :=
  callInK P (evCodeK P orc Sg n) Sg.length f args Sg fun v _ => if plain v then some v else none

/-- An oracle whose premise is met. -/
def orcOf (orc : Orc) : OrcF := ⟨fun f args =>
  match orc.val f args with
  | some t => t.get
  | none => none, fun fl f args S =>
  match orc.mem fl f args S with
  | some t => t.get
  | none => none⟩

theorem set_same {T : List Value} {d : Nat} {b : Bool} (h : nthD T d = .bool b) : T.set d (.bool b) = T := by
  rw [nthD_eq] at h
  refine List.ext_getElem? fun i => ?_
  by_cases hi : d = i
  · subst hi
    cases ht : T[d]? with
    | none => rw [ht] at h; cases h
    | some v =>
      rw [ht] at h
      simp only [Option.getD_some] at h
      subst h
      rw [List.getElem?_set_self (List.getElem?_eq_some_iff.1 ht).1]
  · rw [List.getElem?_set_ne hi]

theorem bif_some {α : Type} {b : Bool} {x y : Option α} {r : α} (h : (bif b then x else y) = some r) : (b = true ∧ x = some r) ∨ (b = false ∧ y = some r) := by
  cases b
  · exact .inr ⟨rfl, h⟩
  · exact .inl ⟨rfl, h⟩

section
variable {P : Program} {α : Type}

/-- What a caller that hands on comes to is what the plain one comes to. -/
def CkOk (cl : Nat → FuncId → List Value → List Blk → Option (Value × List Blk)) (ck : CallerK α) : Prop := ∀ (fl : Nat) (f : FuncId) (args : List Value) (S : List Blk) (k : Value → List Blk → Option α) (r : α), ck fl f args S k = some r → ∃ v S', cl fl f args S = some (v, S') ∧ k v S' = some r

def RdOk (cl : Nat → Nat → List Value → List Blk → Option (Value × List Blk)) (ck : RoundK α) : Prop := ∀ (fl l : Nat) (args : List Value) (S : List Blk) (k : Value → List Blk → Option α) (r : α), ck fl l args S k = some r → ∃ v S', cl fl l args S = some (v, S') ∧ k v S' = some r

theorem keyOk_spec {kt : TypeId} {k : Value} (h : keyOk P kt k = true) : plain k = true ∧ structT P kt = true ∧ ∀ e : Bool, ∃ u : Unit, pureSem P (Instr.checkKey e 10000 kt k) = some u := by
  simp only [keyOk, Bool.and_eq_true] at h
  obtain ⟨⟨⟨h1, h2⟩, h3⟩, h4⟩ := h
  refine ⟨h1, h2, fun e => ?_⟩
  cases e with
  | false => split at h3
             · rename_i u hu; exact ⟨u, hu⟩
             · cases h3
  | true => split at h4
            · rename_i u hu; exact ⟨u, hu⟩
            · cases h4
theorem findIn_fast {kt : TypeId} {k : Value} {es : List MapEntry} (h : keyOk P kt k = true) (ho : okKeys P kt k es = true) (e : Bool) : findIn P kt e es k = some (firstK P kt k es 0) := by
  obtain ⟨h1, h2, h3⟩ := keyOk_spec h
  obtain ⟨u, hu⟩ := h3 e
  simp only [findIn, h1, if_true, hu, findFast, h2, ho, Bool.and_self, cond_true]
theorem firstK_has {kt : TypeId} {k : Value} : ∀ (es : List MapEntry) (i : Nat), hasK P kt k es = false → firstK P kt k es i = none
  | [], _, _ => rfl
  | e :: es, i, h => by
    simp only [hasK, Bool.or_eq_false_iff] at h
    simp only [firstK, h.1, cond_false]
    exact firstK_has es (i + 1) h.2
theorem firstK_val {kt : TypeId} {k : Value} : ∀ (es : List MapEntry) (i : Nat), hasK P kt k es = true → okVals es = true → ∃ j, firstK P kt k es i = some (j, .int .i64 (valK P kt k es))
  | [], _, h, _ => by cases h
  | e :: es, i, h, hv => by
    simp only [okVals, Bool.and_eq_true] at hv
    obtain ⟨v1, v2⟩ := hv
    simp only [hasK, Bool.or_eq_true] at h
    cases hh : hitK P kt k e with
    | true =>
      simp only [firstK, valK, hh, cond_true]
      split at v1
      · rename_i n hn; exact ⟨i, by rw [hn]⟩
      · cases v1
    | false =>
      simp only [firstK, valK, hh, cond_false]
      exact firstK_val es (i + 1) (h.resolve_left (by rw [hh]; simp)) v2
theorem lookupK_ok {S : List Blk} {k : Value → List Blk → Option α} {t : TypeId} {m key : Value} {ok : Bool} {q : Option α} {r : α} (h : lookupK P t S m key ok k = some q) (hq : q = some r) :
    ∃ v, lookupP P t S m key ok = some v ∧ k v S = some r := by
  unfold lookupK at h
  split at h
  · rename_i kt et hu
    split at h
    · rename_i b es clock hm
      split at h
      · rename_i z hz
        split at h
        · rename_i hk
          cases h
          cases ho : okKeys P kt key es && okVals es with
          | false => rw [ho] at hq; cases hq
          | true =>
            rw [ho] at hq
            simp only [cond_true] at hq
            simp only [Bool.and_eq_true] at ho
            have hf := findIn_fast hk ho.1
            have pl : ∀ (n : Int) (b : Bool), plainly (okVal ok (.int .i64 n) b) = some (okVal ok (.int .i64 n) b) := by intro n b; cases ok <;> rfl
            cases hh : hasK P kt key es with
            | false =>
              rw [hh] at hq
              exact ⟨_, by simp only [lookupP, hu, hm, hf, firstK_has _ _ hh, hz, pl], hq⟩
            | true =>
              rw [hh] at hq
              obtain ⟨j, hj⟩ := firstK_val es 0 hh ho.2
              exact ⟨_, by simp only [lookupP, hu, hm, hf, hj, pl], hq⟩
        · cases h
      · cases h
    · cases h
  · cases h
theorem updateK_ok {fl : Nat} {S : List Blk} {k : Value → List Blk → Option α} {t : TypeId} {m key v : Value} {q : Option α} {r : α} (h : updateK P fl t S m key v k = some q) (hq : q = some r) :
    ∃ S', updateP P fl t S m key v = some S' ∧ k undef S' = some r := by
  unfold updateK at h
  simp only [forceK_eq] at h
  split at h
  · rename_i kt et hu
    split at h
    · rename_i b es clock hm
      split at h
      · rename_i hk
        cases h
        cases ho : (Nat.ble fl b && plain v && okKeys P kt key es) with
        | false => rw [ho] at hq; cases hq
        | true =>
          rw [ho] at hq
          simp only [cond_true] at hq
          simp only [Bool.and_eq_true, Nat.ble_eq] at ho
          have hf := findIn_fast hk ho.2 false
          cases hh : hasK P kt key es with
          | true => rw [hh] at hq; cases hq
          | false =>
            rw [hh] at hq
            exact ⟨_, by simp only [updateP_eqO, updatePO, hu, hm, hf, firstK_has _ _ hh, ho.1.1, ho.1.2, decide_true, Bool.and_self, if_true, forceK_eq], hq⟩
      · cases h
    · cases h
  · cases h
theorem mapK_ok {gl fl : Nat} {o : Oper} {T : List Value} {S : List Blk} {k : Value → List Blk → Option α} {q : Option α} {r : α} (h : mapK P gl fl o T S k = some q) (hq : q = some r) :
    ∃ v S', evOp P gl fl o T S = some (.val v S') ∧ k v S' = some r := by
  unfold mapK at h
  split at h
  · rename_i t x i ok ho
    split at h
    · rename_i m hm
      split at h
      · rename_i key hkey
        obtain ⟨v, h1, h2⟩ := lookupK_ok h hq
        exact ⟨v, S, by simp only [evOp_eqO, evOpO, ho, hm, hkey, h1], h2⟩
      · cases h
    · cases h
  · rename_i t x i y ho
    split at h
    · rename_i m hm
      split at h
      · rename_i key hkey
        split at h
        · rename_i v hv
          obtain ⟨S', h1, h2⟩ := updateK_ok h hq
          exact ⟨undef, S', by simp only [evOp_eqO, evOpO, ho, hm, hkey, hv, h1], h2⟩
        · cases h
      · cases h
    · cases h
  · rename_i x ho
    split at h
    · rename_i u hu
      obtain ⟨v, S', h1, h2⟩ := nextK_ok h hq
      exact ⟨v, S', by simp only [evOp_eqO, evOpO, ho, hu, h1], h2⟩
    · cases h
  · cases h

theorem resK_ok {gl fl : Nat} {cl : Caller} {ck : CallerK α} {rd : RoundK α} (hc : CkOk cl.call ck) (hd : RdOk cl.round rd) {ops : Array Oper} {o : Oper} {T : List Value} {S : List Blk} {k : List Value → List Blk → Option α} {r : α}
    (h : resK P gl ck rd fl ops o T S k = some r) : ∃ v S', opRes P gl cl fl ops o T S = some (v, S') ∧ k (putL T o.dst v) S' = some r := by
  rw [resK_eqO] at h
  have body : ∀ (T : List Value) (b : Bool), wantedS ops T o = some b → (match b with
      | true => opO P gl ck rd fl o T S fun v S' => putK T o.dst v fun T'' => k T'' S'
      | false => putK T o.dst undef fun T'' => k T'' S) = some r → ∃ v S', opRes P gl cl fl ops o T S = some (v, S') ∧ k (putL T o.dst v) S' = some r := by
    intro T b hw hb
    simp only [putK_eq] at hb
    cases b with
    | false => exact ⟨undef, S, by simp only [opRes, hw], hb⟩
    | true =>
      simp only [opO] at hb
      split at hb
      · rename_i c a b ho
        split at hb
        · rename_i β v u h1 h2 h3
          rcases bif_some hb with ⟨rfl, hb⟩ | ⟨rfl, hb⟩
          · exact ⟨v, S, by simp only [opRes, hw, evOp_eqO, evOpO, ho, h1, h2, h3, cond_true], hb⟩
          · exact ⟨u, S, by simp only [opRes, hw, evOp_eqO, evOpO, ho, h1, h2, h3, cond_false], hb⟩
        · cases hb
      · split at hb
        · rename_i c v hco
          cases c
          · cases hb
          · exact ⟨v, S, by simp only [opRes, hw, condOp_ok hco], hb⟩
        · split at hb
          · rename_i c v hco
            cases c
            · cases hb
            · exact ⟨v, S, by simp only [opRes, hw, condMem_ok hco], hb⟩
          split at hb
          · rename_i c v hco
            cases c
            · cases hb
            · exact ⟨v, S, by simp only [opRes, hw, condStr_ok hco], hb⟩
          split at hb
          · rename_i q hq
            obtain ⟨v, S', h1, h2⟩ := mapK_ok hq hb
            exact ⟨v, S', by simp only [opRes, hw, h1], h2⟩
          split at hb
          · rename_i q hq
            obtain ⟨v, S', h1, h2⟩ := appendK_ok (fl := fl) hq hb
            exact ⟨v, S', by simp only [opRes, hw, h1], h2⟩
          · split at hb
            · rename_i v S' he
              exact ⟨v, S', by simp only [opRes, hw, he], hb⟩
            · rename_i f args he
              obtain ⟨v, S', h1, h2⟩ := hc _ _ _ _ _ _ hb
              exact ⟨v, S', by simp only [opRes, hw, he, h1], h2⟩
            · rename_i l args he
              obtain ⟨v, S', h1, h2⟩ := hd _ _ _ _ _ _ hb
              exact ⟨v, S', by simp only [opRes, hw, he, h1], h2⟩
            · cases hb
  unfold resO guardK at h
  split at h
  · rename_i hg
    exact body T true (by simp only [wantedS, hg]) h
  · rename_i j want hg
    split at h
    · rename_i p hp
      rw [getR_arr] at hp
      split at h
      · rename_i d hd
        split at h
        · rename_i b hb
          simp only [setK_eq] at h
          rcases bif_some h with ⟨rfl, h⟩ | ⟨rfl, h⟩
          · rw [set_same hb] at h
            refine body T _ ?_ h
            simp only [wantedS, hg, hp, hd, hb]
            cases want <;> rfl
          · rw [set_same hb] at h
            refine body T _ ?_ h
            simp only [wantedS, hg, hp, hd, hb]
            cases want <;> rfl
        · rename_i xs hb
          split at h
          · rename_i hx
            cases hl : Nat.blt d T.length with
            | false => rw [hl] at h; cases h
            | true =>
              rw [hl] at h
              refine body T false ?_ h
              simp only [wantedS, hg, hp, hd, hb, hx, hl, cond_true]
          · cases h
        · cases h
      · cases h
    · cases h

theorem evOpsK_ok {gl fl : Nat} {cl : Caller} {ck : CallerK α} {rd : RoundK α} (hc : CkOk cl.call ck) (hd : RdOk cl.round rd) {ops : Array Oper} : ∀ (l : List Oper) (T : List Value) (S : List Blk) (k : List Value → List Blk → Option α) (r : α),
    evOpsK P gl ck rd fl ops l T S k = some r → ∃ T' S', evOps P gl cl fl ops l T S = some (T', S') ∧ k T' S' = some r := by
  intro l
  induction l with
  | nil => intro T S k r h; exact ⟨T, S, rfl, h⟩
  | cons o l ih =>
    intro T S k r h
    have h : resK P gl ck rd fl ops o T S (fun T' S' => evOpsK P gl ck rd fl ops l T' S' k) = some r := h
    obtain ⟨v, S1, h1, h2⟩ := resK_ok hc hd h
    obtain ⟨T', S', h3, h4⟩ := ih _ _ _ _ h2
    exact ⟨T', S', by simp only [evOps, h1, putK_eq, h3], h4⟩

theorem evPreK_ok {gl : Nat} {cl : Caller} {ck : CallerK α} {rd : RoundK α} (hc : CkOk cl.call ck) (hd : RdOk cl.round rd) {ops : Array Oper} : ∀ (l : List Nat) (T : List Value) (S : List Blk) (k : List Value → List Blk → Option α) (r : α),
    evPreK P gl ck rd ops l T S k = some r → ∃ T' S', evPre P gl cl ops l T S = some (T', S') ∧ k T' S' = some r := by
  intro l
  induction l with
  | nil => intro T S k r h; exact ⟨T, S, rfl, h⟩
  | cons i l ih =>
    intro T S k r h
    have h : (match getR ops.toList i with
      | some o => resK P gl ck rd (lenR S) ops o T S fun T' S' => evPreK P gl ck rd ops l T' S' k
      | none => none) = some r := h
    rw [lenR_eq] at h
    split at h
    · rename_i o ho
      obtain ⟨v, S1, h1, h2⟩ := resK_ok hc hd h
      obtain ⟨T', S', h3, h4⟩ := ih _ _ _ _ h2
      exact ⟨T', S', by simp only [evPre, ho, h1, putK_eq, h3], h4⟩
    · cases h
theorem evTailK_ok {gl fl : Nat} {cl : Caller} {ck : CallerK α} {rd : RoundK α} (hc : CkOk cl.call ck) (hd : RdOk cl.round rd) {ops : Array Oper} : ∀ (l : List Nat) (T : List Value) (S : List Blk) (k : List Value → List Blk → Option α) (r : α),
    evTailK P gl ck rd fl ops l T S k = some r → ∃ T' S', evTail P gl cl fl ops l T S = some (T', S') ∧ k T' S' = some r := by
  intro l
  induction l with
  | nil => intro T S k r h; exact ⟨T, S, rfl, h⟩
  | cons i l ih =>
    intro T S k r h
    have h : (match getR ops.toList i with
      | some o => resK P gl ck rd fl ops o T S fun T' S' => evTailK P gl ck rd fl ops l T' S' k
      | none => none) = some r := h
    split at h
    · rename_i o ho
      obtain ⟨v, S1, h1, h2⟩ := resK_ok hc hd h
      obtain ⟨T', S', h3, h4⟩ := ih _ _ _ _ h2
      exact ⟨T', S', by simp only [evTail, ho, h1, putK_eq, h3], h4⟩
    · cases h
theorem evTailFK_ok {gl fl : Nat} {cl : Caller} {ck : CallerK α} {rd : RoundK α} (hc : CkOk cl.call ck) (hd : RdOk cl.round rd) {md : Region.Mode} {ops : Array Oper} : ∀ (l : List Nat) (B : List (Nat × Nat)) (T : List Value) (S : List Blk) (k : List Value → List Blk → Option α) (r : α),
    evTailFK P gl ck rd fl md ops l B T S k = some r → ∃ T' S', evTailF P gl cl fl md ops l B T S = some (T', S') ∧ k T' S' = some r := by
  intro l
  induction l with
  | nil => intro B T S k r h; exact ⟨T, S, rfl, h⟩
  | cons i l ih =>
    intro B T S k r h
    simp only [evTailFK, forceK_eq] at h
    split at h
    · rename_i o ho
      split at h
      · rename_i hq
        obtain ⟨v, S1, h1, h2⟩ := resK_ok hc hd h
        obtain ⟨T', S', h3, h4⟩ := ih _ _ _ _ _ h2
        exact ⟨T', S', by simp only [evTailF, forceK_eq, ho, hq, Bool.true_or, if_true, h1, putK_eq, h3], h4⟩
      · obtain ⟨v, S1, h1, h2⟩ := resK_ok hc hd h
        split at h2
        · rename_i hs
          obtain ⟨T', S', h3, h4⟩ := ih _ _ _ _ _ h2
          exact ⟨T', S', by simp only [evTailF, forceK_eq, ho, hs, Bool.or_true, if_true, h1, putK_eq, h3], h4⟩
        · cases h2
    · cases h
theorem evTailGK_ok {gl fl : Nat} {cl : Caller} {ck : CallerK α} {rd : RoundK α} (hc : CkOk cl.call ck) (hd : RdOk cl.round rd) {md : Region.Mode} {ops : Array Oper} : ∀ (l : List Nat) (B : List (Nat × Nat)) (T : List Value) (S : List Blk) (k : List Value → List Blk → Option α) (r : α),
    evTailGK P gl ck rd fl md ops l B T S k = some r → ∃ T' S', evTailG P gl cl fl md ops l B T S = some (T', S') ∧ k T' S' = some r := by
  intro l
  induction l with
  | nil => intro B T S k r h; exact ⟨T, S, rfl, h⟩
  | cons i l ih =>
    intro B T S k r h
    simp only [evTailGK, forceK_eq] at h
    split at h
    · rename_i o ho
      cases hr : regOnly o.op with
      | true =>
        rw [hr] at h
        simp only at h
        obtain ⟨v, S1, h1, h2⟩ := resK_ok hc hd h
        obtain ⟨T', S', h3, h4⟩ := ih _ _ _ _ _ h2
        exact ⟨T', S', by simp only [evTailG, ho, hr, h1, putK_eq, h3], h4⟩
      | false =>
        rw [hr] at h
        simp only at h
        split at h
        · rename_i hq
          obtain ⟨v, S1, h1, h2⟩ := resK_ok hc hd h
          obtain ⟨T', S', h3, h4⟩ := ih _ _ _ _ _ h2
          exact ⟨T', S', by simp only [evTailG, forceK_eq, ho, hr, hq, Bool.true_or, if_true, h1, putK_eq, h3], h4⟩
        · obtain ⟨v, S1, h1, h2⟩ := resK_ok hc hd h
          cases hs : sameBlks S S1 (openAt md o B) with
          | true =>
            rw [hs] at h2
            obtain ⟨T', S', h3, h4⟩ := ih _ _ _ _ _ h2
            exact ⟨T', S', by simp only [evTailG, forceK_eq, ho, hr, hs, Bool.or_true, if_true, h1, putK_eq, h3], h4⟩
          | false => rw [hs] at h2; cases h2
    · cases h
theorem evDrawK_ok {gl fl : Nat} {cl : Caller} {ck : CallerK α} {rd : RoundK α} (hc : CkOk cl.call ck) (hd : RdOk cl.round rd) {ops : Array Oper} {T : List Value} {S : List Blk} {k : List Value → List Blk → Option α} {r : α}
    (h : evDrawK P gl ck rd fl ops T S k = some r) : ∃ T' S', evDraw P gl cl fl ops T S = some (T', S') ∧ k T' S' = some r := by
  unfold evDrawK at h
  split at h
  · cases h
  · rename_i hdp
    split at h
    · rename_i pre F tl hfs
      have hfs2 : floatStatic .any ops (floatsFirst .any ops (List.range ops.size) [] []) = some (pre, F, tl) := by
        have := hfs
        unfold firstStatic at this
        cases hp : plainCalls P ops with
        | true => rw [hp] at this; cases this
        | false => rw [hp] at this; exact this
      cases hl : laterG P ops pre with
      | true =>
        rw [hl] at h
        simp only at h
        split at h
        · rename_i pre2 F2 tl2 hsg
          obtain ⟨T1, S1, h1, h2⟩ := evPreK_ok hc hd _ _ _ _ _ h
          split at h2
          · rename_i B hB
            obtain ⟨T', S', h3, h4⟩ := evTailGK_ok hc hd _ _ _ _ _ _ h2
            exact ⟨T', S', by simp only [evDraw, hdp, hfs, hl, evFloatG, hsg, h1, hB, h3]; simp, h4⟩
          · cases h2
        · cases h
      | false =>
        rw [hl] at h
        simp only at h
        obtain ⟨T1, S1, h1, h2⟩ := evPreK_ok hc hd _ _ _ _ _ h
        split at h2
        · rename_i B hB
          obtain ⟨T', S', h3, h4⟩ := evTailFK_ok hc hd _ _ _ _ _ _ h2
          exact ⟨T', S', by simp only [evDraw, hdp, hfs, hl, evFloat, hfs2, h1, hB, h3]; simp, h4⟩
        · cases h2
    rename_i hfirst
    split at h
    · rename_i pre tl hst
      obtain ⟨T1, S1, h1, h2⟩ := evPreK_ok hc hd _ _ _ _ _ h
      obtain ⟨T', S', h3, h4⟩ := evTailK_ok hc hd _ _ _ _ _ h2
      exact ⟨T', S', by simp only [evDraw, hdp, hfirst, evRegion, hst, h1, h3]; simp, h4⟩
    · rename_i hst
      split at h
      · rename_i pre F tl hfs
        obtain ⟨T1, S1, h1, h2⟩ := evPreK_ok hc hd _ _ _ _ _ h
        split at h2
        · rename_i B hB
          obtain ⟨T', S', h3, h4⟩ := evTailFK_ok hc hd _ _ _ _ _ _ h2
          exact ⟨T', S', by simp only [evDraw, hdp, hfirst, hst, evFloat, hfs, h1, hB, h3]; simp, h4⟩
        · cases h2
      · rename_i hf0
        split at h
        · rename_i pre F tl hfs
          obtain ⟨T1, S1, h1, h2⟩ := evPreK_ok hc hd _ _ _ _ _ h
          split at h2
          · rename_i B hB
            obtain ⟨T', S', h3, h4⟩ := evTailFK_ok hc hd _ _ _ _ _ _ h2
            exact ⟨T', S', by simp only [evDraw, hdp, hfirst, hst, hf0, evFloat, hfs, h1, hB, h3]; simp, h4⟩
          · cases h2
        · rename_i hf1
          split at h
          · rename_i pre F tl hfs
            obtain ⟨T1, S1, h1, h2⟩ := evPreK_ok hc hd _ _ _ _ _ h
            split at h2
            · rename_i B hB
              obtain ⟨T', S', h3, h4⟩ := evTailGK_ok hc hd _ _ _ _ _ _ h2
              exact ⟨T', S', by simp only [evDraw, hdp, hfirst, hst, hf0, hf1, evFloatG, hfs, h1, hB, h3]; simp, h4⟩
            · cases h2
          · cases h

def RecK (rec : Nat → Code → List Value → List Blk → Option (Ex × List Value × List Blk)) (reck : Nat → Code → List Value → List Blk → (Ex → List Value → List Blk → Option α) → Option α) : Prop :=
  ∀ (fl : Nat) (c : Code) (T : List Value) (S : List Blk) (k : Ex → List Value → List Blk → Option α) (r : α), reck fl c T S k = some r → ∃ x T' S', rec fl c T S = some (x, T', S') ∧ k x T' S' = some r

theorem callInK_ok {rec : RecT} {reck : Nat → Code → List Value → List Blk → (Ex → List Value → List Blk → Option α) → Option α}
    (hr : RecK (rec false) reck) : CkOk (callIn P rec) (callInK P reck) := by
  intro fl f args S k r h
  unfold callInK at h
  simp only [appG_eq, padR_eq, lenR_eq] at h
  split at h
  · rename_i fn hfn
    split at h
    · rename_i c hb
      obtain ⟨x, T', S', h1, h2⟩ := hr _ _ _ _ _ _ h
      cases x with
      | exit id => cases h2
      | normal =>
        simp only at h2
        split at h2
        · rename_i vs hvs
          exact ⟨oneVal vs, S', by simp only [callIn, hfn, hb, forceK_eq, h1, hvs], h2⟩
        · cases h2
      | ret =>
        simp only at h2
        split at h2
        · rename_i vs hvs
          exact ⟨oneVal vs, S', by simp only [callIn, hfn, hb, forceK_eq, h1, hvs], h2⟩
        · cases h2
    · cases h
  · cases h

theorem callSK_ok {orc : Orc} {Sg : List Blk} {rec : RecT} {reck : Nat → Code → List Value → List Blk → (Ex → List Value → List Blk → Option α) → Option α}
    (hr : RecK (rec false) reck) : CkOk (callS P (orcOf orc) Sg rec) (callSK P orc Sg reck) := by
  intro fl f args S k r h
  unfold callSK at h
  split at h
  · rename_i hall
    split at h
    · rename_i t ho
      obtain ⟨v, hv, h⟩ := OT.ev_ok h
      split at h
      · rename_i hp
        exact ⟨v, S, by simp only [callS, hall, orcOf, ho, hv, hp, if_true], h⟩
      · cases h
    · rename_i ho
      obtain ⟨v, S', h1, h2⟩ := callInK_ok hr _ _ _ _ _ _ h
      split at h2
      · rename_i hp
        exact ⟨v, S, by simp only [callS, hall, orcOf, ho, h1, hp, if_true], h2⟩
      · cases h2
  · rename_i hall
    split at h
    · rename_i t ho
      obtain ⟨v, S', h1, h2⟩ := OTM.ev_ok h
      exact ⟨v, S', by simp only [callS, hall, orcOf, ho, h1]; simp, h2⟩
    · rename_i ho
      obtain ⟨v, S', h1, h2⟩ := callInK_ok hr _ _ _ _ _ _ h
      exact ⟨v, S', by simp only [callS, hall, orcOf, ho, h1]; simp, h2⟩

theorem roundK_ok {rec : RecT} {reck : Nat → Code → List Value → List Blk → (Ex → List Value → List Blk → Option α) → Option α} (hr : RecK (rec true) reck) : RdOk (roundS rec) (roundK reck) := by
  intro fl l args S k r h
  unfold roundK at h
  simp only [forceK_eq] at h
  split at h
  · rename_i L hL
    split at h
    · rename_i hc
      obtain ⟨x, T1, S1, h1, h2⟩ := hr _ _ _ _ _ _ h
      split at h2
      · split at h2
        · rename_i p1 t1 q1 a1 b1 hL1
          obtain ⟨y, T3, S3, h3, h4⟩ := hr _ _ _ _ _ _ h2
          split at h4
          · rename_i L3 hL3
            exact ⟨_, _, by simp only [roundS, hL, hc, if_true, forceK_eq, h1, hL1, h3, hL3], h4⟩
          · cases h4
        · cases h2
      · cases h2
    · cases h
  · cases h
theorem rangeK_ok {rec : RecT} {reck : Nat → Code → List Value → List Blk → (Ex → List Value → List Blk → Option α) → Option α} (hr : RecK (rec false) reck) {gl fl : Nat} {f : Operand} {params : Array Tmp} {assign body : Code} {T : List Value} {S : List Blk} {k : Ex → List Value → List Blk → Option α} {r : α}
    (h : rangeK P gl reck fl f params assign body T S k = some r) : ∃ x T' S', rangeS P gl rec fl f params assign body T S = some (x, T', S') ∧ k x T' S' = some r := by
  unfold rangeK at h
  simp only [forceK_eq] at h
  split at h
  · rename_i hfl
    split at h
    · rename_i g hg
      split at h
      · rename_i hfn args hcal
        obtain ⟨u, S2, h1, h2⟩ := callInK_ok (P := P) hr _ _ _ _ _ _ h
        split at h2
        · rename_i L hL
          split at h2
          · cases h2
          · rename_i hst
            split at h2
            · rename_i hp
              refine ⟨_, _, _, ?_, h2⟩
              simp only [rangeS, hfl, if_true, hg, forceK_eq, hcal, h1, hL, hp]
            · rename_i hp
              refine ⟨_, _, _, ?_, h2⟩
              simp only [rangeS, hfl, if_true, hg, forceK_eq, hcal, h1, hL, hp]
            · rename_i id hp
              refine ⟨_, _, _, ?_, h2⟩
              simp only [rangeS, hfl, if_true, hg, forceK_eq, hcal, h1, hL, hp]
            · cases h2
        · cases h2
      · cases h
    · cases h
  · cases h

theorem evCodeB_ok {orc : Orc} {Sg : List Blk} : ∀ (n : Nat) (ro : Bool), RecK (evCode P (orcOf orc) Sg n ro) (evCodeB (α := α) P orc Sg n ro) := by
  intro n
  induction n with
  | zero => intro ro fl c T S k r h; (cases h)
  | succ n ihn =>
    intro ro
    have ih := ihn ro
    have hc : CkOk (callerS P (orcOf orc) Sg (evCode P (orcOf orc) Sg n)).call (callSK P orc Sg (evCodeB (α := α) P orc Sg n false)) := callSK_ok (ihn false)
    have hd : RdOk (callerS P (orcOf orc) Sg (evCode P (orcOf orc) Sg n)).round (roundK (evCodeB (α := α) P orc Sg n true)) := roundK_ok (ihn true)
    intro fl c T S k r h
    cases c with
    | skip => exact ⟨_, T, S, rfl, h⟩
    | label l => exact ⟨_, T, S, rfl, h⟩
    | scope b =>
      simp only [evCodeB] at h
      obtain ⟨x, T', S', h1, h2⟩ := ih _ _ _ _ _ _ h
      exact ⟨x, T', S', by simp only [evCode, h1], h2⟩
    | exit id => exact ⟨_, T, S, rfl, h⟩
    | ret => exact ⟨_, T, S, rfl, h⟩
    | seq a b =>
      simp only [evCodeB] at h
      obtain ⟨x, T1, S1, h1, h2⟩ := ih _ _ _ _ _ _ h
      cases x with
      | normal =>
        obtain ⟨y, T', S', h3, h4⟩ := ih _ _ _ _ _ _ h2
        exact ⟨y, T', S', by simp only [evCode, h1, h3], h4⟩
      | exit id => exact ⟨_, T1, S1, by simp only [evCode, h1], h2⟩
      | ret => exact ⟨_, T1, S1, by simp only [evCode, h1], h2⟩
    | cond y a b =>
      simp only [evCodeB, putK_eq] at h
      split at h
      · rename_i β hβ
        have same : putL T (tmpOf y) (.bool β) = T := by
          cases y with
          | tmp t => simp only [opd, Option.some.injEq] at hβ; exact set_same hβ
          | _ => rfl
        rcases bif_some h with ⟨rfl, h⟩ | ⟨rfl, h⟩
        · rw [same] at h
          obtain ⟨x, T', S', h1, h2⟩ := ih _ _ _ _ _ _ h
          exact ⟨x, T', S', by simp only [evCode, hβ, cond_true, h1], h2⟩
        · rw [same] at h
          obtain ⟨x, T', S', h1, h2⟩ := ih _ _ _ _ _ _ h
          exact ⟨x, T', S', by simp only [evCode, hβ, cond_false, h1], h2⟩
      · cases h
    | block id b =>
      simp only [evCodeB] at h
      obtain ⟨x, T1, S1, h1, h2⟩ := ih _ _ _ _ _ _ h
      cases x with
      | normal => exact ⟨_, T1, S1, by simp only [evCode, h1], h2⟩
      | ret => exact ⟨_, T1, S1, by simp only [evCode, h1], h2⟩
      | exit id' =>
        simp only at h2
        split at h2
        · rename_i he
          have he' : id' = id := by simpa using he
          exact ⟨_, T1, S1, by simp only [evCode, h1, he', if_true], h2⟩
        · rename_i he
          have he' : ¬ id' = id := fun e => by subst e; simp at he
          exact ⟨_, T1, S1, by simp only [evCode, h1, he', if_false], h2⟩
    | loop b =>
      simp only [evCodeB] at h
      obtain ⟨x, T1, S1, h1, h2⟩ := ih _ _ _ _ _ _ h
      cases x with
      | normal =>
        obtain ⟨y, T', S', h3, h4⟩ := ih _ _ _ _ _ _ h2
        exact ⟨y, T', S', by simp only [evCode, h1, h3], h4⟩
      | exit id => exact ⟨_, T1, S1, by simp only [evCode, h1], h2⟩
      | ret => exact ⟨_, T1, S1, by simp only [evCode, h1], h2⟩
    | region id ops draw =>
      cases draw with
      | false =>
        simp only [evCodeB] at h
        obtain ⟨T', S', h1, h2⟩ := evOpsK_ok hc hd _ _ _ _ _ h
        exact ⟨_, T', S', by simp only [evCode, h1], h2⟩
      | true =>
        simp only [evCodeB] at h
        obtain ⟨T', S', h1, h2⟩ := evDrawK_ok hc hd h
        exact ⟨_, T', S', by simp only [evCode, h1], h2⟩
    | rangeFunc g params assign bd =>
      simp only [evCodeB] at h
      cases ro with
      | true => cases h
      | false =>
        obtain ⟨x, T', S', h1, h2⟩ := rangeK_ok (ihn false) h
        exact ⟨x, T', S', by simp only [evCode, h1], h2⟩
    | _ => cases h
theorem evCodeK_ok {orc : Orc} {Sg : List Blk} (n : Nat) : RecK (evCode P (orcOf orc) Sg n false) (evCodeK (α := α) P orc Sg n) := evCodeB_ok n false

/-- What has been evaluated apart from all else is what the call does in every world in which the package-level variables hold what was assumed. -/
theorem runK_calls {orc : Orc} {Sg : List Blk} (hsg : SgOk Sg) (horc : OrcOk P Sg (orcOf orc)) {n : Nat} {f : FuncId} {args : List Value} {v : Value}
    (h : runK P orc Sg n f args = some v) (hargs : args.all plain = true) {w : World} (inv : Inv Sg (baseRen Sg.length) Sg w) :
    Calls P f args.toArray w fun e w' => e = .returned v ∧ Below w.heap.size w w' := by
  obtain ⟨u, S', h1, h2⟩ := callInK_ok (P := P) (evCodeK_ok n) _ _ _ _ _ _ h
  split at h2
  · rename_i hp
    cases h2
    exact run_calls hsg horc (n := n) (by simp only [run, h1, hp, if_true]) hargs inv
  · cases h2
end
end
end Go.Proofs.XX.Vm
/- A small evaluator over a shadow heap, part 23: what a piece of code comes to, without its fuel; loops by a measure. -/
namespace Go.Proofs.XX.Vm
open Go Go.RowKit

section
variable {P : Program} {α : Type} {orc : Orc} {Sg : List Blk}

abbrev Kont (α : Type) := Ex → List Value → List Blk → Option α

/-- With fuel enough the code comes to an end that meets Q, whatever is done then. -/
def Ev (P : Program) (orc : Orc) (Sg : List Blk) (α : Type) (fl : Nat) (c : Code) (T : List Value) (S : List Blk) (Q : Ex → List Value → List Blk → Prop) : Prop :=
  ∃ n x T' S', Q x T' S' ∧ ∀ m, n ≤ m → ∀ k : Kont α, evCodeK P orc Sg m fl c T S k = k x T' S'

theorem Ev.mono {fl : Nat} {c : Code} {T : List Value} {S : List Blk} {Q R : Ex → List Value → List Blk → Prop} (h : Ev P orc Sg α fl c T S Q) (hq : ∀ x T' S', Q x T' S' → R x T' S') : Ev P orc Sg α fl c T S R := by
  obtain ⟨n, x, T', S', q, e⟩ := h
  exact ⟨n, x, T', S', hq _ _ _ q, e⟩

/-- Straight on. -/
theorem Ev.of_eq {fl : Nat} {c : Code} {T T' : List Value} {S S' : List Blk} {x : Ex} {Q : Ex → List Value → List Blk → Prop} (d : Nat)
    (h : ∀ m (k : Kont α), evCodeK P orc Sg (m + d) fl c T S k = k x T' S') (q : Q x T' S') : Ev P orc Sg α fl c T S Q := by
  refine ⟨d, x, T', S', q, fun m hm k => ?_⟩
  have := h (m - d) k
  rwa [Nat.sub_add_cancel hm] at this

theorem Ev.seq {fl : Nat} {a b : Code} {T : List Value} {S : List Blk} {Q : Ex → List Value → List Blk → Prop}
    (h : Ev P orc Sg α fl a T S fun x T' S' => match x with
      | .normal => Ev P orc Sg α fl b T' S' Q
      | .exit id => Q (.exit id) T' S'
      | .ret => Q .ret T' S') : Ev P orc Sg α fl (.seq a b) T S Q := by
  obtain ⟨n, x, T', S', q, e⟩ := h
  cases x with
  | normal =>
    obtain ⟨n2, x2, T2, S2, q2, e2⟩ := q
    refine ⟨max n n2 + 1, x2, T2, S2, q2, fun m hm k => ?_⟩
    obtain ⟨m', rfl⟩ : ∃ m', m = m' + 1 := ⟨m - 1, by omega⟩
    show evCodeK P orc Sg m' fl a T S _ = _
    rw [e m' (by omega)]
    exact e2 m' (by omega) k
  | exit id =>
    refine ⟨n + 1, _, T', S', q, fun m hm k => ?_⟩
    obtain ⟨m', rfl⟩ : ∃ m', m = m' + 1 := ⟨m - 1, by omega⟩
    show evCodeK P orc Sg m' fl a T S _ = _
    rw [e m' (by omega)]
  | ret =>
    refine ⟨n + 1, _, T', S', q, fun m hm k => ?_⟩
    obtain ⟨m', rfl⟩ : ∃ m', m = m' + 1 := ⟨m - 1, by omega⟩
    show evCodeK P orc Sg m' fl a T S _ = _
    rw [e m' (by omega)]

theorem Ev.block {fl : Nat} {b : Code} {id : Nat} {T : List Value} {S : List Blk} {Q : Ex → List Value → List Blk → Prop}
    (h : Ev P orc Sg α fl b T S fun x T' S' => match x with
      | .normal => Q .normal T' S'
      | .exit id' => Q (bif Nat.beq id' id then .normal else .exit id') T' S'
      | .ret => Q .ret T' S') : Ev P orc Sg α fl (.block id b) T S Q := by
  obtain ⟨n, x, T', S', q, e⟩ := h
  cases x with
  | normal =>
    refine ⟨n + 1, _, T', S', q, fun m hm k => ?_⟩
    obtain ⟨m', rfl⟩ : ∃ m', m = m' + 1 := ⟨m - 1, by omega⟩
    show evCodeK P orc Sg m' fl b T S _ = _
    rw [e m' (by omega)]
  | exit id' =>
    refine ⟨n + 1, _, T', S', q, fun m hm k => ?_⟩
    obtain ⟨m', rfl⟩ : ∃ m', m = m' + 1 := ⟨m - 1, by omega⟩
    show evCodeK P orc Sg m' fl b T S _ = _
    rw [e m' (by omega)]
    simp only
    cases Nat.beq id' id <;> rfl
  | ret =>
    refine ⟨n + 1, _, T', S', q, fun m hm k => ?_⟩
    obtain ⟨m', rfl⟩ : ∃ m', m = m' + 1 := ⟨m - 1, by omega⟩
    show evCodeK P orc Sg m' fl b T S _ = _
    rw [e m' (by omega)]

theorem Ev.scope {fl : Nat} {b : Code} {T : List Value} {S : List Blk} {Q : Ex → List Value → List Blk → Prop} (h : Ev P orc Sg α fl b T S Q) : Ev P orc Sg α fl (.scope b) T S Q := by
  obtain ⟨n, x, T', S', q, e⟩ := h
  refine ⟨n + 1, _, T', S', q, fun m hm k => ?_⟩
  obtain ⟨m', rfl⟩ : ∃ m', m = m' + 1 := ⟨m - 1, by omega⟩
  exact e m' (by omega) k

/-- A loop: I is kept, and the measure falls. -/
theorem Ev.loop {fl : Nat} {b : Code} (I : Nat → List Value → List Blk → Prop) {Q : Ex → List Value → List Blk → Prop}
    (h : ∀ m T S, I m T S → Ev P orc Sg α fl b T S fun x T' S' => match x with
      | .normal => ∃ m', m' < m ∧ I m' T' S'
      | .exit id => Q (.exit id) T' S'
      | .ret => Q .ret T' S') : ∀ m T S, I m T S → Ev P orc Sg α fl (.loop b) T S Q := by
  intro m
  induction m using Nat.strongRecOn with
  | ind m ih =>
    intro T S hI
    obtain ⟨n, x, T', S', q, e⟩ := h m T S hI
    cases x with
    | normal =>
      obtain ⟨m', hm', hI'⟩ := q
      obtain ⟨n2, x2, T2, S2, q2, e2⟩ := ih m' hm' T' S' hI'
      refine ⟨max n n2 + 1, x2, T2, S2, q2, fun m hm k => ?_⟩
      obtain ⟨m', rfl⟩ : ∃ m', m = m' + 1 := ⟨m - 1, by omega⟩
      show evCodeK P orc Sg m' fl b T S _ = _
      rw [e m' (by omega)]
      exact e2 m' (by omega) k
    | exit id =>
      refine ⟨n + 1, _, T', S', q, fun m hm k => ?_⟩
      obtain ⟨m', rfl⟩ : ∃ m', m = m' + 1 := ⟨m - 1, by omega⟩
      show evCodeK P orc Sg m' fl b T S _ = _
      rw [e m' (by omega)]
    | ret =>
      refine ⟨n + 1, _, T', S', q, fun m hm k => ?_⟩
      obtain ⟨m', rfl⟩ : ∃ m', m = m' + 1 := ⟨m - 1, by omega⟩
      show evCodeK P orc Sg m' fl b T S _ = _
      rw [e m' (by omega)]

/-- A whole call of plain numbers. -/
def EvF (P : Program) (orc : Orc) (Sg : List Blk) (f : FuncId) (args : List Value) (v : Value) : Prop :=
  ∃ n, ∀ m, n ≤ m → runK P orc Sg m f args = some v

theorem EvF.of_eq {f : FuncId} {args : List Value} {v : Value} (d : Nat) (h : ∀ m, runK P orc Sg (m + d) f args = some v) : EvF P orc Sg f args v := by
  refine ⟨d, fun m hm => ?_⟩
  have := h (m - d)
  rwa [Nat.sub_add_cancel hm] at this

/-- A function's body. -/
noncomputable def bodyOf (P : Program) (f : FuncId) : Code := match P.funcs[f]? with
  | some fn => match fn.body with
    | some c => c
    | none => .skip
  | none => .skip
noncomputable def tmps0Of (P : Program) (f : FuncId) (args : List Value) : List Value := match P.funcs[f]? with
  | some fn => args ++ List.replicate (fn.ntmps - args.length) undef
  | none => []
noncomputable def outOf (P : Program) (f : FuncId) (T : List Value) (S : List Blk) : Option Value := match P.funcs[f]? with
  | some fn => match fn.body with
    | some _ => match resVals P T S fn.results.toList with
      | some vs => some (oneVal vs)
      | none => none
    | none => none
  | none => none

theorem EvF.of_body {f : FuncId} {args : List Value} {v : Value} (hv : plain v = true)
    (h : Ev P orc Sg Value Sg.length (bodyOf P f) (tmps0Of P f args) Sg fun x T' S' => (match x with | .exit _ => False | _ => True) ∧ outOf P f T' S' = some v) : EvF P orc Sg f args v := by
  obtain ⟨n, x, T', S', ⟨hx, ho⟩, e⟩ := h
  refine ⟨n, fun m hm => ?_⟩
  unfold runK callInK
  unfold outOf at ho
  cases hf : P.funcs[f]? with
  | none => rw [hf] at ho; cases ho
  | some fn =>
    rw [hf] at ho
    simp only at ho ⊢
    cases hb : fn.body with
    | none => rw [hb] at ho; cases ho
    | some c =>
      rw [hb] at ho
      simp only at ho
      have e' := e m hm
      unfold bodyOf tmps0Of at e'
      rw [hf] at e'
      simp only [hb] at e'
      simp only [appG_eq, padR_eq, lenR_eq]
      rw [e']
      cases hr : resVals P T' S' fn.results.toList with
      | none => rw [hr] at ho; cases ho
      | some vs =>
        rw [hr] at ho
        cases ho
        cases x with
        | exit id => exact hx.elim
        | normal => simp only [hv, if_true]
        | ret => simp only [hv, if_true]
/-- What a call that was evaluated does in the world. -/
theorem EvF.calls (hsg : SgOk Sg) (horc : OrcOk P Sg (orcOf orc)) {f : FuncId} {args : List Value} {v : Value} (h : EvF P orc Sg f args v) (hargs : args.all plain = true) {w : World} (inv : Inv Sg (baseRen Sg.length) Sg w) :
    Calls P f args.toArray w fun e w' => e = .returned v ∧ Below w.heap.size w w' := by
  obtain ⟨n, e⟩ := h
  exact runK_calls hsg horc (e n (Nat.le_refl _)) hargs inv
end
end Go.Proofs.XX.Vm
/- A small evaluator over a shadow heap, part 24: a body as a list of pieces, each with a fuel of its own. -/
namespace Go.Proofs.XX.Vm
open Go Go.RowKit

noncomputable section
variable {P : Program} {α : Type} {orc : Orc} {Sg : List Blk}

def flatC : Code → List Code
  | .seq a b => flatC a ++ flatC b
  | c => [c]
def depthC : Code → Nat
  | .seq a b => max (depthC a) (depthC b) + 1
  | _ => 0
/-- Piece by piece; the i-th with 60 and fs i rounds of fuel. -/
def evP (P : Program) (orc : Orc) (Sg : List Blk) (fl : Nat) (fs : Nat → Nat) : Nat → List Code → List Value → List Blk → Kont α → Option α
  | _, [], T, S, k => k .normal T S
  | i, c :: l, T, S, k => evCodeK P orc Sg (fs i + 60) fl c T S fun x T' S' => match x with
      | .normal => evP P orc Sg fl fs (i + 1) l T' S' k
      | .exit id => k (.exit id) T' S'
      | .ret => k .ret T' S'
theorem evP_congr {fl : Nat} {fs gs : Nat → Nat} {i j : Nat} {l : List Code} (h : ∀ n, n < l.length → fs (i + n) = gs (j + n)) : ∀ (T : List Value) (S : List Blk) (k : Kont α), evP P orc Sg fl fs i l T S k = evP P orc Sg fl gs j l T S k := by
  induction l generalizing i j with
  | nil => intro T S k; rfl
  | cons c l ih =>
    intro T S k
    have h0 := h 0 (by simp)
    simp only [Nat.add_zero] at h0
    simp only [evP, h0]
    congr 1
    funext x T' S'
    cases x with
    | normal =>
      refine ih (fun n hn => ?_) _ _ _
      have := h (n + 1) (by simp; omega)
      rw [show i + (n + 1) = i + 1 + n by omega, show j + (n + 1) = j + 1 + n by omega] at this
      exact this
    | exit id => rfl
    | ret => rfl
theorem evP_append {fl : Nat} {fs : Nat → Nat} {l m : List Code} : ∀ (i : Nat) (T : List Value) (S : List Blk) (k : Kont α), evP P orc Sg fl fs i (l ++ m) T S k = evP P orc Sg fl fs i l T S fun x T' S' => match x with
      | .normal => evP P orc Sg fl fs (i + l.length) m T' S' k
      | .exit id => k (.exit id) T' S'
      | .ret => k .ret T' S' := by
  induction l with
  | nil => intro i T S k; simp [evP]
  | cons c l ih =>
    intro i T S k
    simp only [List.cons_append, evP]
    congr 1
    funext x T' S'
    cases x with
    | normal =>
      simp only [ih]
      congr 1
      funext x T2 S2
      cases x with
      | normal => simp only [List.length_cons, show i + 1 + l.length = i + (l.length + 1) by omega]
      | exit id => rfl
      | ret => rfl
    | exit id => rfl
    | ret => rfl
theorem evCodeK_flat {fl : Nat} : ∀ (c : Code) (m : Nat), depthC c + 60 ≤ m → ∃ fs : Nat → Nat, (∀ i, m ≤ fs i + depthC c + 60) ∧ ∀ (T : List Value) (S : List Blk) (k : Kont α), evCodeK P orc Sg m fl c T S k = evP P orc Sg fl fs 0 (flatC c) T S k := by
  have one : ∀ (c : Code) (m : Nat), flatC c = [c] → 60 ≤ m → ∃ fs : Nat → Nat, (∀ i, m ≤ fs i + depthC c + 60) ∧ ∀ (T : List Value) (S : List Blk) (k : Kont α), evCodeK P orc Sg m fl c T S k = evP P orc Sg fl fs 0 (flatC c) T S k := by
    intro c m hc hm
    refine ⟨fun _ => m - 60, fun i => by show m ≤ m - 60 + depthC c + 60; omega, fun T S k => ?_⟩
    rw [hc]
    simp only [evP, Nat.sub_add_cancel hm]
    congr 1
    funext x T' S'
    cases x <;> rfl
  intro c
  induction c with
  | seq a b iha ihb =>
    intro m hm
    simp only [depthC] at hm ⊢
    obtain ⟨m', rfl⟩ : ∃ m', m = m' + 1 := ⟨m - 1, by omega⟩
    obtain ⟨fa, ha, ea⟩ := iha m' (by omega)
    obtain ⟨fb, hb, eb⟩ := ihb m' (by omega)
    refine ⟨fun i => if i < (flatC a).length then fa i else fb (i - (flatC a).length), fun i => ?_, fun T S k => ?_⟩
    · simp only
      split
      · have := ha i; omega
      · have := hb (i - (flatC a).length); omega
    · show evCodeK P orc Sg m' fl a T S _ = _
      rw [ea]
      simp only [flatC, evP_append]
      rw [evP_congr (gs := fun i => if i < (flatC a).length then fa i else fb (i - (flatC a).length)) (j := 0) (fun n hn => by simp [hn])]
      congr 1
      funext x T' S'
      cases x with
      | normal =>
        show evCodeK P orc Sg m' fl b T' S' k = evP P orc Sg fl _ (0 + (flatC a).length) (flatC b) T' S' k
        rw [eb]
        refine evP_congr (fun n hn => ?_) _ _ _
        simp; omega
      | exit id => rfl
      | ret => rfl
  | _ => intro m hm; exact one _ m rfl (by simpa [depthC] using hm)

/-- The pieces come to an end that meets Q. -/
def EvP (P : Program) (orc : Orc) (Sg : List Blk) (α : Type) (fl : Nat) (i : Nat) (l : List Code) (T : List Value) (S : List Blk) (Q : Ex → List Value → List Blk → Prop) : Prop :=
  ∃ n x T' S', Q x T' S' ∧ ∀ fs : Nat → Nat, (∀ i, n ≤ fs i) → ∀ k : Kont α, evP P orc Sg fl fs i l T S k = k x T' S'
theorem Ev.of_pieces {fl : Nat} {c : Code} {T : List Value} {S : List Blk} {Q : Ex → List Value → List Blk → Prop} (h : EvP P orc Sg α fl 0 (flatC c) T S Q) : Ev P orc Sg α fl c T S Q := by
  obtain ⟨n, x, T', S', q, e⟩ := h
  refine ⟨n + depthC c + 60, x, T', S', q, fun m hm k => ?_⟩
  obtain ⟨fs, h1, h2⟩ := evCodeK_flat (P := P) (α := α) (orc := orc) (Sg := Sg) (fl := fl) c m (by omega)
  rw [h2]
  exact e fs (fun i => by have := h1 i; omega) k
theorem EvP.nil {fl i : Nat} {T : List Value} {S : List Blk} {Q : Ex → List Value → List Blk → Prop} (h : Q .normal T S) : EvP P orc Sg α fl i [] T S Q :=
  ⟨0, _, _, _, h, fun _ _ _ => rfl⟩
/-- The first piece by a theorem of its own. -/
theorem EvP.step {fl i : Nat} {c : Code} {l : List Code} {T : List Value} {S : List Blk} {Q : Ex → List Value → List Blk → Prop}
    (h : Ev P orc Sg α fl c T S fun x T' S' => match x with
      | .normal => EvP P orc Sg α fl (i + 1) l T' S' Q
      | .exit id => Q (.exit id) T' S'
      | .ret => Q .ret T' S') : EvP P orc Sg α fl i (c :: l) T S Q := by
  obtain ⟨n, x, T', S', q, e⟩ := h
  cases x with
  | normal =>
    obtain ⟨n2, x2, T2, S2, q2, e2⟩ := q
    refine ⟨max n n2, x2, T2, S2, q2, fun fs hfs k => ?_⟩
    simp only [evP]
    rw [e _ (by have := hfs i; omega)]
    exact e2 fs (fun i => by have := hfs i; omega) k
  | exit id =>
    refine ⟨n, _, T', S', q, fun fs hfs k => ?_⟩
    simp only [evP]
    rw [e _ (by have := hfs i; omega)]
  | ret =>
    refine ⟨n, _, T', S', q, fun fs hfs k => ?_⟩
    simp only [evP]
    rw [e _ (by have := hfs i; omega)]
/-- Some pieces by an equation for whatever follows. -/
theorem EvP.run {fl i j : Nat} {l l' : List Code} {T T' : List Value} {S S' : List Blk} {Q : Ex → List Value → List Blk → Prop}
    (e : ∀ (fs : Nat → Nat) (k : Kont α), evP P orc Sg fl fs i l T S k = evP P orc Sg fl fs j l' T' S' k) (h : EvP P orc Sg α fl j l' T' S' Q) : EvP P orc Sg α fl i l T S Q := by
  obtain ⟨n, x, T2, S2, q, e2⟩ := h
  exact ⟨n, x, T2, S2, q, fun fs hfs k => (e fs k).trans (e2 fs hfs k)⟩
theorem EvP.stop {fl i : Nat} {l : List Code} {T T' : List Value} {S S' : List Blk} {x : Ex} {Q : Ex → List Value → List Blk → Prop}
    (e : ∀ (fs : Nat → Nat) (k : Kont α), evP P orc Sg fl fs i l T S k = k x T' S') (h : Q x T' S') : EvP P orc Sg α fl i l T S Q :=
  ⟨0, x, T', S', h, fun fs _ k => e fs k⟩
/-- The pieces of a function's body. -/
def pcs (P : Program) (f : FuncId) : List Code := flatC (bodyOf P f)
def nthC (l : List Code) (i : Nat) : Code := match getR l i with
  | some c => c
  | none => .skip
/-- The loops of a piece, in the order of the text. -/
def loopsOf : Code → List Code
  | .loop b => b :: loopsOf b
  | .seq a b => loopsOf a ++ loopsOf b
  | .cond _ a b => loopsOf a ++ loopsOf b
  | .block _ b => loopsOf b
  | .scope b => loopsOf b
  | _ => []
def loopOf (P : Program) (f i : Nat) : Code := nthC (loopsOf (bodyOf P f)) i
end
end Go.Proofs.XX.Vm
/- A small evaluator over a shadow heap, part 25: what was evaluated in a small heap of its own holds in every heap in which the same blocks lie, wherever they lie there. -/
namespace Go.Proofs.XX.Vm
open Go Go.RowKit

/-- Blocks renamed: in what a closure has captured. -/
def renA (σ : Nat → Nat) : Value → Value
  | .pointer (some ⟨b, o, s⟩) => .pointer (some ⟨σ b, o, s⟩)
  | .slice (some ⟨b, o, s⟩) n c => .slice (some ⟨σ b, o, s⟩) n c
  | .map (some b) => .map (some (σ b))
  | v => v
/-- Blocks renamed: in one cell's value, in a struct's or an array's, in several results. -/
def renS (σ : Nat → Nat) : Value → Value
  | .pointer (some ⟨b, o, s⟩) => .pointer (some ⟨σ b, o, s⟩)
  | .slice (some ⟨b, o, s⟩) n c => .slice (some ⟨σ b, o, s⟩) n c
  | .map (some b) => .map (some (σ b))
  | .func (.func f) x c => .func (.func f) ⟨x.toList.map (renA σ)⟩ ⟨c.toList.map (renA σ)⟩
  | v => v
def ren2 (σ : Nat → Nat) : Value → Value
  | .agg x => .agg (x.map (renS σ))
  | v => renS σ v
def ren3 (σ : Nat → Nat) : Value → Value
  | .tuple x => .tuple (x.map (ren2 σ))
  | v => ren2 σ v
/-- Values in which renS, ren2, ren3 reach all blocks. -/
def shA (n : Nat) : Value → Bool
  | .agg _ | .tuple _ => false
  | .pointer (some ⟨b, _, _⟩) => Nat.blt b n
  | .slice (some ⟨b, _, _⟩) _ _ => Nat.blt b n
  | .map (some b) => Nat.blt b n
  | .func (.func _) x c => x.toList.isEmpty && c.toList.isEmpty
  | .func _ _ _ => false
  | _ => true
def sh1 (n : Nat) : Value → Bool
  | .agg _ | .tuple _ => false
  | .pointer (some ⟨b, _, _⟩) => Nat.blt b n
  | .slice (some ⟨b, _, _⟩) _ _ => Nat.blt b n
  | .map (some b) => Nat.blt b n
  | .func (.func _) x c => x.toList.all (shA n) && c.toList.all (shA n)
  | .func _ _ _ => false
  | _ => true
def sh2 (n : Nat) : Value → Bool
  | .agg x => x.toList.all (sh1 n)
  | v => sh1 n v
def sh3 (n : Nat) : Value → Bool
  | .tuple x => x.toList.all (sh2 n)
  | v => sh2 n v

section
variable {φ ψ : Ren} {σ : Nat → Nat} {n : Nat}
theorem shA_to (hψ : ∀ i r, i < n → φ i = some r → ψ (σ i) = some r ∧ ψ.cap r = φ.cap r) {v v' : Value} (h : shA n v = true) (r : VRel φ v v') : VRel ψ (renA σ v) v' := by
  cases r
  case bool b => exact .bool b
  case int k n => exact .int k n
  case string s => exact .string s
  case nilPtr => exact .nilPtr
  case ptr hb => exact .ptr (hψ _ _ (by simpa [shA, Nat.blt_eq] using h) hb).1
  case nilSlice n c => exact .nilSlice n c
  case slice hb hc hn hk => exact .slice (hψ _ _ (by simpa [shA, Nat.blt_eq] using h) hb).1 hc hn (by unfold CapOk at *; rw [(hψ _ _ (by simpa [shA, Nat.blt_eq] using h) hb).2]; exact hk)
  case empty a a' c hc => exact .empty _ _ _ hc
  case nilMap => exact .nilMap
  case junk => exact .junk _
  case map hb => exact .map (hψ _ _ (by simpa [shA, Nat.blt_eq] using h) hb).1
  case nilFunc => exact .nilFunc
  case yield hl => simp [shA] at h
  case func f x x' c c' hx ex hc ec =>
    simp [shA] at h
    obtain ⟨rfl, rfl⟩ := h
    have e1 : x' = #[] := Array.eq_empty_of_size_eq_zero (by simpa using hx.symm)
    have e2 : c' = #[] := Array.eq_empty_of_size_eq_zero (by simpa using hc.symm)
    subst e1 e2
    exact .func f rfl (by simp) rfl (by simp)
  case agg => simp [shA] at h
  case tuple => simp [shA] at h
theorem shA_from (hψ : ∀ i r, i < n → ψ (σ i) = some r → φ i = some r ∧ φ.cap r = ψ.cap r) {v v' : Value} (h : shA n v = true) (r : VRel ψ (renA σ v) v') : VRel φ v v' := by
  cases v
  case bool b => cases r; exact .bool b
  case int k n => cases r; exact .int k n
  case string s => cases r; exact .string s
  case pointer a =>
    cases a with
    | none => cases r; exact .nilPtr
    | some a => obtain ⟨b, o, s⟩ := a; cases r with | ptr hb => exact .ptr (hψ _ _ (by simpa [shA, Nat.blt_eq] using h) hb).1
  case slice a n c =>
    cases a with
    | none => cases r; exact .nilSlice n c
    | some a => obtain ⟨b, o, s⟩ := a; cases r with
      | slice hb hc hn hk => exact .slice (hψ _ _ (by simpa [shA, Nat.blt_eq] using h) hb).1 hc hn (by unfold CapOk at *; rw [(hψ _ _ (by simpa [shA, Nat.blt_eq] using h) hb).2]; exact hk)
      | empty a1 a2 c1 hc => exact .empty _ _ _ hc
  case map a =>
    cases a with
    | none => cases r; exact .nilMap
    | some b => cases r with | map hb => exact .map (hψ _ _ (by simpa [shA, Nat.blt_eq] using h) hb).1
  case nilFunc => cases r; exact .nilFunc
  case func f x c =>
    cases f
    case func f =>
      simp [shA] at h
      obtain ⟨rfl, rfl⟩ := h
      cases r with
      | func f hx ex hc ec =>
        rename_i x' c'
        have e1 : x' = #[] := Array.eq_empty_of_size_eq_zero (by simpa using hx.symm)
        have e2 : c' = #[] := Array.eq_empty_of_size_eq_zero (by simpa using hc.symm)
        subst e1 e2
        exact .func f rfl (by simp) rfl (by simp)
    all_goals simp [shA] at h
  case agg => simp [shA] at h
  case tuple => simp [shA] at h
  case chan a => simp only [renA] at r; cases r; exact .junk _
  all_goals (simp only [renA] at r; cases r)
theorem shL_to (p : Value → Bool) (f : Value → Value) (hp : ∀ v v', p v = true → VRel φ v v' → VRel ψ (f v) v') : ∀ {l l' : List Value}, l.all p = true → LRel φ l l' → LRel ψ (l.map f) l'
  | [], [], _, _ => LRel.nil _
  | v :: l, v' :: l', h, r => by
    simp only [List.all_cons, Bool.and_eq_true] at h
    exact LRel.cons (hp _ _ h.1 r.head) (shL_to p f hp h.2 r.tail)
  | [], _ :: _, _, r => by simp [LRel] at r
  | _ :: _, [], _, r => by simp [LRel] at r
theorem shL_from (p : Value → Bool) (f : Value → Value) (hp : ∀ v v', p v = true → VRel ψ (f v) v' → VRel φ v v') : ∀ {l l' : List Value}, l.all p = true → LRel ψ (l.map f) l' → LRel φ l l'
  | [], [], _, _ => LRel.nil _
  | v :: l, v' :: l', h, r => by
    simp only [List.all_cons, Bool.and_eq_true] at h
    exact LRel.cons (hp _ _ h.1 r.head) (shL_from p f hp h.2 r.tail)
  | [], _ :: _, _, r => by simp [LRel] at r
  | _ :: _, [], _, r => by simp [LRel] at r
theorem sh1_to (hψ : ∀ i r, i < n → φ i = some r → ψ (σ i) = some r ∧ ψ.cap r = φ.cap r) {v v' : Value} (h : sh1 n v = true) (r : VRel φ v v') : VRel ψ (renS σ v) v' := by
  cases r
  case bool b => exact .bool b
  case int k n => exact .int k n
  case string s => exact .string s
  case nilPtr => exact .nilPtr
  case ptr hb => exact .ptr (hψ _ _ (by simpa [sh1, Nat.blt_eq] using h) hb).1
  case nilSlice n c => exact .nilSlice n c
  case slice hb hc hn hk => exact .slice (hψ _ _ (by simpa [sh1, Nat.blt_eq] using h) hb).1 hc hn (by unfold CapOk at *; rw [(hψ _ _ (by simpa [sh1, Nat.blt_eq] using h) hb).2]; exact hk)
  case empty a a' c hc => exact .empty _ _ _ hc
  case nilMap => exact .nilMap
  case junk => exact .junk _
  case map hb => exact .map (hψ _ _ (by simpa [sh1, Nat.blt_eq] using h) hb).1
  case nilFunc => exact .nilFunc
  case yield hl => simp [sh1] at h
  case func f x x' c c' hx ex hc ec =>
    simp only [sh1, Bool.and_eq_true] at h
    have h1 := shL_to (φ := φ) (ψ := ψ) (shA n) (renA σ) (fun _ _ => shA_to (n := n) hψ) h.1 ⟨hx, ex⟩
    have h2 := shL_to (φ := φ) (ψ := ψ) (shA n) (renA σ) (fun _ _ => shA_to (n := n) hψ) h.2 ⟨hc, ec⟩
    exact .func f h1.1 h1.2 h2.1 h2.2
  case agg => simp [sh1] at h
  case tuple => simp [sh1] at h
theorem sh1_from (hψ : ∀ i r, i < n → ψ (σ i) = some r → φ i = some r ∧ φ.cap r = ψ.cap r) {v v' : Value} (h : sh1 n v = true) (r : VRel ψ (renS σ v) v') : VRel φ v v' := by
  cases v
  case bool b => cases r; exact .bool b
  case int k n => cases r; exact .int k n
  case string s => cases r; exact .string s
  case pointer a =>
    cases a with
    | none => cases r; exact .nilPtr
    | some a => obtain ⟨b, o, s⟩ := a; cases r with | ptr hb => exact .ptr (hψ _ _ (by simpa [sh1, Nat.blt_eq] using h) hb).1
  case slice a n c =>
    cases a with
    | none => cases r; exact .nilSlice n c
    | some a => obtain ⟨b, o, s⟩ := a; cases r with
      | slice hb hc hn hk => exact .slice (hψ _ _ (by simpa [sh1, Nat.blt_eq] using h) hb).1 hc hn (by unfold CapOk at *; rw [(hψ _ _ (by simpa [sh1, Nat.blt_eq] using h) hb).2]; exact hk)
      | empty a1 a2 c1 hc => exact .empty _ _ _ hc
  case map a =>
    cases a with
    | none => cases r; exact .nilMap
    | some b => cases r with | map hb => exact .map (hψ _ _ (by simpa [sh1, Nat.blt_eq] using h) hb).1
  case nilFunc => cases r; exact .nilFunc
  case func f x c =>
    cases f
    case func f =>
      simp only [sh1, Bool.and_eq_true] at h
      simp only [renS] at r
      cases r with
      | func f hx ex hc ec =>
        have h1 := shL_from (φ := φ) (ψ := ψ) (shA n) (renA σ) (fun _ _ => shA_from (n := n) hψ) h.1 ⟨hx, ex⟩
        have h2 := shL_from (φ := φ) (ψ := ψ) (shA n) (renA σ) (fun _ _ => shA_from (n := n) hψ) h.2 ⟨hc, ec⟩
        exact .func f h1.1 h1.2 h2.1 h2.2
    all_goals simp [sh1] at h
  case agg => simp [sh1] at h
  case tuple => simp [sh1] at h
  case chan a => simp only [renS] at r; cases r; exact .junk _
  all_goals (simp only [renS] at r; cases r)
theorem ren2_of {v : Value} (h : ∀ x, v ≠ .agg x) : ren2 σ v = renS σ v := by
  unfold ren2; split
  · exact absurd rfl (h _)
  · rfl
theorem ren3_of {v : Value} (h : ∀ x, v ≠ .tuple x) : ren3 σ v = ren2 σ v := by
  unfold ren3; split
  · exact absurd rfl (h _)
  · rfl
theorem sh2_of {v : Value} (h : ∀ x, v ≠ .agg x) : sh2 n v = sh1 n v := by
  unfold sh2; split
  · exact absurd rfl (h _)
  · rfl
theorem sh3_of {v : Value} (h : ∀ x, v ≠ .tuple x) : sh3 n v = sh2 n v := by
  unfold sh3; split
  · exact absurd rfl (h _)
  · rfl
theorem sh2_to (hψ : ∀ i r, i < n → φ i = some r → ψ (σ i) = some r ∧ ψ.cap r = φ.cap r) {v v' : Value} (h : sh2 n v = true) (r : VRel φ v v') : VRel ψ (ren2 σ v) v' := by
  by_cases ha : ∃ x, v = .agg x
  · obtain ⟨x, rfl⟩ := ha
    cases r with
    | agg hx ex =>
      have := shL_to (φ := φ) (ψ := ψ) (sh1 n) (renS σ) (fun _ _ => sh1_to (n := n) hψ) (l := x.toList) (by simpa [sh2] using h) ⟨hx, ex⟩
      exact .agg (by simpa using this.1) (by simpa using this.2)
  · have hn : ∀ x, v ≠ .agg x := fun x e => ha ⟨x, e⟩
    rw [ren2_of hn]; rw [sh2_of hn] at h
    exact sh1_to (n := n) hψ h r
theorem sh2_from (hψ : ∀ i r, i < n → ψ (σ i) = some r → φ i = some r ∧ φ.cap r = ψ.cap r) {v v' : Value} (h : sh2 n v = true) (r : VRel ψ (ren2 σ v) v') : VRel φ v v' := by
  by_cases ha : ∃ x, v = .agg x
  · obtain ⟨x, rfl⟩ := ha
    simp only [ren2] at r
    cases r with
    | agg hx ex =>
      rw [show (x.map (renS σ)).toList = x.toList.map (renS σ) by simp] at hx ex
      have := shL_from (φ := φ) (ψ := ψ) (sh1 n) (renS σ) (fun _ _ => sh1_from (n := n) hψ) (l := x.toList) (by simpa [sh2] using h) ⟨hx, ex⟩
      exact .agg (by simpa using this.1) (by simpa using this.2)
  · have hn : ∀ x, v ≠ .agg x := fun x e => ha ⟨x, e⟩
    rw [ren2_of hn] at r; rw [sh2_of hn] at h
    exact sh1_from (n := n) hψ h r
theorem sh3_to (hψ : ∀ i r, i < n → φ i = some r → ψ (σ i) = some r ∧ ψ.cap r = φ.cap r) {v v' : Value} (h : sh3 n v = true) (r : VRel φ v v') : VRel ψ (ren3 σ v) v' := by
  by_cases ha : ∃ x, v = .tuple x
  · obtain ⟨x, rfl⟩ := ha
    cases r with
    | tuple hx ex =>
      have := shL_to (φ := φ) (ψ := ψ) (sh2 n) (ren2 σ) (fun _ _ => sh2_to hψ) (l := x.toList) (by simpa [sh3] using h) ⟨hx, ex⟩
      exact .tuple (by simpa using this.1) (by simpa using this.2)
  · have hn : ∀ x, v ≠ .tuple x := fun x e => ha ⟨x, e⟩
    rw [ren3_of hn]; rw [sh3_of hn] at h
    exact sh2_to hψ h r
end

/-- A block, renamed; loops over functions apart. -/
def renB (σ : Nat → Nat) (k : Blk) : Blk := ⟨k.cells.map (renS σ), k.elem, k.ro, k.obj⟩
def shB (n : Nat) (k : Blk) : Bool := k.cells.all (sh1 n) && (match k.obj with
  | some (.loop _) => false
  | _ => true)
theorem shB_to {φ ψ : Ren} {σ : Nat → Nat} {n : Nat} (hψ : ∀ i r, i < n → φ i = some r → ψ (σ i) = some r ∧ ψ.cap r = φ.cap r) {k : Blk} {o : Obj} (h : shB n k = true) (r : BRel φ k o) : BRel ψ (renB σ k) o := by
  obtain ⟨cs, e, ro, ob⟩ := k
  simp only [shB, Bool.and_eq_true] at h
  obtain ⟨h1, h2⟩ := h
  cases ob with
  | none =>
    obtain ⟨c', fz, e1, e2, e3⟩ := r
    exact ⟨c', fz, e1, by
      show LRel ψ (cs.map (renS σ)) (c'.toList.take (cs.map (renS σ)).length)
      rw [List.length_map]
      exact shL_to (φ := φ) (ψ := ψ) (sh1 n) (renS σ) (fun _ _ => sh1_to (n := n) hψ) h1 e2, e3.1, fun h => by rw [e3.2 h]; simp [renB]⟩
  | some b =>
    cases b with
    | loop l => cases h2
    | map es c => exact r
    | iter s p => exact r
    | ints kd lo L => exact r
    | buf kd sz L => exact r
    | dead => exact r
theorem shB_from {φ ψ : Ren} {σ : Nat → Nat} {n : Nat} (hψ : ∀ i r, i < n → ψ (σ i) = some r → φ i = some r ∧ φ.cap r = ψ.cap r) {k : Blk} {o : Obj} (h : shB n k = true) (r : BRel ψ (renB σ k) o) : BRel φ k o := by
  obtain ⟨cs, e, ro, ob⟩ := k
  simp only [shB, Bool.and_eq_true] at h
  obtain ⟨h1, h2⟩ := h
  cases ob with
  | none =>
    obtain ⟨c', fz, e1, e2, e3⟩ := r
    exact ⟨c', fz, e1, shL_from (φ := φ) (ψ := ψ) (sh1 n) (renS σ) (fun _ _ => sh1_from (n := n) hψ) h1 (by simpa [renB] using e2), e3.1, fun h => by rw [e3.2 h]; simp [renB]⟩
  | some b =>
    cases b with
    | loop l => cases h2
    | map es c => exact r
    | iter s p => exact r
    | ints kd lo L => exact r
    | buf kd sz L => exact r
    | dead => exact r

/-- What is known of a call in a heap. -/
def CallAt (P : Program) (Sg : List Blk) (fl : Nat) (f : FuncId) (args : List Value) (S : List Blk) (v : Value) (S' : List Blk) : Prop :=
  Ext fl S S' ∧ ∀ (φ : Ren) (w : World) (args' : List Value), Inv Sg φ S w → LRel φ args args' → Fresh φ S.length S'.length →
    Calls P f args'.toArray w fun e w' => ∃ v' ψ, e = .returned v' ∧ VRel ψ v v' ∧ Good ψ S' w' ∧ Step fl φ S w ψ S' w'

/-- Where the blocks of the small heap lie, and what has become of them. -/
structure Lies (Sg : List Blk) (fl0 fl : Nat) (σ : Nat → Nat) (S0 S0' S S' : List Blk) : Prop where
  glob : ∀ g, g < Sg.length → σ g = g
  base : ∀ g, g < Sg.length → S0[g]? = Sg[g]?
  new : ∀ j, σ (S0.length + j) = S.length + j
  low : ∀ i, i < S0.length → σ i < S.length
  inj : ∀ i j, i < S0.length → j < S0.length → σ i = σ j → i = j
  flr : ∀ i, fl0 ≤ i → i < S0.length → fl ≤ σ i
  gfl : Sg.length ≤ fl0
  glen : Sg.length ≤ S0.length
  fle : fl0 ≤ S0.length
  gren : ∀ (g : Nat) (k : Blk), Sg[g]? = some k → renB σ k = k
  pre : ∀ (i : Nat) (k : Blk), Sg.length ≤ i → S0[i]? = some k → S[σ i]? = some (renB σ k)
  sh : ∀ (i : Nat) k, S0[i]? = some k → shB S0.length k = true
  sh' : ∀ (i : Nat) k, S0'[i]? = some k → shB S0'.length k = true
  len : S0.length ≤ S0'.length
  len' : S'.length = S.length + (S0'.length - S0.length)
  post : ∀ (i : Nat) (k : Blk), fl0 ≤ i → S0'[i]? = some k → S'[σ i]? = some (renB σ k)
  keep : ∀ b, b < S.length → (∀ i, fl0 ≤ i → i < S0.length → σ i ≠ b) → S'[b]? = S[b]?

theorem room_from {φ ψ : Ren} {σ : Nat → Nat} {r : Nat} {k : Blk} {w : World} (h : Room φ r (renB σ k) w) (hc : ψ.cap r = φ.cap r) : Room ψ r k w := Room.ext (φ := φ) (k := k) h hc rfl
theorem room_to {φ ψ : Ren} {σ : Nat → Nat} {r : Nat} {k : Blk} {w : World} (h : Room φ r k w) (hc : ψ.cap r = φ.cap r) : Room ψ r (renB σ k) w := Room.ext (φ := φ) (k := renB σ k) h hc rfl
theorem callAt_of {P : Program} {Sg : List Blk} {fl0 fl : Nat} {σ : Nat → Nat} {S0 S0' S S' : List Blk} {f : FuncId} {args0 : List Value} {v0 : Value}
    (h : CallAt P Sg fl0 f args0 S0 v0 S0') (L : Lies Sg fl0 fl σ S0 S0' S S') (hargs : args0.all (sh2 S0.length) = true) (hv : sh3 S0'.length v0 = true) :
    CallAt P Sg fl f (args0.map (ren2 σ)) S (ren3 σ v0) S' := by
  obtain ⟨hx, hc⟩ := h
  have hlen' := L.len'
  have hlen := L.len
  refine ⟨⟨by omega, fun b h1 h2 => L.keep b h2 fun i e1 e2 e3 => by have := L.flr i e1 e2; omega⟩, ?_⟩
  intro φ w args' inv hr hf
  let φ0 : Ren := ⟨fun i => if i < S0.length then φ (σ i) else none, φ.cap⟩
  have hφ0 : ∀ i r, φ0 i = some r → i < S0.length ∧ φ (σ i) = some r := by
    intro i r hi
    by_cases hl : i < S0.length
    · simp only [φ0, hl, if_true] at hi; exact ⟨hl, hi⟩
    · simp only [φ0, hl, if_false] at hi; cases hi
  have hback : ∀ i r, i < S0.length → φ (σ i) = some r → φ0 i = some r ∧ φ0.cap r = φ.cap r := fun i r hi e => by refine ⟨?_, rfl⟩; simp only [φ0, hi, if_true]; exact e
  have hpre : ∀ (b : Nat) (k : Blk), S0[b]? = some k → S[σ b]? = some (renB σ k) := by
    intro b k hb
    by_cases hg : b < Sg.length
    · rw [L.glob b hg, inv.base b hg]
      rw [L.base b hg] at hb
      rw [L.gren b k hb]; exact hb
    · exact L.pre b k (by omega) hb
  have hdS : ∀ i, Dead S (σ i) → Dead S0 i := fun i d k hk => by have := d _ (hpre i k hk); exact this
  have good0 : Good φ0 S0 w := by
    refine ⟨fun b k r hb hr => ?_, fun b r hb => inv.ok.good.low _ _ (hφ0 b r hb).2, fun b c r hb hc => ?_, inv.ok.good.zero, fun b k r hb hr => room_from (inv.ok.good.room _ _ r (hpre b k hb) (hφ0 b r hr).2) rfl⟩
    · obtain ⟨hl, hr'⟩ := hφ0 b r hr
      obtain ⟨o, h1, h2⟩ := inv.ok.good.blk _ _ r (hpre b k hb) hr'
      exact ⟨o, h1, shB_from hback (L.sh b k hb) h2⟩
    · obtain ⟨hl, h1⟩ := hφ0 b r hb
      obtain ⟨hl2, h2⟩ := hφ0 c r hc
      rcases inv.ok.good.inj _ _ r h1 h2 with e | d | d
      · exact .inl (L.inj b c hl hl2 e)
      · exact .inr (.inl (hdS b d))
      · exact .inr (.inr (hdS c d))
  have inv0 : Inv Sg φ0 S0 w := by
    refine ⟨⟨good0, fun g hg => ?_⟩, L.base, L.glen⟩
    have h1 := L.glen
    exact (hback g g (by omega) (by rw [L.glob g hg]; exact inv.ok.glob g hg)).1
  have hargs0 : LRel φ0 args0 args' := shL_from (sh2 S0.length) (ren2 σ) (fun _ _ => sh2_from hback) hargs hr
  have hfresh0 : Fresh φ0 S0.length S0'.length := fun b h1 _ => by simp only [φ0, show ¬ b < S0.length by omega, if_false]
  refine Calls.mono (hc φ0 w args' inv0 hargs0 hfresh0) ?_
  rintro e w' ⟨v', ψ0, rfl, hv', good', st⟩
  let ψ : Ren := ⟨fun b => if S.length ≤ b ∧ b < S'.length then ψ0 (b - S.length + S0.length) else φ b, ψ0.cap⟩
  have hto : ∀ i r, i < S0'.length → ψ0 i = some r → ψ (σ i) = some r ∧ ψ.cap r = ψ0.cap r := by
    intro i r hi hr
    refine ⟨?_, rfl⟩
    by_cases hl : i < S0.length
    · have h1 := L.low i hl
      have h2 : ¬ (S.length ≤ σ i ∧ σ i < S'.length) := by omega
      simp only [ψ, h2, if_false]
      rcases st.dom i r hr with h3 | ⟨h3, _, _⟩
      · exact (hφ0 i r h3).2
      · omega
    · obtain ⟨j, rfl⟩ : ∃ j, i = S0.length + j := ⟨i - S0.length, by omega⟩
      have h2 : S.length ≤ S.length + j ∧ S.length + j < S'.length := by omega
      rw [L.new j]
      simp only [ψ, h2, and_self, if_true]
      rw [show S.length + j - S.length + S0.length = S0.length + j by omega]
      exact hr
  have hcaps : ∀ r, r < w.heap.size → ψ.cap r = φ.cap r := fun r hr => st.caps r hr
  have hext : RExt φ ψ := by
    refine ⟨fun b r hb => ?_, fun b r hb => hcaps r (inv.ok.good.low b r hb)⟩
    by_cases h2 : S.length ≤ b ∧ b < S'.length
    · rw [hf b h2.1 h2.2] at hb; cases hb
    · simp only [ψ, h2, if_false]; exact hb
  have hdS' : ∀ i, fl0 ≤ i → i < S0'.length → Dead S0' i → Dead S' (σ i) := by
    intro i e1 e2 d k hk
    have := L.post i _ e1 (List.getElem?_eq_getElem e2)
    rw [this] at hk
    cases hk
    have := d _ (List.getElem?_eq_getElem e2)
    exact this
  have hdead : ∀ b, b < S.length → Dead S b → Dead S' b := by
    intro b hb d
    by_cases hin : ∃ i, fl0 ≤ i ∧ i < S0.length ∧ σ i = b
    · obtain ⟨i, g1, g2, rfl⟩ := hin
      exact hdS' i g1 (by omega) (st.dead i g2 (hdS i d))
    · intro k hk
      rw [L.keep b hb fun i e1 e2 e3 => hin ⟨i, e1, e2, e3⟩] at hk
      exact d k hk
  -- what a block of the renaming behind stands for
  have hcase : ∀ b r, ψ b = some r → (φ b = some r ∧ ¬ (S.length ≤ b ∧ b < S'.length)) ∨ (∃ j, b = S.length + j ∧ S0.length + j < S0'.length ∧ ψ0 (S0.length + j) = some r ∧ (w.heap.size ≤ r ∨ ∃ c, fl0 ≤ c ∧ c < S0.length ∧ φ (σ c) = some r ∧ ¬ Dead S (σ c) ∧ Dead S' (σ c))) := by
    intro b r hb
    by_cases h2 : S.length ≤ b ∧ b < S'.length
    · simp only [ψ, h2, and_self, if_true] at hb
      refine .inr ⟨b - S.length, by omega, by omega, by rw [show S0.length + (b - S.length) = b - S.length + S0.length by omega]; exact hb, ?_⟩
      rcases st.dom _ r hb with h3 | ⟨_, _, h3 | ⟨c, c1, c2, c3, c4, c5⟩⟩
      · have := (hφ0 _ r h3).1; omega
      · exact .inl h3
      · exact .inr ⟨c, c1, c2, (hφ0 c r c3).2, fun d => c4 (hdS c d), hdS' c c1 (by omega) c5⟩
    · simp only [ψ, h2, if_false] at hb
      exact .inl ⟨hb, h2⟩
  -- an old block that the call doesn't know
  have hapart : ∀ b r, φ b = some r → ¬ Dead S b → (∀ i, fl0 ≤ i → i < S0.length → σ i ≠ b) → w'.heap[r]? = w.heap[r]? := by
    intro b r h1 hl hno
    refine st.frame r (inv.ok.good.low b r h1) fun i e1 e2 e3 e4 => ?_
    rcases inv.ok.good.inj _ _ r (hφ0 i r e4).2 h1 with e | d | d
    · exact hno i e1 e2 e
    · exact e3 (hdS i d)
    · exact hl d
  have hgood : Good ψ S' w' := by
    refine ⟨fun b k r hb hr => ?_, fun b r hb => ?_, fun b c r hb hc => ?_, good'.zero, fun b k r hb hr => ?_⟩
    · rcases hcase b r hr with ⟨h1, h2⟩ | ⟨j, rfl, h2, h3, _⟩
      · by_cases hin : ∃ i, fl0 ≤ i ∧ i < S0.length ∧ σ i = b
        · obtain ⟨i, g1, g2, rfl⟩ := hin
          have hi : i < S0'.length := by omega
          have hk := L.post i _ g1 (List.getElem?_eq_getElem hi)
          rw [hk] at hb
          cases hb
          obtain ⟨o, o1, o2⟩ := good'.blk i _ r (List.getElem?_eq_getElem hi) (st.ext i r (hback i r g2 h1).1)
          exact ⟨o, o1, shB_to hto (L.sh' i _ (List.getElem?_eq_getElem hi)) o2⟩
        · have hno : ∀ i, fl0 ≤ i → i < S0.length → σ i ≠ b := fun i e1 e2 e3 => hin ⟨i, e1, e2, e3⟩
          have hbl : b < S.length := by
            have h5 := (List.getElem?_eq_some_iff.1 hb).1
            omega
          rw [L.keep b hbl hno] at hb
          by_cases hd : Dead S b
          · have hlow := Nat.lt_of_lt_of_le (inv.ok.good.low b r h1) st.size
            exact ⟨_, Array.getElem?_eq_getElem hlow, by unfold BRel; rw [hd k hb]; trivial⟩
          · obtain ⟨o, o1, o2⟩ := inv.ok.good.blk b k r hb h1
            exact ⟨o, by rw [hapart b r h1 hd hno]; exact o1, o2.mono hext⟩
      · have hk := L.post _ _ (by have := L.fle; omega) (List.getElem?_eq_getElem h2)
        rw [L.new j] at hk
        rw [hk] at hb
        cases hb
        obtain ⟨o, o1, o2⟩ := good'.blk _ _ r (List.getElem?_eq_getElem h2) h3
        exact ⟨o, o1, shB_to hto (L.sh' _ _ (List.getElem?_eq_getElem h2)) o2⟩
    · rcases hcase b r hb with ⟨h1, _⟩ | ⟨j, _, _, h3, _⟩
      · exact Nat.lt_of_lt_of_le (inv.ok.good.low b r h1) st.size
      · exact good'.low _ r h3
    · have up : ∀ x, φ x = some r → ¬ (S.length ≤ x ∧ x < S'.length) → Dead S x → Dead S' x := by
        intro x _ hx d
        by_cases hl : x < S.length
        · exact hdead x hl d
        · intro k hk
          have := (List.getElem?_eq_some_iff.1 hk).1
          omega
      have mixed : ∀ x, φ x = some r → ¬ (S.length ≤ x ∧ x < S'.length) → (w.heap.size ≤ r ∨ ∃ c, fl0 ≤ c ∧ c < S0.length ∧ φ (σ c) = some r ∧ ¬ Dead S (σ c) ∧ Dead S' (σ c)) → Dead S' x := by
        intro x h1 hx h2
        rcases h2 with h2 | ⟨d, _, _, d3, d4, d5⟩
        · have := inv.ok.good.low x r h1; omega
        · rcases inv.ok.good.inj _ _ r d3 h1 with e | e | e
          · rw [← e]; exact d5
          · exact absurd e d4
          · exact up x h1 hx e
      have down : ∀ j, S0.length + j < S0'.length → Dead S0' (S0.length + j) → Dead S' (S.length + j) := by
        intro j hj d
        have := hdS' _ (by have := L.fle; omega) hj d
        rwa [L.new j] at this
      rcases hcase b r hb with ⟨h1, h2⟩ | ⟨j, rfl, h2, h3, h4⟩ <;> rcases hcase c r hc with ⟨k1, k2⟩ | ⟨m, rfl, k2, k3, k4⟩
      · exact (inv.ok.good.inj b c r h1 k1).imp id fun d => d.imp (up b h1 h2) (up c k1 k2)
      · exact .inr (.inl (mixed b h1 h2 k4))
      · exact .inr (.inr (mixed c k1 k2 h4))
      · rcases good'.inj _ _ r h3 k3 with e | d | d
        · exact .inl (by omega)
        · exact .inr (.inl (down j h2 d))
        · exact .inr (.inr (down m k2 d))
    · rcases hcase b r hr with ⟨h1, h2⟩ | ⟨j, rfl, h2, h3, _⟩
      · by_cases hin : ∃ i, fl0 ≤ i ∧ i < S0.length ∧ σ i = b
        · obtain ⟨i, g1, g2, rfl⟩ := hin
          have hi : i < S0'.length := by omega
          have hk := L.post i _ g1 (List.getElem?_eq_getElem hi)
          rw [hk] at hb
          cases hb
          exact room_to (good'.room i _ r (List.getElem?_eq_getElem hi) (st.ext i r (hback i r g2 h1).1)) rfl
        · have hno : ∀ i, fl0 ≤ i → i < S0.length → σ i ≠ b := fun i e1 e2 e3 => hin ⟨i, e1, e2, e3⟩
          have hbl : b < S.length := by
            have h5 := (List.getElem?_eq_some_iff.1 hb).1
            omega
          rw [L.keep b hbl hno] at hb
          by_cases hd : Dead S b
          · unfold Room; rw [hd k hb]; trivial
          · exact (inv.ok.good.room b k r hb h1).ext (hcaps r (inv.ok.good.low b r h1)) (hapart b r h1 hd hno)
      · have hk := L.post _ _ (by have := L.fle; omega) (List.getElem?_eq_getElem h2)
        rw [L.new j] at hk
        rw [hk] at hb
        cases hb
        exact room_to (good'.room _ _ r (List.getElem?_eq_getElem h2) h3) rfl
  refine ⟨v', ψ, rfl, sh3_to hto hv hv', hgood, ⟨hext, hcaps, fun b r hb => ?_, by omega, hdead, fun b h1 h2 => L.keep b h2 fun i e1 e2 e3 => by have := L.flr i e1 e2; omega, fun r h1 h2 => ?_, st.size, st.os, st.tape, st.output⟩⟩
  · rcases hcase b r hb with ⟨h1, _⟩ | ⟨j, rfl, h2, _, h4⟩
    · exact .inl h1
    · exact .inr ⟨by omega, by omega, h4.imp id fun ⟨c, c1, c2, c3, c4, c5⟩ => ⟨σ c, L.flr c c1 c2, L.low c c2, c3, c4, c5⟩⟩
  · exact st.frame r h1 fun i e1 e2 e3 e4 => h2 (σ i) (L.flr i e1 e2) (L.low i e2) (fun d => e3 (hdS i d)) (hφ0 i r e4).2
/-- Two blocks, of which the first may be written. -/
def sig2 (g b c n : Nat) (i : Nat) : Nat := if i < g then i else if i = g then b else if i = g + 1 then c else n + (i - (g + 2))
theorem scalar_ren {σ : Nat → Nat} {v : Value} (h : scalar v = true) : renS σ v = v := by
  cases v
  case pointer a => cases a <;> simp [scalar] at h ⊢; rfl
  case slice a n c => cases a <;> simp [scalar] at h ⊢; rfl
  case map a => cases a <;> simp [scalar] at h ⊢; rfl
  case func fn x c =>
    cases fn
    case func f =>
      simp only [scalar, Bool.and_eq_true, List.isEmpty_iff, Array.toList_eq_nil_iff] at h
      obtain ⟨rfl, rfl⟩ := h
      rfl
    all_goals rfl
  all_goals rfl
theorem scalar_sh {v : Value} (h : scalar v = true) (n : Nat) : sh1 n v = true := by
  cases v
  case pointer a => cases a with
    | none => rfl
    | some a => simp [scalar] at h
  case slice a n c => cases a with
    | none => rfl
    | some a => simp [scalar] at h
  case map a => cases a with
    | none => rfl
    | some a => simp [scalar] at h
  case func fn x c =>
    cases fn
    case func f =>
      simp only [scalar, Bool.and_eq_true, List.isEmpty_iff, Array.toList_eq_nil_iff] at h
      obtain ⟨rfl, rfl⟩ := h
      rfl
    all_goals simp [scalar] at h
  case agg => simp [scalar] at h
  case tuple => simp [scalar] at h
  all_goals rfl
theorem callAt2 {P : Program} {Sg : List Blk} (hsg : SgOk Sg) {fl b c : Nat} {S : List Blk} {k1 k2 k1' : Blk} {f : FuncId} {args0 : List Value} {v0 : Value}
    (h : CallAt P Sg Sg.length f args0 (Sg ++ [k1, k2]) v0 (Sg ++ [k1', k2]))
    (hb : S[b]? = some (renB (sig2 Sg.length b c S.length) k1)) (hc : S[c]? = some (renB (sig2 Sg.length b c S.length) k2)) (hbc : b ≠ c) (hgb : Sg.length ≤ b) (hgc : Sg.length ≤ c) (hfb : fl ≤ b) (hfc : fl ≤ c)
    (hargs : args0.all (sh2 (Sg.length + 2)) = true) (hv : sh3 (Sg.length + 2) v0 = true) (s1 : shB (Sg.length + 2) k1 = true) (s2 : shB (Sg.length + 2) k2 = true) (s3 : shB (Sg.length + 2) k1' = true) :
    CallAt P Sg fl f (args0.map (ren2 (sig2 Sg.length b c S.length))) S (ren3 (sig2 Sg.length b c S.length) v0) (S.set b (renB (sig2 Sg.length b c S.length) k1')) := by
  have hbl : b < S.length := (List.getElem?_eq_some_iff.1 hb).1
  have hcl : c < S.length := (List.getElem?_eq_some_iff.1 hc).1
  have sgk : ∀ (g : Nat) k, Sg[g]? = some k → k.cells.all scalar = true ∧ k.obj = none := by
    intro g k hk
    have := (List.all_eq_true.1 hsg) k (List.mem_of_getElem? hk)
    simpa using this
  have sg : sig2 Sg.length b c S.length Sg.length = b := by simp [sig2]
  have sg1 : sig2 Sg.length b c S.length (Sg.length + 1) = c := by
    simp only [sig2]
    rw [if_neg (by omega), if_neg (by omega)]; simp
  have l0 : ∀ k : Blk, (Sg ++ [k, k2]).length = Sg.length + 2 := by intro k; simp
  have at0 : ∀ (k : Blk) (i : Nat) (y : Blk), (Sg ++ [k, k2])[i]? = some y → (i < Sg.length ∧ Sg[i]? = some y) ∨ (i = Sg.length ∧ y = k) ∨ (i = Sg.length + 1 ∧ y = k2) := by
    intro k i y hy
    by_cases h1 : i < Sg.length
    · rw [List.getElem?_append_left h1] at hy; exact .inl ⟨h1, hy⟩
    · rw [List.getElem?_append_right (by omega)] at hy
      have h2 : i - Sg.length = 0 ∨ i - Sg.length = 1 ∨ 2 ≤ i - Sg.length := by omega
      rcases h2 with h2 | h2 | h2
      · rw [h2] at hy; cases hy; exact .inr (.inl ⟨by omega, rfl⟩)
      · rw [h2] at hy; cases hy; exact .inr (.inr ⟨by omega, rfl⟩)
      · rw [List.getElem?_eq_none (by simpa using h2)] at hy; cases hy
  have shg : ∀ (g : Nat) k, Sg[g]? = some k → shB (Sg.length + 2) k = true := by
    intro g k hk
    obtain ⟨e1, e2⟩ := sgk g k hk
    simp only [shB, e2, Bool.and_true, List.all_eq_true] at e1 ⊢
    intro v hv
    exact scalar_sh (e1 v hv) _
  refine callAt_of h ⟨fun g hg => by simp [sig2, hg], fun g hg => by rw [List.getElem?_append_left hg], fun j => ?_, fun i hi => ?_, fun i j hi hj e => ?_, fun i h1 h2 => ?_, Nat.le_refl _, by simp, by simp, fun g k hk => ?_, fun i k h1 hk => ?_, fun i k hk => ?_, fun i k hk => ?_, by simp, by simp, fun i k h1 hk => ?_, fun x hx hno => ?_⟩ (by rw [l0]; exact hargs) (by rw [l0]; exact hv)
  · rw [l0]
    simp only [sig2]
    rw [if_neg (by omega), if_neg (by omega), if_neg (by omega)]
    omega
  · rw [l0] at hi
    simp only [sig2]
    split
    · omega
    · split
      · exact hbl
      · split
        · exact hcl
        · omega
  · rw [l0] at hi hj
    simp only [sig2] at e
    have hi3 : i < Sg.length ∨ i = Sg.length ∨ i = Sg.length + 1 := by omega
    have hj3 : j < Sg.length ∨ j = Sg.length ∨ j = Sg.length + 1 := by omega
    rcases hi3 with h1 | h1 | h1 <;> rcases hj3 with h2 | h2 | h2 <;> simp only [h1, h2, if_true, if_neg (show ¬ Sg.length < Sg.length by omega), if_neg (show ¬ Sg.length + 1 < Sg.length by omega), if_neg (show ¬ Sg.length + 1 = Sg.length by omega)] at e <;> omega
  · rw [l0] at h2
    simp only [sig2]
    rw [if_neg (by omega)]
    split
    · exact hfb
    · split
      · exact hfc
      · omega
  · obtain ⟨e1, e2⟩ := sgk g k hk
    obtain ⟨cs, e, ro, ob⟩ := k
    simp only [renB, Blk.mk.injEq, and_true]
    exact (List.map_congr_left fun v hv => scalar_ren ((List.all_eq_true.1 e1) v hv)).trans (List.map_id' _)
  · rcases at0 k1 i k hk with ⟨h2, _⟩ | ⟨rfl, rfl⟩ | ⟨rfl, rfl⟩
    · omega
    · rw [sg]; exact hb
    · rw [sg1]; exact hc
  · rw [l0]
    rcases at0 k1 i k hk with ⟨h2, h3⟩ | ⟨rfl, rfl⟩ | ⟨rfl, rfl⟩
    · exact shg i k h3
    · exact s1
    · exact s2
  · rw [l0]
    rcases at0 k1' i k hk with ⟨h2, h3⟩ | ⟨rfl, rfl⟩ | ⟨rfl, rfl⟩
    · exact shg i k h3
    · exact s3
    · exact s2
  · rcases at0 k1' i k hk with ⟨h2, _⟩ | ⟨rfl, rfl⟩ | ⟨rfl, rfl⟩
    · omega
    · rw [sg, List.getElem?_set_self hbl]
    · rw [sg1, List.getElem?_set_ne hbc]; exact hc
  · have : b ≠ x := by
      intro e
      exact hno Sg.length (Nat.le_refl _) (by simp) (by rw [sg]; exact e)
    rw [List.getElem?_set_ne this]
/-- One block, which may be written. -/
def sig1 (g b n : Nat) (i : Nat) : Nat := if i < g then i else if i = g then b else n + (i - (g + 1))
theorem callAt1 {P : Program} {Sg : List Blk} (hsg : SgOk Sg) {fl b : Nat} {S : List Blk} {k1 k1' : Blk} {f : FuncId} {args0 : List Value} {v0 : Value}
    (h : CallAt P Sg Sg.length f args0 (Sg ++ [k1]) v0 (Sg ++ [k1']))
    (hb : S[b]? = some (renB (sig1 Sg.length b S.length) k1)) (hgb : Sg.length ≤ b) (hfb : fl ≤ b)
    (hargs : args0.all (sh2 (Sg.length + 1)) = true) (hv : sh3 (Sg.length + 1) v0 = true) (s1 : shB (Sg.length + 1) k1 = true) (s3 : shB (Sg.length + 1) k1' = true) :
    CallAt P Sg fl f (args0.map (ren2 (sig1 Sg.length b S.length))) S (ren3 (sig1 Sg.length b S.length) v0) (S.set b (renB (sig1 Sg.length b S.length) k1')) := by
  have hbl : b < S.length := (List.getElem?_eq_some_iff.1 hb).1
  have sgk : ∀ (g : Nat) k, Sg[g]? = some k → k.cells.all scalar = true ∧ k.obj = none := by
    intro g k hk
    have := (List.all_eq_true.1 hsg) k (List.mem_of_getElem? hk)
    simpa using this
  have sg : sig1 Sg.length b S.length Sg.length = b := by simp [sig1]
  have l0 : ∀ k : Blk, (Sg ++ [k]).length = Sg.length + 1 := by intro k; simp
  have at0 : ∀ (k : Blk) (i : Nat) (y : Blk), (Sg ++ [k])[i]? = some y → (i < Sg.length ∧ Sg[i]? = some y) ∨ (i = Sg.length ∧ y = k) := by
    intro k i y hy
    by_cases h1 : i < Sg.length
    · rw [List.getElem?_append_left h1] at hy; exact .inl ⟨h1, hy⟩
    · rw [List.getElem?_append_right (by omega)] at hy
      have h2 : i - Sg.length = 0 ∨ 1 ≤ i - Sg.length := by omega
      rcases h2 with h2 | h2
      · rw [h2] at hy; cases hy; exact .inr ⟨by omega, rfl⟩
      · rw [List.getElem?_eq_none (by simpa using h2)] at hy; cases hy
  have shg : ∀ (g : Nat) k, Sg[g]? = some k → shB (Sg.length + 1) k = true := by
    intro g k hk
    obtain ⟨e1, e2⟩ := sgk g k hk
    simp only [shB, e2, Bool.and_true, List.all_eq_true] at e1 ⊢
    intro v hv
    exact scalar_sh (e1 v hv) _
  refine callAt_of h ⟨fun g hg => by simp [sig1, hg], fun g hg => by rw [List.getElem?_append_left hg], fun j => ?_, fun i hi => ?_, fun i j hi hj e => ?_, fun i h1 h2 => ?_, Nat.le_refl _, by simp, by simp, fun g k hk => ?_, fun i k h1 hk => ?_, fun i k hk => ?_, fun i k hk => ?_, by simp, by simp, fun i k h1 hk => ?_, fun x hx hno => ?_⟩ (by rw [l0]; exact hargs) (by rw [l0]; exact hv)
  · rw [l0]
    simp only [sig1]
    rw [if_neg (by omega), if_neg (by omega)]
    omega
  · rw [l0] at hi
    simp only [sig1]
    split
    · omega
    · split
      · exact hbl
      · omega
  · rw [l0] at hi hj
    simp only [sig1] at e
    have hi3 : i < Sg.length ∨ i = Sg.length := by omega
    have hj3 : j < Sg.length ∨ j = Sg.length := by omega
    rcases hi3 with h1 | h1 <;> rcases hj3 with h2 | h2 <;> simp only [h1, h2, if_true, if_neg (show ¬ Sg.length < Sg.length by omega)] at e <;> omega
  · rw [l0] at h2
    simp only [sig1]
    rw [if_neg (by omega)]
    split
    · exact hfb
    · omega
  · obtain ⟨e1, e2⟩ := sgk g k hk
    obtain ⟨cs, e, ro, ob⟩ := k
    simp only [renB, Blk.mk.injEq, and_true]
    exact (List.map_congr_left fun v hv => scalar_ren ((List.all_eq_true.1 e1) v hv)).trans (List.map_id' _)
  · rcases at0 k1 i k hk with ⟨h2, _⟩ | ⟨rfl, rfl⟩
    · omega
    · rw [sg]; exact hb
  · rw [l0]
    rcases at0 k1 i k hk with ⟨h2, h3⟩ | ⟨rfl, rfl⟩
    · exact shg i k h3
    · exact s1
  · rw [l0]
    rcases at0 k1' i k hk with ⟨h2, h3⟩ | ⟨rfl, rfl⟩
    · exact shg i k h3
    · exact s3
  · rcases at0 k1' i k hk with ⟨h2, _⟩ | ⟨rfl, rfl⟩
    · omega
    · rw [sg, List.getElem?_set_self hbl]
  · have : b ≠ x := by
      intro e
      exact hno Sg.length (Nat.le_refl _) (by simp) (by rw [sg]; exact e)
    rw [List.getElem?_set_ne this]
theorem renA_id (v : Value) : renA (fun b => b) v = v := by
  cases v
  case pointer a => cases a <;> rfl
  case slice a n c => cases a <;> rfl
  case map a => cases a <;> rfl
  all_goals rfl
theorem renS_id (v : Value) : renS (fun b => b) v = v := by
  cases v
  case pointer a => cases a <;> rfl
  case slice a n c => cases a <;> rfl
  case map a => cases a <;> rfl
  case func fn x c =>
    cases fn
    case func f =>
      have : renA (fun b => b) = id := funext renA_id
      simp [renS, this]
    all_goals rfl
  all_goals rfl
theorem ren2_id (v : Value) : ren2 (fun b => b) v = v := by
  by_cases ha : ∃ x, v = .agg x
  · obtain ⟨x, rfl⟩ := ha
    have : renS (fun b => b) = id := funext renS_id
    simp [ren2, this]
  · rw [ren2_of fun x e => ha ⟨x, e⟩, renS_id]
theorem ren3_id (v : Value) : ren3 (fun b => b) v = v := by
  by_cases ha : ∃ x, v = .tuple x
  · obtain ⟨x, rfl⟩ := ha
    have : ren2 (fun b => b) = id := funext ren2_id
    simp [ren3, this]
  · rw [ren3_of fun x e => ha ⟨x, e⟩, ren2_id]
theorem renB_id (k : Blk) : renB (fun b => b) k = k := by
  obtain ⟨cs, e, ro, ob⟩ := k
  have : renS (fun b => b) = id := funext renS_id
  simp [renB, this]
/-- New blocks that nobody knows of are left out. -/
theorem callAt_drop {P : Program} {Sg : List Blk} {fl : Nat} {f : FuncId} {args : List Value} {S S' N : List Blk} {v : Value} (h : CallAt P Sg fl f args S v (S' ++ N)) (hl : S'.length = S.length)
    (ha : args.all (sh2 S.length) = true) (hv : sh3 S.length v = true) (hs : ∀ (b : Nat) k, S[b]? = some k → shB S.length k = true) (hs' : ∀ (b : Nat) k, S'[b]? = some k → shB S.length k = true) : CallAt P Sg fl f args S v S' := by
  obtain ⟨hx, hc⟩ := h
  have hk : ∀ b, b < S.length → (S' ++ N)[b]? = S'[b]? := fun b hb => List.getElem?_append_left (by omega)
  refine ⟨⟨by omega, fun b h1 h2 => by rw [← hk b h2]; exact hx.2 b h1 h2⟩, ?_⟩
  intro φ w args' inv hr hf
  let φc : Ren := ⟨fun b => if b < S.length then φ b else none, φ.cap⟩
  have hback : ∀ i r, i < S.length → φ i = some r → φc i = some r ∧ φc.cap r = φ.cap r := fun i r hi e => by refine ⟨?_, rfl⟩; simp only [φc, hi, if_true]; exact e
  have hfw : ∀ i r, φc i = some r → φ i = some r := by
    intro i r hi
    by_cases hl : i < S.length
    · simp only [φc, hl, if_true] at hi; exact hi
    · simp only [φc, hl, if_false] at hi; cases hi
  have goodc : Good φc S w := by
    refine ⟨fun b k r hb hr => ?_, fun b r hb => inv.ok.good.low b r (hfw b r hb), fun b c r hb hc => inv.ok.good.inj b c r (hfw b r hb) (hfw c r hc), inv.ok.good.zero, fun b k r hb hr => inv.ok.good.room b k r hb (hfw b r hr)⟩
    obtain ⟨o, h1, h2⟩ := inv.ok.good.blk b k r hb (hfw b r hr)
    exact ⟨o, h1, shB_from (σ := fun b => b) (n := S.length) hback (hs b k hb) (by rw [renB_id]; exact h2)⟩
  have invc : Inv Sg φc S w := ⟨⟨goodc, fun g hg => (hback g g (by have := inv.len; omega) (inv.ok.glob g hg)).1⟩, inv.base, inv.len⟩
  have hargs : LRel φc args args' := by
    have := shL_from (φ := φc) (ψ := φ) (sh2 S.length) (ren2 fun b => b) (fun _ _ => sh2_from (n := S.length) hback) ha (l' := args') (by
      rw [show args.map (ren2 fun b => b) = args from by rw [show (ren2 fun b => b) = id from funext ren2_id]; simp]
      exact hr)
    exact this
  refine Calls.mono (hc φc w args' invc hargs fun b h1 _ => by simp only [φc, show ¬ b < S.length by omega, if_false]) ?_
  rintro e w' ⟨v', ψ0, rfl, hv', good', st⟩
  have hto : ∀ i r, i < S.length → ψ0 i = some r → φ i = some r ∧ φ.cap r = ψ0.cap r := by
    intro i r hi hr
    have key : φ i = some r := by
      rcases st.dom i r hr with h1 | ⟨h1, _, _⟩
      · exact hfw i r h1
      · omega
    exact ⟨key, (st.caps r (inv.ok.good.low i r key)).symm⟩
  have hdd : ∀ b, b < S.length → Dead S b → Dead S' b := fun b hb d => (st.dead b hb d).pre fun k hk' => by rw [hk b hb]; exact hk'
  have hdx : ∀ b r, φ b = some r → Dead S b → Dead S' b := fun b r _ d => by
    by_cases hb : b < S.length
    · exact hdd b hb d
    · intro k hk'
      have := (List.getElem?_eq_some_iff.1 hk').1
      omega
  have hv2 : VRel φ v v' := by
    have := sh3_to (σ := fun b => b) hto hv hv'
    rwa [ren3_id] at this
  refine ⟨v', φ, rfl, hv2, ⟨fun b k r hb hr => ?_, fun b r hb => Nat.lt_of_lt_of_le (inv.ok.good.low b r hb) st.size, fun b c r hb hc => (inv.ok.good.inj b c r hb hc).imp id fun d => d.imp (hdx b r hb) (hdx c r hc), fun r hr => inv.ok.good.zero r (Nat.le_trans st.size hr), fun b k r hb hr => ?_⟩, ⟨RExt.refl φ, fun _ _ => rfl, fun _ _ e => .inl e, by omega, hdd, fun b h1 h2 => by rw [← hk b h2]; exact st.keep b h1 h2, fun r h1 h2 => st.frame r h1 fun b e1 e2 e3 e4 => h2 b e1 e2 e3 (hfw b r e4), st.size, st.os, st.tape, st.output⟩⟩
  · have hbl : b < S.length := by rw [← hl]; exact (List.getElem?_eq_some_iff.1 hb).1
    obtain ⟨o, o1, o2⟩ := good'.blk b k r (by rw [hk b hbl]; exact hb) (st.ext b r (hback b r hbl hr).1)
    refine ⟨o, o1, ?_⟩
    have := shB_to (σ := fun b => b) hto (hs' b k hb) o2
    rwa [renB_id] at this
  · have hbl : b < S.length := by rw [← hl]; exact (List.getElem?_eq_some_iff.1 hb).1
    exact (good'.room b k r (by rw [hk b hbl]; exact hb) (st.ext b r (hback b r hbl hr).1)).ext (st.caps r (inv.ok.good.low b r hr)).symm rfl
end Go.Proofs.XX.Vm
/- A small evaluator over a shadow heap, part 26: calls in a heap, without their fuel; ranges over functions; rounds one by one. -/
namespace Go.Proofs.XX.Vm
open Go Go.RowKit

section
variable {P : Program} {α : Type} {orc : Orc} {Sg : List Blk}

/-- With fuel enough a call in a heap comes to what meets Q. -/
def EvM (P : Program) (orc : Orc) (Sg : List Blk) (α : Type) (fl : Nat) (f : FuncId) (args : List Value) (S : List Blk) (Q : Value → List Blk → Prop) : Prop :=
  ∃ n v S', Q v S' ∧ ∀ m, n ≤ m → ∀ k : Value → List Blk → Option α, callInK P (evCodeK P orc Sg m) fl f args S k = k v S'
theorem EvM.of_eq {fl : Nat} {f : FuncId} {args : List Value} {S S' : List Blk} {v : Value} {Q : Value → List Blk → Prop} (d : Nat)
    (h : ∀ m (k : Value → List Blk → Option α), callInK P (evCodeK P orc Sg (m + d)) fl f args S k = k v S') (q : Q v S') : EvM P orc Sg α fl f args S Q := by
  refine ⟨d, v, S', q, fun m hm k => ?_⟩
  have := h (m - d) k
  rwa [Nat.sub_add_cancel hm] at this
theorem EvM.mono {fl : Nat} {f : FuncId} {args : List Value} {S : List Blk} {Q R : Value → List Blk → Prop} (h : EvM P orc Sg α fl f args S Q) (hq : ∀ v S', Q v S' → R v S') : EvM P orc Sg α fl f args S R := by
  obtain ⟨n, v, S', q, e⟩ := h
  exact ⟨n, v, S', hq _ _ q, e⟩
theorem EvM.of_body {fl : Nat} {f : FuncId} {args : List Value} {S : List Blk} {Q : Value → List Blk → Prop}
    (h : Ev P orc Sg α fl (bodyOf P f) (tmps0Of P f args) S fun x T' S' => (match x with | .exit _ => False | _ => True) ∧ ∃ v, outOf P f T' S' = some v ∧ Q v S') : EvM P orc Sg α fl f args S Q := by
  obtain ⟨n, x, T', S', ⟨hx, v, ho, q⟩, e⟩ := h
  refine ⟨n, v, S', q, fun m hm k => ?_⟩
  unfold callInK
  unfold outOf at ho
  cases hf : P.funcs[f]? with
  | none => rw [hf] at ho; cases ho
  | some fn =>
    rw [hf] at ho
    simp only at ho ⊢
    cases hb : fn.body with
    | none => rw [hb] at ho; cases ho
    | some c =>
      rw [hb] at ho
      simp only at ho
      have e' := e m hm
      unfold bodyOf tmps0Of at e'
      rw [hf] at e'
      simp only [hb] at e'
      simp only [appG_eq, padR_eq, lenR_eq]
      rw [e']
      cases hr : resVals P T' S' fn.results.toList with
      | none => rw [hr] at ho; cases ho
      | some vs =>
        rw [hr] at ho
        cases ho
        cases x with
        | exit id => exact hx.elim
        | normal => rfl
        | ret => rfl
/-- What a call with memory does in the world. -/
theorem EvM.callAt (hsg : SgOk Sg) (horc : OrcOk P Sg (orcOf orc)) {fl : Nat} {f : FuncId} {args : List Value} {S S' : List Blk} {v : Value}
    (h : EvM P orc Sg (Value × List Blk) fl f args S fun u U => u = v ∧ U = S') (hfl : Sg.length ≤ fl) (hS : Sg.length ≤ S.length) : CallAt P Sg fl f args S v S' := by
  obtain ⟨n, u, U, ⟨rfl, rfl⟩, e⟩ := h
  have e1 := e n (Nat.le_refl _) fun v S => some (v, S)
  obtain ⟨v1, S1, h1, h2⟩ := callInK_ok (P := P) (evCodeK_ok (orc := orc) (Sg := Sg) n) _ _ _ _ _ _ e1
  simp only [Option.some.injEq, Prod.mk.injEq] at h2
  obtain ⟨rfl, rfl⟩ := h2
  exact callIn_ok (evCode_ok hsg horc n).1 h1 hfl hS
/-- One round of a loop. -/
theorem Ev.unroll {fl : Nat} {b : Code} {T : List Value} {S : List Blk} {Q : Ex → List Value → List Blk → Prop}
    (h : Ev P orc Sg α fl b T S fun x T' S' => match x with
      | .normal => Ev P orc Sg α fl (.loop b) T' S' Q
      | .exit id => Q (.exit id) T' S'
      | .ret => Q .ret T' S') : Ev P orc Sg α fl (.loop b) T S Q := by
  obtain ⟨n, x, T', S', q, e⟩ := h
  cases x with
  | normal =>
    obtain ⟨n2, x2, T2, S2, q2, e2⟩ := q
    refine ⟨max n n2 + 1, x2, T2, S2, q2, fun m hm k => ?_⟩
    obtain ⟨m', rfl⟩ : ∃ m', m = m' + 1 := ⟨m - 1, by omega⟩
    show evCodeK P orc Sg m' fl b T S _ = _
    rw [e m' (by omega)]
    exact e2 m' (by omega) k
  | exit id =>
    refine ⟨n + 1, _, T', S', q, fun m hm k => ?_⟩
    obtain ⟨m', rfl⟩ : ∃ m', m = m' + 1 := ⟨m - 1, by omega⟩
    show evCodeK P orc Sg m' fl b T S _ = _
    rw [e m' (by omega)]
  | ret =>
    refine ⟨n + 1, _, T', S', q, fun m hm k => ?_⟩
    obtain ⟨m', rfl⟩ : ∃ m', m = m' + 1 := ⟨m - 1, by omega⟩
    show evCodeK P orc Sg m' fl b T S _ = _
    rw [e m' (by omega)]
/-- A range over a function that is gone through to its end. -/
theorem Ev.range {fl : Nat} {f : Operand} {params : Array Tmp} {assign body : Code} {T : List Value} {S : List Blk} {Q : Ex → List Value → List Blk → Prop} {g : Value} {h : FuncId} {args : List Value}
    (hfl : fl ≤ S.length) (hg : opd Sg.length T f = some g) (hc : callee P g [.func (.yield S.length) #[] #[]] = some (.call h args))
    (hin : EvM P orc Sg α fl h args (S ++ [loopBlk ⟨.ready, none, T, params, assign, body⟩]) fun _ S2 => ∃ L : LoopS, loopAt S2 S.length = some L ∧ L.state = .ready ∧ L.pending = none ∧ Q .normal T (S2.set S.length (loopBlk { L with state := .exhausted }))) :
    Ev P orc Sg α fl (.rangeFunc f params assign body) T S Q := by
  obtain ⟨n, v, S2, ⟨L, hL, hst, hp, q⟩, e⟩ := hin
  refine ⟨n + 1, .normal, T, _, q, fun m hm k => ?_⟩
  obtain ⟨m', rfl⟩ : ∃ m', m = m' + 1 := ⟨m - 1, by omega⟩
  show rangeK P Sg.length (evCodeK P orc Sg m') fl f params assign body T S k = _
  unfold rangeK
  simp only [forceK_eq, decide_eq_true hfl, if_true, hg, hc]
  rw [e m' (by omega)]
  simp only [hL, hst, hp]
end
section
variable {P : Program} {α : Type} {orc : Orc} {Sg : List Blk}
/-- A call in a heap, piece by piece. -/
theorem callInK_pieces {fl : Nat} {f : FuncId} {args : List Value} {S : List Blk} {k : Value → List Blk → Option α} (hb : (P.funcs[f]?).bind (·.body) ≠ none) (m : Nat) (hm : depthC (bodyOf P f) + 60 ≤ m) :
    ∃ fs : Nat → Nat, callInK P (evCodeK P orc Sg m) fl f args S k = evP P orc Sg fl fs 0 (pcs P f) (tmps0Of P f args) S fun x T' S' => match x with
      | .exit _ => none
      | _ => match outOf P f T' S' with
        | some v => k v S'
        | none => none := by
  obtain ⟨fs, _, h2⟩ := evCodeK_flat (P := P) (α := α) (orc := orc) (Sg := Sg) (fl := fl) (bodyOf P f) m hm
  refine ⟨fs, ?_⟩
  unfold pcs
  rw [← h2]
  unfold callInK bodyOf tmps0Of outOf
  cases hf : P.funcs[f]? with
  | none => rw [hf] at hb; exact absurd rfl hb
  | some fn =>
    cases hc : fn.body with
    | none => rw [hf] at hb; simp [hc] at hb
    | some c =>
      simp only [hc, appG_eq, padR_eq, lenR_eq]
      congr 1
      funext x T' S'
      cases x <;> simp only <;> cases resVals P T' S' fn.results.toList <;> rfl
/-- What a call whose value alone is known does in the world. -/
theorem callInK_world (hsg : SgOk Sg) (horc : OrcOk P Sg (orcOf orc)) {fl m : Nat} {f : FuncId} {args : List Value} {S : List Blk} {v : Value}
    (h : callInK P (evCodeK P orc Sg m) fl f args S (fun u _ => some u) = some v) (hfl : Sg.length ≤ fl) (hS : Sg.length ≤ S.length) : ∃ S', CallAt P Sg fl f args S v S' := by
  obtain ⟨v1, S1, h1, h2⟩ := callInK_ok (P := P) (evCodeK_ok (orc := orc) (Sg := Sg) m) _ _ _ _ _ _ h
  cases h2
  exact ⟨S1, callIn_ok (evCode_ok hsg horc m).1 h1 hfl hS⟩
end
noncomputable section
/-- The ranges over functions of a piece, in the order of the text. -/
def rangesOf : Code → List (Operand × Array Tmp × Code × Code)
  | .rangeFunc f p a b => (f, p, a, b) :: rangesOf b
  | .loop b => rangesOf b
  | .seq a b => rangesOf a ++ rangesOf b
  | .cond _ a b => rangesOf a ++ rangesOf b
  | .block _ b => rangesOf b
  | .scope b => rangesOf b
  | _ => []
def rangeOf (P : Program) (f i : Nat) : Operand × Array Tmp × Code × Code := match getR (rangesOf (bodyOf P f)) i with
  | some x => x
  | none => (.func 0, #[], .skip, .skip)
end
end Go.Proofs.XX.Vm
