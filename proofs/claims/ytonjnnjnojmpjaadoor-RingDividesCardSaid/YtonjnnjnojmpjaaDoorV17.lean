/- A small evaluator over a shadow heap, part 17: what is evaluated is what the program does. -/
import Derived.Test.YtonjnnjnojmpjaaDoorV16
namespace Go.Proofs.XX.Vm
open Go Go.RowKit

section
variable {P : Program}

/-- A new object that the shadow knows nothing of. -/
theorem good_apart {φ : Ren} {S : List Blk} {w : World} (good : Good φ S w) (fl : Nat) (o : Obj) : Good φ S (w.alloc o) ∧ Step fl φ S w φ S (w.alloc o) :=
  ⟨⟨fun b k r hk hr => by
      obtain ⟨o2, h1, h2⟩ := good.blk b k r hk hr
      exact ⟨o2, by rw [Below.heap_alloc _ _ _ (good.low b r hr)]; exact h1, h2⟩,
    fun b r hr => by have := good.low b r hr; rw [size_new]; omega, good.inj⟩,
   ⟨fun _ _ e => e, fun _ _ e => .inl e, Nat.le_refl _, fun _ _ _ => rfl, fun r hr _ => Below.heap_alloc _ _ _ hr, by rw [size_new]; omega, rfl, rfl, rfl⟩⟩

theorem rangeS_ok {Sg : List Blk} {rec : RecT} (hcode : CodeOk P Sg rec) {fl : Nat} {g : Operand} {params : Array Tmp} {assign body : Code} {T T' : List Value} {S S' : List Blk} {x : Ex}
    (h : rangeS P Sg.length rec fl g params assign body T S = some (x, T', S')) (hfl : Sg.length ≤ fl) (hS : Sg.length ≤ S.length) :
    Ext fl S S' ∧ ∀ (Q : Exit → Act → World → Prop) (φ : Ren) (a : Act) (w : World), Inv Sg φ S w → LRel φ T a.tmps.toList → Fresh φ S.length S'.length → Then fl φ S w a.defers x T' S' Q →
      (Code.rangeFunc g params assign body).wpIn (wideAt none) 0 P Q a w := by
  unfold rangeS at h
  simp only [forceK_eq] at h
  by_cases hflS : fl ≤ S.length
  case neg => simp [hflS] at h
  simp only [hflS, decide_true, if_true] at h
  split at h
  · rename_i gv hg
    split at h
    · rename_i hfn args hcal
      split at h
      · rename_i u S2 hin
        split at h
        · rename_i L hL
          have hx0 : Ext fl S (S ++ [loopBlk ⟨.ready, none, T, params, assign, body⟩]) := Ext.app _ _ _
          obtain ⟨x1, k1⟩ := callIn_ok hcode hin hfl (Nat.le_trans hS hx0.1)
          have hlS2 : S.length < S2.length := by have := x1.1; simp at this; omega
          obtain ⟨pend, hstate, hpend, hres⟩ : ∃ pend, (L.state == .busy) = false ∧ L.pending = pend ∧ S' = S2.set S.length (loopBlk { L with state := .exhausted }) ∧ T = T' ∧
              ((pend = none ∧ x = .normal) ∨ (pend = some .ret ∧ x = .ret) ∨ (∃ id, pend = some (.exit id) ∧ x = .exit id)) := by
            refine ⟨L.pending, ?_⟩
            split at h
            · cases h
            · rename_i hst
              have hst' : (L.state == .busy) = false := by
                cases hs : L.state <;> first | rfl | exact absurd hs hst
              split at h
              · rename_i hp; cases h; exact ⟨hst', rfl, rfl, rfl, .inl ⟨hp, rfl⟩⟩
              · rename_i hp; cases h; exact ⟨hst', rfl, rfl, rfl, .inr (.inl ⟨hp, rfl⟩)⟩
              · rename_i id hp; cases h; exact ⟨hst', rfl, rfl, rfl, .inr (.inr ⟨id, hp, rfl⟩)⟩
              · cases h
          obtain ⟨rfl, rfl, hjump⟩ := hres
          refine ⟨hx0.trans (x1.trans (ext_set hflS _ _)), ?_⟩
          intro Q φ a w inv hT hf hQ
          simp only [List.length_set] at hf
          refine wpIn_rangeFunc fun fn _ => ?_
          -- the block of deferred calls, and the record
          obtain ⟨d1, d2⟩ := good_apart inv.ok.good fl (.deferred (some []))
          let Lo : Loop := { state := .ready, pending := none, fn := fn, tmps := a.tmps, params := params, assign := assign, body := body, defers := w.heap.size }
          have hn : φ S.length = none := hf _ (Nat.le_refl _) hlS2
          obtain ⟨n1, n2⟩ := d1.new fl hn (loopBlk ⟨.ready, none, T, params, assign, body⟩) (.loop Lo) ⟨fn, a.tmps, w.heap.size, rfl, hT⟩
          have hsz1 : (w.alloc (.deferred (some []))).heap.size = w.heap.size + 1 := size_new _ _
          rw [hsz1] at n1 n2
          have hf1 : Fresh φ S.length (S ++ [loopBlk ⟨.ready, none, T, params, assign, body⟩]).length := fun b f1 f2 => hf b f1 (by simp at f2; omega)
          have st1 := d2.trans n2 hf1
          have inv1 := inv.step hfl st1 n1
          have hl1 : newRen φ S.length (w.heap.size + 1) S.length = some (w.heap.size + 1) := newRen_new _ _ _
          have hyl : VRel (newRen φ S.length (w.heap.size + 1)) (.func (.yield S.length) #[] #[]) (.func (.yield (w.heap.size + 1)) #[] #[]) := .yield hl1
          have hgv : VRel (newRen φ S.length (w.heap.size + 1)) gv (a.eval g) := (opd_rel inv.ok hT hg).mono st1.ext
          have hdo : ∃ d args', (Deferred.ofValue (a.eval g) #[.func (.yield (w.heap.size + 1)) #[] #[]]).run P ((w.alloc (.deferred (some []))).alloc (.loop Lo)) = .ok d ((w.alloc (.deferred (some []))).alloc (.loop Lo)) ∧
              (invoke d.target d.args).run P ((w.alloc (.deferred (some []))).alloc (.loop Lo)) = .ok (.enter hfn args'.toArray) ((w.alloc (.deferred (some []))).alloc (.loop Lo)) ∧ LRel (newRen φ S.length (w.heap.size + 1)) args args' := by
            generalize a.eval g = gv' at hgv
            unfold callee at hcal
            split at hcal
            · rename_i g0 xs cs
              cases hgv with
              | func g' hx ex hc ec =>
                rename_i xs' cs'
                split at hcal
                · rename_i fnn hfnn
                  split at hcal
                  · cases hcal
                  · rename_i hname
                    split at hcal
                    · rename_i bd hbd
                      simp only [Option.some.injEq, R.call.injEq] at hcal
                      obtain ⟨rfl, rfl⟩ := hcal
                      have hname' : ¬ fnn.name = "runtime.NumGoroutine" := by simpa using hname
                      refine ⟨{ target := .fn (.func g0) cs', args := xs' ++ #[.func (.yield (w.heap.size + 1)) #[] #[]] }, xs'.toList ++ [.func (.yield (w.heap.size + 1)) #[] #[]] ++ cs'.toList, by simp [Deferred.ofValue], ?_, ((LRel.append (LRel.append ⟨hx, ex⟩ (LRel.cons hyl (LRel.nil _))) ⟨hc, ec⟩))⟩
                      simp [invoke, callFunc, program, Sem.run, hfnn, hname', hbd]
                    · cases hcal
                · cases hcal
            · split at hcal <;> cases hcal
            · cases hcal
          obtain ⟨d, args', hd1, hd2, hd3⟩ := hdo
          refine ⟨w.heap.size + 1, [markOf w.heap.size], ((w.alloc (.deferred (some []))).alloc (.loop Lo)), d, ((w.alloc (.deferred (some []))).alloc (.loop Lo)), hfn, args'.toArray, ((w.alloc (.deferred (some []))).alloc (.loop Lo)), ?_, ?_, (fun _ _ => trivial), hd2, (fun hd => by cases hd), callsIn_wideAt.2 (Calls.mono (k1 _ _ args' inv1 hd3 (st1.fresh hf)) ?_)⟩
          · exact run_enterLoop_outer _ _ _ _ _
          · simpa [resolve, rangeCall, Act.eval] using hd1
          · rintro e w3 ⟨v', ψ, rfl, _, hgood, hstep⟩
            have hl3 : ψ S.length = some (w.heap.size + 1) := hstep.ext _ _ hl1
            obtain ⟨fn3, u3, d3, m3, m4⟩ := loop_heap hgood hL hl3
            obtain ⟨n3, n4⟩ := good_put hgood (M := { L with state := .exhausted }) hL hl3 hflS (fn := fn3) (d := d3) m4
            have hend : (Instr.endLoop (w.heap.size + 1)).run P w3 = .ok L.pending (w3.putObj (w.heap.size + 1) (.loop { state := .exhausted, pending := L.pending, fn := fn3, tmps := u3, params := L.params, assign := L.assign, body := L.body, defers := d3 })) := by
              simp only [Instr.endLoop, Sem.run_bind, run_getLoop m3, Result.andThen_ok, hstate, Bool.false_eq_true, if_false, Sem.run_pure, run_setLoop m3]
            have hsz2 : ((w.alloc (.deferred (some []))).alloc (.loop Lo)).heap.size = w.heap.size + 2 := by rw [size_new, size_new]
            have hnone : ∀ b, newRen φ S.length (w.heap.size + 1) b ≠ some w.heap.size := by
              intro b hb
              unfold newRen at hb
              split at hb
              · have := Option.some.inj hb; omega
              · have := inv.ok.good.low b _ hb; omega
            have hdef1 : ((w.alloc (.deferred (some []))).alloc (.loop Lo)).heap[w.heap.size]? = some (.deferred (some [])) := by
              rw [Below.heap_alloc _ _ _ (by rw [size_new]; omega)]; exact heap_new _ _
            have hdef3 : w3.heap[w.heap.size]? = some (.deferred (some [])) := by
              rw [hstep.frame _ (by rw [hsz2]; omega) fun b _ _ => hnone b]; exact hdef1
            have hrsz : w.heap.size + 1 < w3.heap.size := by have := hstep.size; rw [hsz2] at this; omega
            have hfin : Step fl φ S w ψ (S2.set S.length (loopBlk { L with state := .exhausted })) (w3.putObj (w.heap.size + 1) (.loop { state := .exhausted, pending := L.pending, fn := fn3, tmps := u3, params := L.params, assign := L.assign, body := L.body, defers := d3 })) :=
              st1.trans (hstep.trans n4 fun b f1 f2 => (st1.fresh hf) b f1 (by simpa using f2)) fun b f1 f2 => hf b f1 (by simpa using f2)
            have hQx : Q x.to { a with defers := [markOf w.heap.size] ++ a.defers } (w3.putObj (w.heap.size + 1) (.loop { state := .exhausted, pending := L.pending, fn := fn3, tmps := u3, params := L.params, assign := L.assign, body := L.body, defers := d3 })) := by
              refine hQ ψ _ _ n3 (hT.mono fun b r e => hstep.ext _ _ (st1.ext _ _ e)) ⟨[w.heap.size], rfl, by simp, fun r hr => ?_⟩ hfin
              simp only [List.mem_singleton] at hr
              subst hr
              refine ⟨Nat.le_refl _, by rw [heap_putObj hrsz, if_neg (by omega)]; exact hdef3, fun b hb => ?_⟩
              rcases hstep.dom b _ hb with h1 | ⟨_, _, h1⟩
              · exact hnone b h1
              · rw [hsz2] at h1; omega
            refine ⟨L.pending, _, hend, ?_⟩
            revert hQx
            rw [hpend]
            intro hQx
            rcases hjump with ⟨rfl, rfl⟩ | ⟨rfl, rfl⟩ | ⟨id, rfl, rfl⟩
            · exact hQx
            · exact wpIn_ret hQx
            · exact wpIn_exit hQx
        · cases h
      · cases h
    · cases h
  · cases h
end
end Go.Proofs.XX.Vm
