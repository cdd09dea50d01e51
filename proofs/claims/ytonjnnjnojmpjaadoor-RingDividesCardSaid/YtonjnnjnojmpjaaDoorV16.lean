/- A small evaluator over a shadow heap, part 16: rounds of a range over a function, and the statement itself. -/
import Derived.Test.YtonjnnjnojmpjaaDoorV14
namespace Go.Proofs.XX.Vm
open Go Go.RowKit

section
variable {P : Program} {w : World}

theorem loopAt_get {S : List Blk} {l : Nat} {L : LoopS} (h : loopAt S l = some L) : ∃ k, S[l]? = some k ∧ k.obj = some (.loop L) := by
  unfold loopAt at h
  split at h
  · rename_i c e ro M hk; cases h; exact ⟨_, hk, rfl⟩
  · cases h
theorem loop_heap {φ : Ren} {S : List Blk} (good : Good φ S w) {l r : Nat} {L : LoopS} (h : loopAt S l = some L) (hr : φ l = some r) :
    ∃ fn tmps' d, w.heap[r]? = some (.loop { state := L.state, pending := L.pending, fn := fn, tmps := tmps', params := L.params, assign := L.assign, body := L.body, defers := d }) ∧ LRel φ L.tmps tmps'.toList := by
  obtain ⟨k, hk, ho⟩ := loopAt_get h
  obtain ⟨o, h1, h2⟩ := good.blk l k r hk hr
  unfold BRel at h2
  rw [ho] at h2
  obtain ⟨fn, tmps', d, rfl, h3⟩ := h2
  exact ⟨fn, tmps', d, h1, h3⟩
theorem run_getLoop {r : Nat} {L : Loop} (h : w.heap[r]? = some (.loop L)) : (Instr.getLoop r).run P w = .ok L w := by
  simp [Instr.getLoop, getObj, Sem.run, h]
theorem run_setLoop {r : Nat} {L : Loop} {o : Obj} (h : w.heap[r]? = some (.loop L)) : (setObj r o).run P w = .ok () (w.putObj r o) := by
  simp [setObj, Sem.run, h, World.putObj]
theorem heap_putObj {r : Nat} {o : Obj} (hr : r < w.heap.size) (s : Nat) : (w.putObj r o).heap[s]? = if s = r then some o else w.heap[s]? := by
  simp only [World.putObj]
  by_cases h : s = r
  · subst h; simp [hr]
  · rw [if_neg h, Array.getElem?_setIfInBounds_ne (fun e => h e.symm)]
theorem good_put {φ : Ren} {S : List Blk} (good : Good φ S w) {fl l r : Nat} {L M : LoopS} (h : loopAt S l = some L) (hr : φ l = some r) (hfl : fl ≤ l) {fn d : Nat} {t : Array Value} (ht : LRel φ M.tmps t.toList) :
    Good φ (S.set l (loopBlk M)) (w.putObj r (.loop { state := M.state, pending := M.pending, fn := fn, tmps := t, params := M.params, assign := M.assign, body := M.body, defers := d })) ∧
    Step fl φ S w φ (S.set l (loopBlk M)) (w.putObj r (.loop { state := M.state, pending := M.pending, fn := fn, tmps := t, params := M.params, assign := M.assign, body := M.body, defers := d })) := by
  obtain ⟨k, hk, _⟩ := loopAt_get h
  exact good.turn (List.getElem?_eq_some_iff.1 hk).1 hr hfl (show BRel φ (loopBlk M) _ from ⟨fn, t, d, rfl, ht⟩) (heap_putObj (good.low l r hr)) (by simp [World.putObj]) rfl rfl rfl

theorem setParams_rel {φ : Ren} : ∀ (ps : List Tmp) (args args' : List Value) (T : List Value) (t : Array Value), LRel φ args args' → LRel φ T t.toList →
    LRel φ (setParams T ps args) ((ps.zip args').foldl (fun tmps (x : Tmp × Value) => tmps.setIfInBounds x.1 x.2) t).toList := by
  intro ps
  induction ps with
  | nil => intro args args' T t _ hT; simpa [setParams] using hT
  | cons p ps ih =>
    intro args args' T t ha hT
    cases args with
    | nil => cases args' with
      | nil => simpa [setParams] using hT
      | cons _ _ => simp [LRel] at ha
    | cons v vs => cases args' with
      | nil => simp [LRel] at ha
      | cons v' vs' =>
        simp only [setParams, List.zip_cons_cons, List.foldl_cons]
        exact ih vs vs' _ _ ha.tail (by simpa using hT.set ha.head p)

theorem ext_set {fl l : Nat} (h : fl ≤ l) (S : List Blk) (k : Blk) : Ext fl S (S.set l k) := ⟨by simp, fun b e1 _ => by rw [List.getElem?_set_ne (by omega)]⟩

theorem roundS_ok {Sg : List Blk} {rec : RecT} (hcode : CodeOk P Sg rec) {fl l : Nat} {args : List Value} {S S' : List Blk} {v : Value} (h : roundS rec fl l args S = some (v, S')) (hfl : Sg.length ≤ fl) (hS : Sg.length ≤ S.length) :
    Ext fl S S' ∧ ∀ (φ : Ren) (w : World) (r : Nat) (args' : List Value), Inv Sg φ S w → φ l = some r → LRel φ args args' → Fresh φ S.length S'.length →
      ∃ fn tmps assign body, (Instr.yield r args'.toArray).run P w = .ok (.round r fn tmps assign body) w ∧
        RoundIn Fence.wide 0 P r fn tmps assign body w fun e w' => ∃ v' ψ, e = .returned v' ∧ VRel ψ v v' ∧ Good ψ S' w' ∧ Step fl φ S w ψ S' w' := by
  unfold roundS at h
  simp only [forceK_eq] at h
  split at h
  · rename_i L hL
    split at h
    · rename_i hc
      simp only [Bool.and_eq_true, decide_eq_true_eq, beq_iff_eq] at hc
      obtain ⟨hll, hlen⟩ := hc
      split at h
      · rename_i T1 S1 h1
        split at h
        · rename_i p1 t1 q1 a1 b1 hL1
          split at h
          · rename_i x T3 S3 h2
            split at h
            · rename_i L3 hL3
              cases h
              obtain ⟨x1, k1⟩ := hcode _ _ _ _ _ _ _ _ h1 hfl hS
              have hS1 : Sg.length ≤ S1.length := Nat.le_trans hS x1.1
              obtain ⟨x2, k2⟩ := hcode _ _ _ _ _ _ _ _ h2 hfl (by simpa using hS1)
              refine ⟨x1.trans ((ext_set hll _ _).trans (x2.trans (ext_set hll _ _))), ?_⟩
              intro φ w r args' inv hr hargs hf
              have hlen2 : S1.length ≤ S3.length := by have := x2.1; simpa using this
              simp only [List.length_set] at hf
              obtain ⟨fn, tmps', d, g1, g2⟩ := loop_heap inv.ok.good hL hr
              have hsz : args'.length = L.params.toList.length := by rw [← hargs.1]; exact hlen
              refine ⟨fn, _, L.assign, L.body, ?_, roundIn_of_wpIn (F := Fence.wide) (n := 0) (tmps := (L.params.toList.zip args').foldl (fun tmps (x : Tmp × Value) => tmps.setIfInBounds x.1 x.2) tmps') trivial ?_⟩
              · have hz : ¬ args'.toArray.size ≠ L.params.size := by simpa using hsz
                simp only [Instr.yield, Sem.run_bind, run_getLoop g1, Result.andThen_ok, if_neg hz, Sem.run_pure]
                congr 2
                rw [← Array.foldl_toList]
                simp
              · refine k1 (some r) rfl _ φ _ w inv (setParams_rel _ _ _ _ _ hargs g2) (fun b e1 e2 => hf b e1 (Nat.lt_of_lt_of_le e2 hlen2)) ?_
                intro ψ1 a1' w1 e1 e2 _ e4
                have hr1 := e4.ext _ _ hr
                obtain ⟨fn1, u1, d1, m1, m2⟩ := loop_heap e1 hL1 hr1
                obtain ⟨n1, n2⟩ := good_put e1 (M := ⟨.busy, p1, t1, q1, a1, b1⟩) hL1 hr1 hll (fn := fn1) (d := d1) m2
                refine ⟨_, ?_, k2 (some r) rfl (roundPost P r _) ψ1 a1' _ ((inv.step hfl e4 e1).step hfl n2 n1) e2 ?_ ?_⟩
                · simp only [Instr.beginRound, Sem.run_bind, run_getLoop m1, Result.andThen_ok, run_setLoop m1, Sem.run_pure]
                · intro b f1 f2
                  simp only [List.length_set] at f1
                  exact (e4.fresh hf) b f1 f2
                · intro ψ3 a3 w3 o1 o2 _ o4
                  have hr3 := o4.ext _ _ hr1
                  obtain ⟨fn3, u3, d3, m3, m4⟩ := loop_heap o1 hL3 hr3
                  obtain ⟨n3, n4⟩ := good_put o1 (M := { L3 with state := if goesOn x then .ready else .done, pending := jumpOf x }) hL3 hr3 hll (fn := fn3) (d := d3) m4
                  have hfr1 : Fresh ψ1 S1.length (S3.set l (loopBlk { L3 with state := if goesOn x then .ready else .done, pending := jumpOf x })).length := fun b f1 f2 => (e4.fresh hf) b f1 (by simpa using f2)
                  have hst := e4.trans (n2.trans (o4.trans n4 fun b f1 f2 => hfr1 b (by simpa using f1) f2) hfr1) fun b f1 f2 => hf b f1 (by simpa using f2)
                  · have hend : (Instr.endRound r (jumpOf x)).run P w3 = .ok (.bool (jumpOf x).isNone) (w3.putObj r (.loop { state := if (jumpOf x).isNone then .ready else .done, pending := jumpOf x, fn := fn3, tmps := u3, params := L3.params, assign := L3.assign, body := L3.body, defers := d3 })) := by
                      simp only [Instr.endRound, Sem.run_bind, run_getLoop m3, Result.andThen_ok, run_setLoop m3, Sem.run_pure]
                    have hgo : (jumpOf x).isNone = goesOn x := by cases x <;> rfl
                    have hw : ∀ s : LoopState, (if (jumpOf x).isNone = true then LoopState.ready else .done) = (if goesOn x = true then .ready else .done) := by intro s; rw [hgo]
                    rw [hgo] at hend
                    cases x with
                    | normal => exact ⟨_, _, hend, _, ψ3, rfl, .bool _, n3, hst⟩
                    | exit id => exact ⟨_, _, hend, _, ψ3, rfl, .bool _, n3, hst⟩
                    | ret => exact ⟨_, _, hend, _, ψ3, rfl, .bool _, n3, hst⟩
            · cases h
          · cases h
        · cases h
      · cases h
    · cases h
  · cases h
end
end Go.Proofs.XX.Vm
