/- A small evaluator over a shadow heap, part 5: every operation. -/
import Derived.Test.YtonjnnjnojmpjaaDoorV4
namespace Go.Proofs.XX.Vm
open Go Go.RowKit

section
variable {P : Program} {w : World}

theorem opds_get {gl : Nat} {T : List Value} : ∀ {l : List Operand} {vs : List Value}, opds gl T l = some vs → ∀ x ∈ l, ∃ v ∈ vs, opd gl T x = some v := by
  intro l
  induction l with
  | nil => intro vs _ x hx; cases hx
  | cons y l ih =>
    intro vs h x hx
    simp only [opds] at h
    split at h
    · rename_i v vs' h1 h2
      cases h
      cases hx with
      | head => exact ⟨v, by simp, h1⟩
      | tail _ hm => obtain ⟨u, g1, g2⟩ := ih h2 x hm; exact ⟨u, by simp [g1], g2⟩
    · cases h

theorem opds_map {gl : Nat} {T : List Value} : ∀ {l : List Operand} {vs : List Value}, opds gl T l = some vs → vs = l.map fun x => (opd gl T x).getD undef := by
  intro l
  induction l with
  | nil => intro vs h; simp only [opds, Option.some.injEq] at h; subst h; rfl
  | cons y l ih =>
    intro vs h
    simp only [opds] at h
    split at h
    · rename_i v vs' h1 h2
      cases h
      simp [h1, ih h2]
    · cases h

theorem pureOp_select {op : Op} (h : pureOp op = true) : ∀ cs b, op ≠ .select cs b := by
  intro cs b e; subst e; simp [pureOp] at h

theorem run_pureOp {gl : Nat} {φ : Ren} {S : List Blk} (ok : Ok gl φ S w) {T : List Value} {a : Act} (hT : LRel φ T a.tmps.toList) {o : Oper} {vs : List Value} {v : Value}
    (hvs : opds gl T o.op.operands.toList = some vs) (hp : pureOp o.op = true) (hall : vs.all plain = true)
    (h : pureSem P (execOp (fun x => (opd gl T x).getD undef) o) = some (.value v)) : (execOp a.eval o).run P w = .ok (.value v) w := by
  have : execOp a.eval o = execOp (fun x => (opd gl T x).getD undef) o := by
    refine execOp_congr o (pureOp_select hp) fun x hx => ?_
    obtain ⟨u, g1, g2⟩ := opds_get hvs x (by simpa using hx)
    rw [g2]
    exact plain_eq ((List.all_eq_true.1 hall) u g1) (opd_rel ok hT g2)
  rw [this]
  exact pureSem_run h w

theorem run_fastBin {op : BinOp} {k : IntKind} {a b : Int} {v : Value} {t : TypeId} {x y : Operand} (h : fastBin op k a b = some v) :
    (do eqGuard op t x y (.int k a) (.int k b); binOp op t (.int k a) (.int k b) : Sem Value).run P w = .ok v w ∧ plain v = true := by
  cases op <;> simp only [fastBin, Option.some.injEq, reduceCtorEq] at h <;> subst h <;> simp [eqGuard, binOp, Op.intArith, Op.intCmp, plain, flat, scalar]
theorem pureTry_val {gl fl : Nat} {φ : Ren} {S S' : List Blk} (ok : Ok gl φ S w) {T : List Value} {a : Act} (hT : LRel φ T a.tmps.toList) {o : Oper} {v : Value}
    (h : pureTry P gl o T S = some (.val v S')) : Came P fl φ S w (execOp a.eval o) v S' := by
  unfold pureTry at h
  split at h
  · rename_i vs hvs
    split at h
    · rename_i hc
      simp only [Bool.and_eq_true] at hc
      split at h
      · rename_i u hu
        split at h
        · rename_i hpl
          cases h
          exact Came.same ok.good (run_pureOp ok hT hvs hc.1 hc.2 hu) (plain_refl hpl)
        · cases h
      · cases h
    · cases h
  · cases h
theorem pureTry_call {gl : Nat} {S : List Blk} {T : List Value} {o : Oper} {f : FuncId} {args : List Value} (h : pureTry P gl o T S = some (.call f args)) : False := by
  unfold pureTry at h
  repeat' split at h
  all_goals cases h
theorem int_of_rel {φ : Ren} {l l' : List Value} (h : LRel φ l l') {i : Nat} {k : IntKind} {n : Int} (hi : l[i]? = some (.int k n)) : l'[i]? = some (.int k n) := by
  obtain ⟨v', h1, h2⟩ := h.get hi
  cases h2
  exact h1
theorem eqFs_rel {φ : Ren} {xs xs' ys ys' : List Value} (hx : LRel φ xs xs') (hy : LRel φ ys ys') : ∀ (fs : List Field) (r : Bool), eqFs P xs ys fs = some r → eqFs P xs' ys' fs = some r := by
  intro fs
  induction fs with
  | nil => intro r h; exact h
  | cons f fs ih =>
    intro r h
    simp only [eqFs] at h ⊢
    split at h
    · cases h
    · rename_i hn
      split at h
      · rename_i q j a k b hu h1 h2
        split at h
        · rename_i hjk
          split at h
          · rename_i r' hr'
            simp only [hn, if_false, hu, int_of_rel hx h1, int_of_rel hy h2, hjk, if_true, ih r' hr']
            exact h
          · cases h
        · cases h
      · cases h
theorem eqIs_rel {φ : Ren} {xs xs' ys ys' : List Value} (hx : LRel φ xs xs') (hy : LRel φ ys ys') {n : Nat} : ∀ (is : List Nat) (r : Bool), eqIs xs ys n is = some r → eqIs xs' ys' n is = some r := by
  intro is
  induction is with
  | nil => intro r h; exact h
  | cons i is ih =>
    intro r h
    simp only [eqIs] at h ⊢
    split at h
    · rename_i j a k b h1 h2
      split at h
      · rename_i hjk
        split at h
        · rename_i r' hr'
          simp only [int_of_rel hx h1, int_of_rel hy h2, hjk, if_true, ih r' hr']
          exact h
        · cases h
      · cases h
    · cases h
theorem fastEql_rel {φ : Ren} {op : BinOp} {t : TypeId} {xs xs' ys ys' : List Value} (hx : LRel φ xs xs') (hy : LRel φ ys ys') {v : Value} (h : fastEql P op t xs ys = some v) : fastEql P op t xs' ys' = some v := by
  have key : ∀ r, eqAgg P t xs ys = some r → eqAgg P t xs' ys' = some r := by
    intro r hr
    unfold eqAgg at hr ⊢
    split at hr
    · cases hr
    · rename_i hg
      rw [if_neg hg]
      split at hr
      · split at hr
        · cases hr
        · rename_i hs
          simp only [hs]
          exact eqFs_rel hx hy _ _ hr
      · split at hr
        · exact eqIs_rel hx hy _ _ hr
        · cases hr
      · cases hr
  unfold fastEql at h ⊢
  split at h
  · split at h
    · rename_i r hr; simp only [key r hr]; exact h
    · cases h
  · split at h
    · rename_i r hr; simp only [key r hr]; exact h
    · cases h
  · cases h
theorem evOp_val {gl fl : Nat} {φ : Ren} {S S' : List Blk} (ok : Ok gl φ S w) {T : List Value} {a : Act} (hT : LRel φ T a.tmps.toList) {o : Oper} {v : Value}
    (h : evOp P gl fl o T S = some (.val v S')) (hf : Fresh φ S.length S'.length) : Came P fl φ S w (execOp a.eval o) v S' := by
  have good := ok.good
  unfold evOp at h
  simp only [forceK_eq] at h
  split at h
  · rename_i x ho
    split at h
    · rename_i u hu; cases h; exact Came.same good (by simp [execOp, ho]) (opd_rel ok hT hu)
    · cases h
  · rename_i x ho
    split at h
    · rename_i u hu; cases h; exact Came.same good (by simp [execOp, ho]) (opd_rel ok hT hu)
    · cases h
  · rename_i c x y ho
    split at h
    · rename_i β u1 u2 hc hx hy
      cases h
      have hcv := opd_rel ok hT hc
      generalize hce : a.eval c = cv at hcv
      cases hcv
      cases β
      · exact Came.same good (v' := a.eval y) (by simp [execOp, ho, hce, asBool]) (opd_rel ok hT hy)
      · exact Came.same good (v' := a.eval x) (by simp [execOp, ho, hce, asBool]) (opd_rel ok hT hx)
    · cases h
  · rename_i t ho
    split at h
    · rename_i z hz
      split at h
      · rename_i hall
        cases h
        refine Came.fresh good (hf _ (Nat.le_refl _) (by simp)) ?_ (list_refl scalar (fun _ => scalar_refl) hall)
        simp [execOp, ho, Instr.alloc, run_zeroT hz, run_newVar]
      · cases h
    · cases h
  · rename_i t x ho
    split at h
    · rename_i u hu
      cases h
      refine Came.fresh good (hf _ (Nat.le_refl _) (by simp)) (c' := (a.eval x).cells) ?_ (opd_rel ok hT hu).cells
      simp [execOp, ho, Instr.box, run_newVar]
    · cases h
  · rename_i t x ho
    split at h
    · rename_i p hp
      split at h
      · rename_i u hu
        cases h
        obtain ⟨v', g1, g2⟩ := run_load (P := P) good (opd_rel ok hT hp) hu
        exact Came.same good (by simp [execOp, ho, g1]) g2
      · cases h
    · cases h
  · rename_i t x y ho
    split at h
    · rename_i p u hp hu
      split at h
      · rename_i S2 hs
        cases h
        obtain ⟨w', g1, g2, g3⟩ := run_store (P := P) good (opd_rel ok hT hp) (opd_rel ok hT hu) hs
        exact ⟨undef, w', φ, .inr ⟨by simp [execOp, ho, g1], rfl⟩, undef_refl _, g2, g3⟩
      · cases h
    · cases h
  · rename_i x ho
    split at h
    · rename_i p hp
      cases h
      have hpv := opd_rel ok hT hp
      generalize hce : a.eval x = xv at hpv
      cases hpv with
      | ptr hb => exact Came.same good (by simp [execOp, ho, hce]) (.ptr hb)
    · cases h
  · rename_i t x f ho
    split at h
    · rename_i p hp
      split at h
      · rename_i u hu
        cases h
        obtain ⟨v', g1, g2⟩ := run_fieldP (P := P) (w := w) (opd_rel ok hT hp) hu
        exact Came.same good (by simp [execOp, ho, g1]) g2
      · cases h
    · cases h
  · rename_i t x i ho
    split at h
    · rename_i p j hp hj
      split at h
      · rename_i u hu
        cases h
        obtain ⟨v', g1, g2⟩ := run_indexP (P := P) (w := w) (opd_rel ok hT hp) (opd_rel ok hT hj) hu
        exact Came.same good (by simp [execOp, ho, g1]) g2
      · cases h
    · cases h
  · rename_i f first captured ho
    split at h
    · rename_i xs cs hx hc
      cases h
      have r1 := opds_rel ok hT hx
      have r2 := opds_rel ok hT hc
      refine Came.same good (v' := .func (.func f) (first.map a.eval) (captured.map a.eval)) (by simp [execOp, ho, Instr.makeFunc]) (.func f ?_ ?_ ?_ ?_)
      · simpa using r1.1
      · simpa using r1.2
      · simpa using r2.1
      · simpa using r2.2
    · cases h
  · rename_i f args x1 ho
    split at h
    · rename_i g vs hg hv
      exact (callee_call h).elim
    · cases h
  · rename_i t len parts ho
    split at h
    · rename_i vs hv
      split at h
      · rename_i hall
        split at h
        · rename_i elem cells hc
          split at h
          · rename_i hsc
            cases h
            have hn := hf S.length (Nat.le_refl _) (by simp)
            obtain ⟨g1, g2⟩ := good.new fl hn ⟨cells.toList, elem, false, none⟩ (.cells cells elem) ⟨cells, (0, 0), rfl, list_refl scalar (fun _ => scalar_refl) hsc, fun _ => rfl⟩
            refine ⟨.slice (some ⟨w.heap.size, 0, none⟩) len len, _, _, .inl ?_, .slice (newRen_new _ _ _), g1, g2⟩
            have hrel := opds_rel ok hT hv
            have heq := list_eq plain (fun _ _ => plain_eq) hall hrel
            have hparts : (parts.map fun (i, x) => (i, a.eval x)) = ((parts.toList.map (·.1)).zip vs).toArray := by
              rw [← heq]
              apply Array.toList_inj.1
              simp only [Array.toList_map, List.map_map]
              generalize parts.toList = l
              induction l with
              | nil => rfl
              | cons p l ih => simpa using ih
            have hrun := run_buildSlice (P := P) (w := w) (hparts ▸ hc)
            simp only [execOp, ho, Sem.run_bind, hrun, Result.andThen_ok, Sem.run_pure]
          · cases h
        · cases h
      · cases h
    · cases h
  · rename_i op t x y yt ho
    split at h
    · rename_i xs ys hx hy
      split at h
      · rename_i u hu
        cases h
        have hxv := opd_rel ok hT hx
        have hyv := opd_rel ok hT hy
        generalize hce : a.eval x = xv at hxv
        generalize hcf : a.eval y = yv at hyv
        cases hxv with
        | agg hl1 he1 =>
          cases hyv with
          | agg hl2 he2 =>
            rename_i xs' ys'
            obtain ⟨r1, b, r2⟩ := run_fastEql (P := P) (w := w) (t := t) (x := x) (y := y) (xs := xs') (ys := ys') (fastEql_rel ⟨hl1, he1⟩ ⟨hl2, he2⟩ hu)
            subst r2
            exact Came.same good (by simp only [execOp, ho, hce, hcf]; rw [Sem.run_bind, r1]; rfl) (.bool b)
      · exact pureTry_val ok hT h
    · rename_i k i j n hx hy
      split at h
      · rename_i hkj
        subst hkj
        split at h
        · rename_i u hu
          cases h
          have hxv := opd_rel ok hT hx
          have hyv := opd_rel ok hT hy
          obtain ⟨r1, r2⟩ := run_fastBin (P := P) (w := w) (t := t) (x := x) (y := y) hu
          generalize hce : a.eval x = xv at hxv
          generalize hcf : a.eval y = yv at hyv
          cases hxv; cases hyv
          exact Came.same good (by simp only [execOp, ho, hce, hcf]; rw [Sem.run_bind, r1]; rfl) (plain_refl r2)
        · exact pureTry_val ok hT h
      · exact pureTry_val ok hT h
    · exact pureTry_val ok hT h
  · rename_i x0 args argTypes ho
    split at h
    · rename_i ad n c t hv ht
      split at h
      · rename_i e hu
        cases h
        have hrel := opds_rel ok hT hv
        have hm : (args.map a.eval).toList = List.map a.eval args.toList := by simp
        generalize List.map a.eval args.toList = l at hrel hm
        cases l with
        | nil => simp [LRel] at hrel
        | cons y l =>
          cases l with
          | cons _ _ => simp [LRel] at hrel
          | nil =>
            have hy := hrel.head
            cases hy with
            | slice hb =>
              refine Came.same good (v' := .int .i64 n) ?_ (.int _ _)
              have hargs : args.map a.eval = #[_] := Array.toList_inj.1 hm
              simp [execOp, ho, resolve, hargs, invoke, builtin, Builtin.len_, ht, run_underlying hu, goInt]
      · cases h
    · exact pureTry_val ok hT h
  · rename_i t x ho
    split at h
    · rename_i b off n e hx hu
      split at h
      · rename_i z hz
        cases h
        have hxv := opd_rel ok hT hx
        generalize hce : a.eval x = xv at hxv
        cases hxv with
        | ptr hb =>
          refine Came.same good (v' := .slice (some ⟨_, off, none⟩) (n + 1) (n + 1)) ?_ (.slice hb)
          simp [execOp, ho, hce, Instr.sliceAt, run_underlying hu, Instr.sureAddr, Instr.sliceBounds, run_sizeT hz, Addr.add]
      · cases h
    · exact pureTry_val ok hT h
  · rename_i t x ho
    split at h
    · rename_i u hu
      split at h
      · rename_i s hs
        cases h
        obtain ⟨rfl, hr⟩ := run_rangeP (P := P) (w := w) hs
        have hxv := opd_rel ok hT hu
        generalize hce : a.eval x = xv at hxv
        cases hxv
        have hn := hf S.length (Nat.le_refl _) (by simp)
        obtain ⟨g1, g2⟩ := good.new fl hn (iterBlk s 0) (.stringIter s 0) (by simp [BRel, iterBlk])
        exact ⟨_, _, _, .inl (by simp only [execOp, ho, hce, Sem.run_bind, hr, Result.andThen_ok, Sem.run_pure]), .ptr (newRen_new _ _ _), g1, g2⟩
      · cases h
    · cases h
  · rename_i x isString ho
    split at h
    · split at h
      · rename_i u hu
        split at h
        · rename_i v2 S2 hs
          cases h
          obtain ⟨h1, w', h2, h3, h4⟩ := run_nextP (P := P) (t := o.type) good (opd_rel ok hT hu) hs
          exact ⟨v, w', φ, .inl (by simp only [execOp, ho, Sem.run_bind, h2, Result.andThen_ok, Sem.run_pure]), plain_refl h1, h3, h4⟩
        · cases h
      · cases h
    · cases h
  · rename_i t ho
    cases h
    have hn := hf S.length (Nat.le_refl _) (by simp)
    obtain ⟨g1, g2⟩ := good.new fl hn (mapBlk [] 0) (.map #[] 0) (by simp [BRel, mapBlk])
    refine ⟨.map (some w.heap.size), _, _, .inl ?_, .map (newRen_new _ _ _), g1, g2⟩
    simp only [execOp, ho, Option.map_none, Instr.makeMap, Sem.run_bind, Sem.run_pure]
    rfl
  · rename_i t x i okb ho
    split at h
    · rename_i m k hm hk
      split at h
      · rename_i u hu
        cases h
        obtain ⟨h1, h2, h3⟩ := run_lookupP (P := P) good (opd_rel ok hT hm) hu
        have hkk := plain_eq h1 (opd_rel ok hT hk)
        exact Came.same good (v' := v) (by simp only [execOp, ho, hkk, Sem.run_bind, h3, Result.andThen_ok, Sem.run_pure]) (plain_refl h2)
      · cases h
    · cases h
  · rename_i t x i y ho
    split at h
    · rename_i m k u hm hk hu
      split at h
      · rename_i S2 hs
        cases h
        obtain ⟨h1, h2, w', h3, h4, h5⟩ := run_updateP (P := P) good (opd_rel ok hT hm) hs
        have hkk := plain_eq h1 (opd_rel ok hT hk)
        have hvv := plain_eq h2 (opd_rel ok hT hu)
        exact ⟨undef, w', φ, .inr ⟨by simp only [execOp, ho, hkk, hvv, Sem.run_bind, h3, Result.andThen_ok, Sem.run_pure], rfl⟩, undef_refl _, h4, h5⟩
      · cases h
    · cases h
  · exact pureTry_val ok hT h

theorem evOp_call {gl fl : Nat} {φ : Ren} {S : List Blk} (ok : Ok gl φ S w) {T : List Value} {a : Act} (hT : LRel φ T a.tmps.toList) {o : Oper} {f : FuncId} {args : List Value}
    (h : evOp P gl fl o T S = some (.call f args)) : ∃ args' : List Value, (execOp a.eval o).run P w = .ok (.enter f args'.toArray) w ∧ LRel φ args args' := by
  unfold evOp at h
  simp only [forceK_eq] at h
  split at h
  case h_12 f args x1 x2 ho =>
    split at h
    · rename_i g vs hg hv
      obtain ⟨args', g1, g2⟩ := rel_callee (P := P) (w := w) (opd_rel ok hT hg) (opds_rel ok hT hv) h
      refine ⟨args', ?_, g2⟩
      rw [← g1]
      have harr : Array.map a.eval x1 = (List.map a.eval x1.toList).toArray := Array.toList_inj.1 (by simp)
      simp only [execOp, ho, resolve, harr]
    · cases h
  all_goals (repeat' split at h)
  all_goals first | (cases h; done) | exact (pureTry_call h).elim
theorem pureTry_round {gl : Nat} {S : List Blk} {T : List Value} {o : Oper} {l : Nat} {args : List Value} (h : pureTry P gl o T S = some (.round l args)) : False := by
  unfold pureTry at h
  repeat' split at h
  all_goals cases h
theorem evOp_round {gl fl : Nat} {φ : Ren} {S : List Blk} (ok : Ok gl φ S w) {T : List Value} {a : Act} (hT : LRel φ T a.tmps.toList) {o : Oper} {l : Nat} {args : List Value}
    (h : evOp P gl fl o T S = some (.round l args)) : ∃ (r : Nat) (args' : List Value), φ l = some r ∧ (execOp a.eval o).run P w = (Instr.yield r args'.toArray).run P w ∧ LRel φ args args' ∧ (∀ c, o.op ≠ .defer c) := by
  unfold evOp at h
  simp only [forceK_eq] at h
  split at h
  case h_12 f args x1 x2 ho =>
    split at h
    · rename_i g vs hg hv
      obtain ⟨r, h1, rfl, h2⟩ := rel_round (P := P) (w := w) (vs' := List.map a.eval x1.toList) (opd_rel ok hT hg) h
      refine ⟨r, _, h1, ?_, opds_rel ok hT hv, fun c e => by rw [ho] at e; cases e⟩
      rw [← h2]
      have harr : Array.map a.eval x1 = (List.map a.eval x1.toList).toArray := Array.toList_inj.1 (by simp)
      simp only [execOp, ho, resolve, harr]
    · cases h
  all_goals (repeat' split at h)
  all_goals first | (cases h; done) | exact (pureTry_round h).elim
/-- What is evaluated is no 'defer'. -/
theorem evOp_defer {gl fl : Nat} {S : List Blk} {T : List Value} {o : Oper} {c : Call} (ho : o.op = .defer c) : evOp P gl fl o T S = none := by
  unfold evOp
  simp only [ho]
  unfold pureTry
  simp only [ho, pureOp, Bool.false_and, Bool.false_eq_true, if_false]
  split <;> rfl
end
end Go.Proofs.XX.Vm
