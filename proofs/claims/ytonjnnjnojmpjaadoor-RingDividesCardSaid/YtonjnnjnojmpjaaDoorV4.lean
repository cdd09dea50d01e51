/- A small evaluator over a shadow heap, part 4: an operation that is evaluated is run so. -/
import Derived.Test.YtonjnnjnojmpjaaDoorV3
namespace Go.Proofs.XX.Vm
open Go Go.RowKit

section
variable {P : Program} {w : World}

theorem VRel.cells {φ : Ren} {v v' : Value} (h : VRel φ v v') : LRel φ v.cells.toList v'.cells.toList := by
  cases h
  case agg hx ex => exact ⟨hx, ex⟩
  all_goals exact LRel.cons (by constructor <;> assumption) (LRel.nil φ)

/-- What an operation came to. -/
def Came (P : Program) (fl : Nat) (φ : Ren) (S : List Blk) (w : World) (s : Sem Next) (v : Value) (S' : List Blk) : Prop :=
  ∃ v' w' ψ, (s.run P w = .ok (.value v') w' ∨ (s.run P w = .ok .skip w' ∧ v' = undef)) ∧ VRel ψ v v' ∧ Good ψ S' w' ∧ Step fl φ S w ψ S' w'

theorem Came.same {fl : Nat} {φ : Ren} {S : List Blk} {s : Sem Next} {v v' : Value} (good : Good φ S w) (h : s.run P w = .ok (.value v') w) (hv : VRel φ v v') : Came P fl φ S w s v S :=
  ⟨v', w, φ, .inl h, hv, good, Step.refl _ _ _ _⟩

theorem Came.fresh {fl : Nat} {φ : Ren} {S : List Blk} {s : Sem Next} {cs : List Value} {c' : Array Value} {t : TypeId} (good : Good φ S w) (hn : φ S.length = none)
    (h : s.run P w = .ok (.value (.pointer (some ⟨w.heap.size, 0, none⟩))) (w.alloc (.cells c' t))) (hc : LRel φ cs c'.toList) :
    Came P fl φ S w s (.pointer (some ⟨S.length, 0, none⟩)) (S ++ [⟨cs, t, false, none⟩]) := by
  obtain ⟨g1, g2⟩ := good.new fl hn ⟨cs, t, false, none⟩ (.cells c' t) ⟨c', (0, 0), rfl, hc, fun _ => rfl⟩
  exact ⟨_, _, _, .inl h, .ptr (newRen_new _ _ _), g1, g2⟩

theorem run_newVar (t : TypeId) (v : Value) : (newVar t v).run P w = .ok ⟨w.heap.size, 0, none⟩ (w.alloc (.cells v.cells t)) := by
  rfl
theorem run_newRow (t : TypeId) (c : Array Value) : (newRow t c).run P w = .ok ⟨w.heap.size, 0, none⟩ (w.alloc (.cells c t)) := rfl

theorem run_fieldP {φ : Ren} {s : TypeId} {f : Nat} {p p' v : Value} (hp : VRel φ p p') (h : fieldP P s f p = some v) : ∃ v', (Instr.fieldAt s p' f).run P w = .ok v' w ∧ VRel φ v v' := by
  unfold fieldP at h
  split at h
  · cases hp with
    | ptr hb =>
      rename_i b r o sp
      split at h
      · rename_i fs hu
        split at h
        · rename_i fd hf
          split at h
          · rename_i n hn
            cases h
            refine ⟨.pointer (some ((⟨r, o, sp⟩ : Addr).add fd.offset)), ?_, ?_⟩
            · simp [Instr.fieldAt, run_underlying hu, hf, Instr.sureAddr, fieldPlace, run_sizeT hn]
            · unfold Addr.add; split
              · exact .ptr hb
              · exact .ptr hb
          · cases h
        · cases h
      · cases h
  · cases h

theorem run_indexP {φ : Ren} {t : TypeId} {x x' ix ix' v : Value} (hx : VRel φ x x') (hi : VRel φ ix ix') (h : indexP P t x ix = some v) :
    ∃ v', (Instr.indexAt t x' ix').run P w = .ok v' w ∧ VRel φ v v' := by
  unfold indexP at h
  split at h
  · rename_i k i
    cases hi
    split at h
    · rename_i len elem a hu
      cases hx with
      | ptr hb =>
        rename_i b r o sp
        split at h
        · rename_i hc
          simp only [Bool.and_eq_true, decide_eq_true_eq] at hc
          split at h
          · rename_i n hn
            cases h
            refine ⟨.pointer (some ((⟨r, o, sp⟩ : Addr).add (i.toNat * n))), ?_, ?_⟩
            · simp [Instr.indexAt, asIntOf, run_underlying hu, Instr.sureAddr, hc, run_sizeT hn]
            · unfold Addr.add; split
              · exact .ptr hb
              · exact .ptr hb
          · cases h
        · cases h
    · rename_i elem a len cap hu
      cases hx with
      | slice hb =>
        rename_i b r o sp
        split at h
        · rename_i hc
          simp only [Bool.and_eq_true, decide_eq_true_eq] at hc
          split at h
          · rename_i n hn
            cases h
            refine ⟨.pointer (some ((⟨r, o, sp⟩ : Addr).add (i.toNat * n))), ?_, ?_⟩
            · simp [Instr.indexAt, asIntOf, run_underlying hu, hc, run_sizeT hn]
            · unfold Addr.add; split
              · exact .ptr hb
              · exact .ptr hb
          · cases h
        · cases h
    · cases h
  · cases h

theorem run_buildSlice {t elem : TypeId} {len : Nat} {parts : Array (Nat × Value)} {cells : Array Value} (h : buildSliceCells P t len parts = some (elem, cells)) :
    (Instr.buildSlice t len parts).run P w = .ok (.slice (some ⟨w.heap.size, 0, none⟩) len len) (w.alloc (.cells cells elem)) := by
  unfold buildSliceCells at h
  split at h
  · rename_i e hu
    split at h
    · rename_i i hi
      split at h
      · cases h
      · rename_i hbig
        split at h
        · cases h
        · rename_i h0
          split at h
          · rename_i z hz
            split at h
            · rename_i cs hf
              cases h
              simp only [Instr.buildSlice, Sem.run_bind, run_underlying hu, Result.andThen_ok, sizeOf, run_typeInfo w hi, Sem.run_pure, if_neg hbig, if_neg h0, zeroValue, hz]
              simp only [Sem.run_bind, Sem.run_pure, hf]
              simp only [run_newRow, Result.andThen_ok]
            · cases h
          · cases h
    · cases h
  · cases h

theorem rel_callee {φ : Ren} {f f' : Value} {vs vs' : List Value} {g : FuncId} {args : List Value} (hf : VRel φ f f') (hvs : LRel φ vs vs') (h : callee P f vs = some (.call g args)) :
    ∃ args' : List Value, (do let d ← Deferred.ofValue f' vs'.toArray; invoke d.target d.args : Sem Next).run P w = .ok (.enter g args'.toArray) w ∧ LRel φ args args' := by
  unfold callee at h
  split at h
  · cases hf with
    | func g' hx ex hc ec =>
      rename_i x c x' c'
      split at h
      · rename_i fn hfn
        split at h
        · cases h
        · rename_i hname
          split at h
          · rename_i body hbody
            simp only [Option.some.injEq, R.call.injEq] at h
            obtain ⟨rfl, rfl⟩ := h
            refine ⟨x'.toList ++ vs' ++ c'.toList, ?_, (LRel.append (LRel.append ⟨hx, ex⟩ hvs) ⟨hc, ec⟩)⟩
            have hname' : ¬ fn.name = "runtime.NumGoroutine" := by simpa using hname
            simp [Deferred.ofValue, invoke, callFunc, program, Sem.run, hfn, hname', hbody]
          · cases h
      · cases h
  · split at h <;> cases h
  · cases h
theorem rel_round {φ : Ren} {f f' : Value} {vs vs' : List Value} {l : Nat} {args : List Value} (hf : VRel φ f f') (h : callee P f vs = some (.round l args)) :
    ∃ r, φ l = some r ∧ args = vs ∧ (do let d ← Deferred.ofValue f' vs'.toArray; invoke d.target d.args : Sem Next).run P w = (Instr.yield r vs'.toArray).run P w := by
  unfold callee at h
  split at h
  · cases hf with
    | func g' hx ex hc ec =>
      split at h
      · split at h
        · cases h
        · split at h <;> cases h
      · cases h
  · cases hf with
    | yield hl =>
      rename_i r
      split at h
      · cases h
        exact ⟨r, hl, rfl, by simp [Deferred.ofValue, invoke]⟩
      · cases h
  · cases h
theorem callee_call {f : Value} {vs : List Value} {v : Value} {S : List Blk} (h : callee P f vs = some (.val v S)) : False := by
  unfold callee at h
  repeat' split at h
  all_goals cases h
theorem mapAt_heap {φ : Ren} {S : List Blk} (good : Good φ S w) {x x' : Value} (hx : VRel φ x x') {b : Nat} {es : List MapEntry} {clock : Nat} (h : mapAt S x = some (b, es, clock)) :
    ∃ r, x' = .map (some r) ∧ φ b = some r ∧ b < S.length ∧ w.heap[r]? = some (.map es.toArray clock) := by
  unfold mapAt at h
  split at h
  · rename_i b2
    split at h
    · rename_i hk
      cases h
      cases hx with
      | map hb =>
        obtain ⟨o, h1, h2⟩ := good.blk _ _ _ hk hb
        exact ⟨_, rfl, hb, (List.getElem?_eq_some_iff.1 hk).1, by rw [h1]; exact congrArg some h2⟩
    · cases h
  · cases h
theorem findIn_run {kt : TypeId} {e : Bool} {es : List MapEntry} {k : Value} {r : Option (Nat × Value)} (h : findIn P kt e es k = some r) :
    plain k = true ∧ (∃ u : Unit, (Instr.checkKey e 10000 kt k).run P w = .ok u w) ∧ (Instr.findKey kt k es).run P w = .ok r w := by
  unfold findIn at h
  split at h
  · rename_i hp
    split at h
    · rename_i u hc
      exact ⟨hp, ⟨u, pureSem_run hc w⟩, pureSem_run h w⟩
    · cases h
  · cases h
theorem plainly_eq {r v : Value} (h : plainly r = some v) : plain v = true ∧ v = r := by
  unfold plainly at h
  split at h
  · rename_i hp; cases h; exact ⟨hp, rfl⟩
  · cases h
theorem run_getMap {r : Nat} {es : Array MapEntry} {c : Nat} (hb : w.heap[r]? = some (.map es c)) : (getObj r).run P w = .ok (.map es c) w := by
  simp [getObj, Sem.run, hb]
theorem run_lookupP {φ : Ren} {S : List Blk} (good : Good φ S w) {t : TypeId} {x x' k v : Value} {ok : Bool} (hx : VRel φ x x') (h : lookupP P t S x k ok = some v) :
    plain k = true ∧ plain v = true ∧ (Instr.lookup t x' k ok).run P w = .ok v w := by
  unfold lookupP at h
  split at h
  · rename_i kt et b es clock hu hm
    obtain ⟨r, rfl, hb, _, hh⟩ := mapAt_heap good hx hm
    split at h
    · rename_i i v0 hf
      obtain ⟨h1, ⟨u, h2⟩, h3⟩ := findIn_run (w := w) hf
      obtain ⟨hp, rfl⟩ := plainly_eq h
      refine ⟨h1, hp, ?_⟩
      simp only [Instr.lookup, Sem.run_bind, run_underlying hu, Result.andThen_ok, run_getMap hh, Sem.run_pure, h2, h3]
      rfl
    · rename_i hf
      obtain ⟨h1, ⟨u, h2⟩, h3⟩ := findIn_run (w := w) hf
      split at h
      · rename_i z hz
        obtain ⟨hp, rfl⟩ := plainly_eq h
        refine ⟨h1, hp, ?_⟩
        simp only [Instr.lookup, Sem.run_bind, run_underlying hu, Result.andThen_ok, run_getMap hh, Sem.run_pure, h2, h3, run_zeroT hz]
        rfl
      · cases h
    · cases h
  · cases h
theorem run_updateP {φ : Ren} {S S' : List Blk} {fl : Nat} (good : Good φ S w) {t : TypeId} {x x' k v : Value} (hx : VRel φ x x') (h : updateP P fl t S x k v = some S') :
    plain k = true ∧ plain v = true ∧ ∃ w', (Instr.mapUpdate t x' k v).run P w = .ok () w' ∧ Good φ S' w' ∧ Step fl φ S w φ S' w' := by
  unfold updateP at h
  simp only [forceK_eq] at h
  split at h
  · rename_i kt et b es clock hu hm
    obtain ⟨r, rfl, hb, hlt, hh⟩ := mapAt_heap good hx hm
    have hrs : r < w.heap.size := good.low b r hb
    have hput : ∀ o : Obj, (setObj r o).run P w = .ok () { w with heap := w.heap.setIfInBounds r o } := by
      intro o; simp [setObj, Sem.run, hh]
    have hget : ∀ (o : Obj) (s : Nat), ({ w with heap := w.heap.setIfInBounds r o } : World).heap[s]? = if s = r then some o else w.heap[s]? := by
      intro o s
      by_cases e : s = r
      · subst e; simp [hrs]
      · rw [if_neg e]; exact Array.getElem?_setIfInBounds_ne (fun q => e q.symm)
    split at h
    · rename_i hc
      simp only [Bool.and_eq_true, decide_eq_true_eq] at hc
      split at h
      · rename_i i v0 hf
        obtain ⟨h1, ⟨u, h2⟩, h3⟩ := findIn_run (w := w) hf
        split at h
        · rename_i key hk
          cases h
          have h4 := pureSem_run hk w
          obtain ⟨g1, g2⟩ := good.turn (fl := fl) (k := mapBlk (es.toArray.modify i fun e => { e with key := key, val := v }).toList clock) (o := .map (es.toArray.modify i fun e => { e with key := key, val := v }) clock) hlt hb hc.1 (by simp [BRel, mapBlk]) (hget _) (by simp) rfl rfl rfl
          refine ⟨h1, hc.2, _, ?_, g1, g2⟩
          simp only [Instr.mapUpdate, Sem.run_bind, run_underlying hu, Result.andThen_ok, run_getMap hh, h2, h3, h4, hput]
        · cases h
      · rename_i hf
        obtain ⟨h1, ⟨u, h2⟩, h3⟩ := findIn_run (w := w) hf
        cases h
        obtain ⟨g1, g2⟩ := good.turn (fl := fl) (k := mapBlk (es ++ [{ key := k, val := v, born := clock }]) (clock + 1)) (o := .map (es.toArray.push { key := k, val := v, born := clock }) (clock + 1)) hlt hb hc.1 (by simp [BRel, mapBlk]) (hget _) (by simp) rfl rfl rfl
        refine ⟨h1, hc.2, _, ?_, g1, g2⟩
        simp only [Instr.mapUpdate, Sem.run_bind, run_underlying hu, Result.andThen_ok, run_getMap hh, h2, h3, hput]
      · cases h
    · cases h
  · cases h
theorem updateP_set {fl : Nat} {t : TypeId} {S S' : List Blk} {x k v : Value} (h : updateP P fl t S x k v = some S') : ∃ b K, fl ≤ b ∧ S' = S.set b K := by
  unfold updateP at h
  simp only [forceK_eq] at h
  split at h
  · split at h
    · rename_i hc
      simp only [Bool.and_eq_true, decide_eq_true_eq] at hc
      split at h
      · split at h
        · cases h; exact ⟨_, _, hc.1, rfl⟩
        · cases h
      · cases h; exact ⟨_, _, hc.1, rfl⟩
      · cases h
    · cases h
  · cases h
theorem run_rangeP {t : TypeId} {x : Value} {s : ByteArray} (h : rangeP P t x = some s) : x = .string s ∧ (Instr.range t (.string s)).run P w = .ok (.pointer (some ⟨w.heap.size, 0, none⟩)) (w.alloc (.stringIter s 0)) := by
  unfold rangeP at h
  split at h
  · rename_i hu
    cases h
    refine ⟨rfl, ?_⟩
    simp only [Instr.range, Sem.run_bind, run_underlying hu, Result.andThen_ok, Sem.run_pure]
    rfl
  · cases h
theorem nextP_set {fl : Nat} {S S' : List Blk} {x v : Value} (h : nextP fl S x = some (v, S')) : S' = S ∨ ∃ b K, fl ≤ b ∧ S' = S.set b K := by
  unfold nextP at h
  simp only [forceK_eq] at h
  split at h
  · split at h
    · split at h
      · rename_i hc
        simp only [decide_eq_true_eq] at hc
        split at h
        · cases h; exact .inr ⟨_, _, hc, rfl⟩
        · cases h; exact .inl rfl
      · cases h
    · cases h
  · cases h
theorem run_nextP {φ : Ren} {S S' : List Blk} {fl : Nat} (good : Good φ S w) {t : TypeId} {x x' v : Value} (hx : VRel φ x x') (h : nextP fl S x = some (v, S')) :
    plain v = true ∧ ∃ w', (Instr.next x' true t).run P w = .ok v w' ∧ Good φ S' w' ∧ Step fl φ S w φ S' w' := by
  unfold nextP at h
  simp only [forceK_eq] at h
  split at h
  · rename_i b
    split at h
    · rename_i s pos hk
      cases hx with
      | ptr hb =>
        rename_i r
        obtain ⟨o, h1, h2⟩ := good.blk _ _ _ hk hb
        have h2' : o = .stringIter s pos := h2
        subst h2'
        have hrs : r < w.heap.size := good.low b r hb
        have hg : (getObj r).run P w = .ok (.stringIter s pos) w := by simp [getObj, Sem.run, h1]
        split at h
        · rename_i hc
          simp only [decide_eq_true_eq] at hc
          split at h
          · rename_i hp
            generalize hd : Utf8.decode s pos = d at h
            obtain ⟨c, width⟩ := d
            cases h
            have hput : (setObj r (.stringIter s (pos + width))).run P w = .ok () { w with heap := w.heap.setIfInBounds r (.stringIter s (pos + width)) } := by
              simp [setObj, Sem.run, h1]
            obtain ⟨g1, g2⟩ := good.turn (w' := { w with heap := w.heap.setIfInBounds r (.stringIter s (pos + width)) }) (fl := fl) (k := iterBlk s (pos + width)) (o := .stringIter s (pos + width)) (List.getElem?_eq_some_iff.1 hk).1 hb hc (by simp [BRel, iterBlk]) (fun q => by
              by_cases e : q = r
              · subst e; simp [hrs]
              · rw [if_neg e]; exact Array.getElem?_setIfInBounds_ne (fun z => e z.symm)) (by simp) rfl rfl rfl
            refine ⟨by simp [plain, flat, scalar, goInt], _, ?_, g1, g2⟩
            simp only [Instr.next, Sem.run_bind, hg, Result.andThen_ok, hp, if_true, hd, hput, Sem.run_pure]
          · rename_i hp
            cases h
            refine ⟨by simp [plain, flat, scalar], w, ?_, good, Step.refl _ _ _ _⟩
            simp only [Instr.next, Sem.run_bind, hg, Result.andThen_ok, hp, if_false, Sem.run_pure]
        · cases h
    · cases h
  · cases h
theorem run_part_int {e : TypeId} {q : IntKind} (he : P.underlying e = some (.int q)) {xs : Array Value} {off : Nat} {v : Value} (h : xs.toList[off]? = some v) : (part e xs off).run P w = .ok v w := by
  have h' : xs[off]? = some v := by simpa using h
  simp [part, isAgg, run_underlying he, h', Result.andThen]
theorem run_eqFs {d : Nat} {xs ys : Array Value} : ∀ (fs : List Field) (r : Bool), eqFs P xs.toList ys.toList fs = some r → (Op.eqFields (d + 1) xs ys fs).run P w = .ok r w := by
  intro fs
  induction fs with
  | nil => intro r h; cases h; simp [Op.eqFields]
  | cons f fs ih =>
    intro r h
    simp only [eqFs] at h
    split at h
    · cases h
    · rename_i hn
      split at h
      · rename_i q j a k b hu hx hy
        split at h
        · rename_i hjk
          subst hjk
          split at h
          · rename_i r' hr'
            cases h
            have e1 := ih r' hr'
            simp only [Op.eqFields, hn, ne_eq, not_false_eq_true, if_true, Sem.run_bind, run_part_int hu hx, run_part_int hu hy, Result.andThen_ok, run_equalIn_int w d f.type j q a b hu]
            cases hab : (a == b) with
            | true => simpa using e1
            | false => simp
          · cases h
        · cases h
      · cases h
theorem run_eqIs {d : Nat} {e : TypeId} {q : IntKind} (hu : P.underlying e = some (.int q)) {xs ys : Array Value} {n : Nat} : ∀ (is : List Nat) (r : Bool), eqIs xs.toList ys.toList n is = some r → (Op.eqItems (d + 1) e n xs ys is).run P w = .ok r w := by
  intro is
  induction is with
  | nil => intro r h; cases h; simp [Op.eqItems]
  | cons i is ih =>
    intro r h
    simp only [eqIs] at h
    split at h
    · rename_i j a k b hx hy
      split at h
      · rename_i hjk
        subst hjk
        split at h
        · rename_i r' hr'
          cases h
          have e1 := ih r' hr'
          simp only [Op.eqItems, Sem.run_bind, run_part_int hu hx, run_part_int hu hy, Result.andThen_ok, run_equalIn_int w d e j q a b hu]
          cases hab : (a == b) with
          | true => simpa using e1
          | false => simp
        · cases h
      · cases h
    · cases h
theorem run_eqAgg {t : TypeId} {xs ys : Array Value} {r : Bool} (h : eqAgg P t xs.toList ys.toList = some r) : P.eqGuardType P.depth t = false ∧ (Op.equal t (.agg xs) (.agg ys)).run P w = .ok r w := by
  unfold eqAgg at h
  split at h
  · cases h
  · rename_i hg
    refine ⟨by simpa using hg, ?_⟩
    split at h
    · rename_i fs hu
      split at h
      · cases h
      · rename_i hs
        have hfs : P.fieldsOf t = fs := by simp [Program.fieldsOf, hu]
        have := run_equalIn_struct w 9999 t xs ys (by rw [hfs]; exact hu) (by simpa using hs)
        rw [hfs] at this
        exact this.trans (run_eqFs (d := 9998) _ _ h)
    · rename_i n e hu
      split at h
      · rename_i q hq
        obtain ⟨i, hi⟩ := info_of_underlying hq
        exact (run_equalIn_array w 9999 xs ys hu hi).trans (run_eqIs (d := 9998) hq _ _ h)
      · cases h
    · cases h
theorem run_fastEql {op : BinOp} {t : TypeId} {x y : Operand} {xs ys : Array Value} {v : Value} (h : fastEql P op t xs.toList ys.toList = some v) :
    (do eqGuard op t x y (.agg xs) (.agg ys); binOp op t (.agg xs) (.agg ys) : Sem Value).run P w = .ok v w ∧ ∃ b, v = .bool b := by
  unfold fastEql at h
  split at h
  · split at h
    · rename_i r hr
      cases h
      obtain ⟨h1, h2⟩ := run_eqAgg (w := w) hr
      refine ⟨?_, _, rfl⟩
      simp only [eqGuard, Bool.not_true, Bool.false_eq_true, if_false, Sem.run_bind, run_program, Result.andThen_ok, h1, Bool.not_false, if_true, Sem.run_pure, binOp, h2]
    · cases h
  · split at h
    · rename_i r hr
      cases h
      obtain ⟨h1, h2⟩ := run_eqAgg (w := w) hr
      refine ⟨?_, _, rfl⟩
      simp only [eqGuard, Bool.not_true, Bool.false_eq_true, if_false, Sem.run_bind, run_program, Result.andThen_ok, h1, Bool.not_false, if_true, Sem.run_pure, binOp, h2]
    · cases h
  · cases h
end
end Go.Proofs.XX.Vm
