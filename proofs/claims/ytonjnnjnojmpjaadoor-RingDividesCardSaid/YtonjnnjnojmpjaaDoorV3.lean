/- A small evaluator over a shadow heap, part 3: what is evaluated is what the model runs, operation by operation. -/
import Derived.Test.YtonjnnjnojmpjaaDoorV2
namespace Go.Proofs.XX.Vm
open Go Go.RowKit

structure Ok (gl : Nat) (φ : Ren) (S : List Blk) (w : World) : Prop where
  good : Good φ S w
  glob : ∀ g, g < gl → φ g = some g

theorem opd_rel {gl : Nat} {φ : Ren} {S : List Blk} {w : World} (ok : Ok gl φ S w) {T : List Value} {a : Act} (hT : LRel φ T a.tmps.toList) {x : Operand} {v : Value}
    (h : opd gl T x = some v) : VRel φ v (a.eval x) := by
  cases x with
  | tmp t =>
    simp only [opd, nthD_eq, Option.some.injEq] at h
    subst h
    simp only [Act.eval]
    cases ht : T[t]? with
    | none =>
      have := hT.none ht
      simp only [Array.getElem?_toList] at this
      simp [this, undef_refl]
    | some v =>
      obtain ⟨v', h1, h2⟩ := hT.get ht
      simp only [Array.getElem?_toList] at h1
      simpa [h1] using h2
  | const v =>
    simp only [opd] at h
    split at h
    · rename_i hp; cases h; exact plain_refl hp
    · cases h
  | global g =>
    simp only [opd] at h
    split at h
    · rename_i hp; cases h; exact .ptr (ok.glob g hp)
    · cases h
  | func f => simp only [opd, Option.some.injEq] at h; subst h; exact plain_refl (by simp [plain, flat, scalar])

theorem opds_rel {gl : Nat} {φ : Ren} {S : List Blk} {w : World} (ok : Ok gl φ S w) {T : List Value} {a : Act} (hT : LRel φ T a.tmps.toList) {l : List Operand} {vs : List Value}
    (h : opds gl T l = some vs) : LRel φ vs (l.map a.eval) := by
  induction l generalizing vs with
  | nil => simp only [opds, Option.some.injEq] at h; subst h; exact LRel.nil φ
  | cons x l ih =>
    simp only [opds] at h
    split at h
    · rename_i v vs' h1 h2; cases h; exact LRel.cons (opd_rel ok hT h1) (ih h2)
    · cases h

section
variable {P : Program} {w : World}
theorem run_isAgg {t : TypeId} {b : Bool} (h : isAggT P t = some b) : (isAgg t).run P w = .ok b w := by
  unfold isAggT at h
  cases hu : P.underlying t with
  | none => rw [hu] at h; cases h
  | some d =>
    rw [hu] at h
    unfold isAgg
    simp only [Sem.run_bind, run_underlying hu, Result.andThen_ok]
    cases d <;> simp_all
theorem run_sizeT {t : TypeId} {n : Nat} (h : sizeT P t = some n) : (sizeOf t).run P w = .ok n w := by
  unfold sizeT at h
  cases hi : P.info? t with
  | none => rw [hi] at h; cases h
  | some i => rw [hi] at h; cases h; simp [sizeOf, run_typeInfo w hi]
theorem run_zeroT {t : TypeId} {z : Value} (h : zeroT P t = some z) : (zeroValue t).run P w = .ok z w := by
  unfold zeroT at h
  cases hi : P.info? t with
  | none => rw [hi] at h; cases h
  | some i =>
    rw [hi] at h
    simp only at h
    unfold zeroValue
    simp [Sem.run_bind, run_typeInfo w hi, h]

theorem cell_of_heap {r o : Nat} {c : Array Value} {e : TypeId} {fz : Nat × Nat} (h : w.heap[r]? = some (.cells c e fz)) : w.cell? ⟨r, o, none⟩ = c[o]? := by
  simp [World.cell?, h]
theorem run_loadCellsFrom {r o : Nat} {c : Array Value} {e : TypeId} {fz : Nat × Nat} (h : w.heap[r]? = some (.cells c e fz)) : ∀ (n i : Nat) (acc : Array Value), o + i + n ≤ c.size →
    (loadCellsFrom ⟨r, o, none⟩ i n acc).run P w = .ok (acc ++ ((c.toList.drop (o + i)).take n).toArray) w := by
  intro n
  induction n with
  | zero => intro i acc _; simp [loadCellsFrom, Sem.run_pure]
  | succ n ih =>
    intro i acc hn
    have hadd : (⟨r, o, none⟩ : Addr).add i = ⟨r, o + i, none⟩ := by unfold Addr.add; split <;> simp_all
    have hc : w.cell? ⟨r, o + i, none⟩ = some c[o + i] := by rw [cell_of_heap h]; simp
    simp only [loadCellsFrom, Sem.run_bind, hadd, Go.load, Sem.run, hc, Result.andThen_ok]
    rw [ih _ _ (by omega)]
    have : c.toList.drop (o + i) = c[o + i] :: c.toList.drop (o + (i + 1)) := by
      rw [List.drop_eq_getElem_cons (by simp; omega)]; simp [Nat.add_assoc]
    rw [this]
    simp

theorem run_load {φ : Ren} {S : List Blk} (good : Good φ S w) {t : TypeId} {p p' v : Value} (hp : VRel φ p p') (h : load P t S p = some v) :
    ∃ v', (Instr.loadAt t p').run P w = .ok v' w ∧ VRel φ v v' := by
  unfold load at h
  split at h
  · rename_i b o
    cases hp with
    | ptr hb =>
      rename_i r
      split at h
      · rename_i cs e ro hk
        obtain ⟨c', fz, h1, h2, _⟩ := good.cells hk hb
        unfold readAt at h
        simp only [forceK_eq] at h
        unfold Instr.loadAt loadVar
        simp only [Instr.sureAddr, Sem.run_bind, Sem.run_pure, Result.andThen_ok]
        split at h
        · rename_i ha
          obtain ⟨v', g1, g2⟩ := h2.get h
          refine ⟨v', ?_, g2⟩
          have hc : w.cell? ⟨r, o, none⟩ = some v' := by rw [cell_of_heap h1]; simpa using g1
          simp [run_isAgg ha, Go.load, Sem.run, hc]
        · rename_i ha
          split at h
          · rename_i n hn
            split at h
            · rename_i hle
              cases h
              have hl : c'.toList.length = cs.length := h2.1.symm
              refine ⟨.agg ((c'.toList.drop o).take n).toArray, ?_, .agg (by simpa using ((h2.drop o).take n).1) (by simpa using ((h2.drop o).take n).2)⟩
              simp only [run_isAgg ha, Result.andThen_ok, if_true, Sem.run_bind, run_sizeT hn, loadCells]
              rw [run_loadCellsFrom h1 n 0 #[] (by simp at hl; omega)]
              simp [Sem.run_pure]
            · cases h
          · cases h
        · cases h
      · cases h
  · cases h

/-- One store. -/
theorem store_cell {φ : Ren} {S : List Blk} {fl : Nat} (good : Good φ S w) {b r o : Nat} {cs : List Value} {e : TypeId} {ro : Bool} (hk : S[b]? = some ⟨cs, e, ro, none⟩) (hb : φ b = some r) (hfl : fl ≤ b) (hro : ro = false)
    {v v' : Value} (hv : VRel φ v v') (hc : cellish v = true) (ho : o < cs.length) :
    (Go.store ⟨r, o, none⟩ v').run P w = .ok () (w.setCell ⟨r, o, none⟩ v') ∧ Good φ (S.set b ⟨cs.set o v, e, ro, none⟩) (w.setCell ⟨r, o, none⟩ v') ∧
      Step fl φ S w φ (S.set b ⟨cs.set o v, e, ro, none⟩) (w.setCell ⟨r, o, none⟩ v') := by
  obtain ⟨c', fz, h1, h2, h3⟩ := good.cells hk hb
  have hlen : c'.size = cs.length := by have := h2.1; simp at this; omega
  have hcell : w.cell? ⟨r, o, none⟩ = some c'[o] := by rw [cell_of_heap h1]; simp [hlen, ho]
  have hfz : w.frozen? ⟨r, o, none⟩ = false := by simp [World.frozen?, h1, h3 hro]
  have hheap : ∀ s, (w.setCell ⟨r, o, none⟩ v').heap[s]? = if s = r then some (.cells (c'.setIfInBounds o v') e fz) else w.heap[s]? := by
    intro s
    simp only [World.setCell, Array.getElem?_modify]
    by_cases hs : s = r
    · subst hs; simp [h1]
    · rw [if_neg (by omega), if_neg hs]
  have hbl : b < S.length := (List.getElem?_eq_some_iff.1 hk).1
  refine ⟨?_, good.turn hbl hb hfl (show BRel φ ⟨cs.set o v, e, ro, none⟩ _ from ⟨c'.setIfInBounds o v', fz, rfl, by simpa using h2.set hv o, h3⟩) hheap (by simp [World.setCell]) rfl rfl rfl⟩
  cases hv <;> first | (simp [Go.store, Sem.run, hcell, hfz]; done) | (simp [cellish] at hc; done)

theorem store_cells {φ : Ren} {fl : Nat} {b r : Nat} (hb : φ b = some r) (hfl : fl ≤ b) : ∀ (vs vs' : List Value) (S : List Blk) (w : World) (cs : List Value) (e : TypeId) (ro : Bool) (o i : Nat), Good φ S w → S[b]? = some ⟨cs, e, ro, none⟩ → ro = false →
    LRel φ vs vs' → vs.all cellish = true → o + i + vs.length ≤ cs.length →
    ∃ w', (storeCells ⟨r, o, none⟩ vs' i).run P w = .ok () w' ∧ Good φ (S.set b ⟨writeAt cs (o + i) vs, e, ro, none⟩) w' ∧
      Step fl φ S w φ (S.set b ⟨writeAt cs (o + i) vs, e, ro, none⟩) w' := by
  intro vs
  induction vs with
  | nil =>
    intro vs' S w cs e ro o i good hk _ hvs _ _
    cases vs' with
    | cons _ _ => simp [LRel] at hvs
    | nil =>
      have : S.set b ⟨writeAt cs (o + i) [], e, ro, none⟩ = S := by
        refine List.ext_getElem? fun j => ?_
        by_cases hj : b = j
        · subst hj; rw [List.getElem?_set_self (List.getElem?_eq_some_iff.1 hk).1, hk]; rfl
        · rw [List.getElem?_set_ne hj]
      rw [this]
      exact ⟨w, by simp [storeCells], good, Step.refl _ _ _ _⟩
  | cons v vs ih =>
    intro vs' S w cs e ro o i good hk hro hvs hall hle
    cases vs' with
    | nil => simp [LRel] at hvs
    | cons v' vs' =>
      simp only [List.all_cons, Bool.and_eq_true] at hall
      simp only [List.length_cons] at hle
      obtain ⟨e1, e2, e3⟩ := store_cell (P := P) good hk hb hfl hro hvs.head hall.1 (show o + i < cs.length by omega)
      have hbl : b < S.length := (List.getElem?_eq_some_iff.1 hk).1
      obtain ⟨w', f1, f2, f3⟩ := ih vs' (S.set b ⟨cs.set (o + i) v, e, ro, none⟩) (w.setCell ⟨r, o + i, none⟩ v') (cs.set (o + i) v) e ro o (i + 1) e2
        (by rw [List.getElem?_set_self hbl]) hro hvs.tail hall.2 (by simp; omega)
      have hadd : (⟨r, o, none⟩ : Addr).add i = ⟨r, o + i, none⟩ := by unfold Addr.add; split <;> simp_all
      rw [List.set_set] at f2 f3
      refine ⟨w', ?_, f2, e3.trans f3 ?_⟩
      · simp only [storeCells, Sem.run_bind, hadd, e1, Result.andThen_ok, f1]
      · intro x h1 h2; simp at h2; omega

theorem run_store {φ : Ren} {S S' : List Blk} {fl : Nat} (good : Good φ S w) {t : TypeId} {p p' v v' : Value} (hp : VRel φ p p') (hv : VRel φ v v') (h : store P fl t S p v = some S') :
    ∃ w', (Instr.storeAt t p' v').run P w = .ok () w' ∧ Good φ S' w' ∧ Step fl φ S w φ S' w' := by
  unfold store at h
  simp only [forceK_eq] at h
  split at h
  · rename_i b o
    cases hp with
    | ptr hb =>
      rename_i r
      split at h
      · rename_i cs e ro n hk hn
        split at h
        · rename_i hc
          simp only [Bool.and_eq_true, decide_eq_true_eq, Bool.not_eq_true', beq_iff_eq] at hc
          obtain ⟨⟨⟨⟨c1, c2⟩, c3⟩, c4⟩, c5⟩ := hc
          cases h
          have hcl : LRel φ v.cells.toList v'.cells.toList := by
            cases hv
            case agg hx ex => exact ⟨hx, ex⟩
            all_goals exact LRel.cons (by constructor <;> assumption) (LRel.nil φ)
          obtain ⟨w', g1, g2, g3⟩ := store_cells (P := P) hb c1 v.cells.toList v'.cells.toList S w cs e ro o 0 good hk c2 hcl c4 (by omega)
          refine ⟨w', ?_, g2, g3⟩
          unfold Instr.storeAt storeVar
          have hsz : v'.cells.size = n := by have := hcl.1; simp at this c3; omega
          simp [Instr.sureAddr, run_sizeT hn, hsz, g1]
        · cases h
      · cases h
  · cases h
end
end Go.Proofs.XX.Vm
