/- A small evaluator over a shadow heap, part 12: a region that draws its order. -/
import Derived.Test.YtonjnnjnojmpjaaDoorV11
namespace Go.Proofs.XX.Vm
open Go Go.RowKit

theorem seq1_eq {a b : Value} (h : seq1 a b = true) : a = b := by
  unfold seq1 at h
  split at h
  case h_8 f x c g y d =>
    simp only [Bool.and_eq_true, beq_iff_eq, List.isEmpty_iff, Array.toList_eq_nil_iff] at h
    obtain ⟨⟨⟨⟨h1, h2⟩, h3⟩, h4⟩, h5⟩ := h
    subst h1; subst h2; subst h3; subst h4; subst h5; rfl
  case h_3 a b =>
    simp only [beq_iff_eq, Array.toList_inj] at h
    rw [ByteArray.ext h]
  all_goals first | rfl | (simp_all; done) | cases h
theorem leq_eq {p : Value → Value → Bool} (hp : ∀ a b, p a b = true → a = b) : ∀ {l m : List Value}, leq p l m = true → l = m := by
  intro l
  induction l with
  | nil => intro m h; cases m with
    | nil => rfl
    | cons _ _ => simp [leq] at h
  | cons v l ih => intro m h; cases m with
    | nil => simp [leq] at h
    | cons u m =>
      simp only [leq, Bool.and_eq_true] at h
      rw [hp _ _ h.1, ih h.2]
theorem seq2_eq {a b : Value} (h : seq2 a b = true) : a = b := by
  unfold seq2 at h
  split at h
  · rw [Array.toList_inj.1 (leq_eq (fun _ _ => seq1_eq) h)]
  · exact seq1_eq h
theorem seq3_eq {a b : Value} (h : seq3 a b = true) : a = b := by
  unfold seq3 at h
  split at h
  · rw [Array.toList_inj.1 (leq_eq (fun _ _ => seq2_eq) h)]
  · exact seq2_eq h
theorem heq1_eq : ∀ {l m : List Blk}, heq1 l m = true → l = m := by
  intro l
  induction l with
  | nil => intro m h; cases m with
    | nil => rfl
    | cons _ _ => simp [heq1] at h
  | cons k l ih => intro m h; cases m with
    | nil => simp [heq1] at h
    | cons j m =>
      simp only [heq1, Bool.and_eq_true, beq_iff_eq, Option.isNone_iff_eq_none] at h
      obtain ⟨⟨⟨⟨⟨h1, h2⟩, h3⟩, h5⟩, h6⟩, h4⟩ := h
      rw [ih h4]
      obtain ⟨c1, e1, r1, o1⟩ := k
      obtain ⟨c2, e2, r2, o2⟩ := j
      simp only at h1 h2 h3 h5 h6
      rw [leq_eq (fun _ _ => seq1_eq) h1, h2, h3, h5, h6]

section
variable {P : Program} {ro : Option Nat}

theorem splitTail_eq {md : Region.Mode} {ops : Array Oper} : ∀ (σ done : List Nat), (splitTail md ops done σ).1 ++ (splitTail md ops done σ).2 = σ := by
  intro σ
  induction σ with
  | nil => intro done; rfl
  | cons i l ih =>
    intro done
    simp only [splitTail]
    split
    · split
      · rfl
      · simp [ih (i :: done)]
    · rfl

theorem topo_pre {md : Region.Mode} {ops : Array Oper} : ∀ (l done : List Nat), preOk md ops done l = true → Topo md ops done l := by
  intro l
  induction l with
  | nil => intro _ _; exact trivial
  | cons i l ih =>
    intro done h
    simp only [preOk] at h
    split at h
    · rename_i o ho
      rw [getR_arr] at ho
      simp only [Bool.and_eq_true] at h
      exact ⟨⟨o, ho, h.1.1.2⟩, ih _ h.2⟩
    · cases h

/-- The region, in every order that the edges of this kind allow. -/
theorem evRegion_wp {Sg : List Blk} {cl : Caller} (hcl : ClOk P Sg cl) {fl : Nat} (hfl : Sg.length ≤ fl) {md : Region.Mode} {ops : Array Oper} {σ : List Nat} {T T' : List Value} {S S' : List Blk}
    (hS : Sg.length ≤ S.length) (h : evRegion P Sg.length cl fl md ops σ T S = some (T', S')) : Ext fl S S' ∧
    ∀ (Q : Exit → Act → World → Prop) (φ : Ren) (a : Act) (w : World), Inv Sg φ S w → LRel φ T a.tmps.toList → Fresh φ S.length S'.length →
      (∀ (ψ : Ren) (a' : Act) (w' : World), Good ψ S' w' → LRel ψ T' a'.tmps.toList → a'.defers = a.defers → Step fl φ S w ψ S' w' → Q .normal a' w') →
      wpAnyIn (wideAt ro) 0 P md ops Q ops.size (Array.replicate ops.size false) a w := by
  unfold evRegion at h
  split at h
  · rename_i pre tl hst
    obtain ⟨hcov, hsplit, hpreok, htailok⟩ : (List.range ops.size).all (fun i => σ.contains i) = true ∧ pre ++ tl = σ ∧ preOk md ops [] pre = true ∧ tailOk md ops none pre.reverse tl = true := by
      unfold regionStatic at hst
      simp only [forceK_eq, allR_eq] at hst
      split at hst
      · rename_i hc
        have hsplit := splitTail_eq (md := md) (ops := ops) σ []
        generalize splitTail md ops [] σ = st at hst hsplit
        obtain ⟨p, q⟩ := st
        simp only at hst hsplit
        split at hst
        · rename_i hc2
          simp only [Bool.and_eq_true] at hc2
          cases hst
          refine ⟨?_, hsplit, hc2.2.1, hc2.2.2⟩
          simp only [List.all_eq_true] at hc ⊢
          intro i hi
          simpa using anyR_mem.1 (hc i hi)
        · cases hst
      · cases hst
    split at h
    · rename_i Tm Sm hpre
      obtain ⟨recs, r1, r2, r3, r4, r5, _, r7, r8, r9⟩ := evPre_recs hcl pre [] T Tm S Sm hS hpreok hpre
      have R : Recs P Sg cl md ops T Tm S Sm recs := ⟨r2, r3, r4, r5, fun c hc x hx => (r7 c hc x hx).resolve_left (by simp), r8, r9⟩
      obtain ⟨t1, t2, t3⟩ := evTail_wp (ro := ro) (Q := fun _ _ _ => True) hcl hfl tl none pre.reverse Tm T' Sm S' (Nat.le_trans hS r2.1) htailok h
      have hcover : ∀ i, i < ops.size → i ∈ pre ∨ i ∈ tl := by
        intro i hi
        have := (List.all_eq_true.1 hcov) i (by simp [hi])
        rw [← hsplit] at this
        simpa using this
      refine ⟨⟨Nat.le_trans r2.1 t1.1, fun b e1 e2 => by rw [t1.2 b e1 (Nat.lt_of_lt_of_le e2 r2.1), r2.2 b e2 e2]⟩, ?_⟩
      intro Q φ0 a0 w0 inv0 hT hf hQ
      obtain ⟨_, _, t4⟩ := evTail_wp (ro := ro) (Q := Q) hcl hfl tl none pre.reverse Tm T' Sm S' (Nat.le_trans hS r2.1) htailok h
      have finish : ∀ (fuel : Nat) (listed : Array Bool) (a : Act) (φ : Ren) (w : World), PreInv md ops recs T S Sm φ0 a0 w0 listed a φ w → left ops.size listed ≤ fuel → (∀ c ∈ recs, On listed c.i) → wpAnyIn (wideAt ro) 0 P md ops Q fuel listed a w := by
        intro fuel listed a φ w I hl hall
        have hstep : Step fl φ0 S w0 φ Sm w := by
          refine ⟨I.ext, fun b r hb => ?_, r2.1, fun b e1 e2 => r2.2 b e2 e2, fun r e1 _ => I.frame r e1, I.hsize, I.os, I.tape, I.output⟩
          rcases I.dom b r hb with h1 | ⟨c, hc, _, h2, h3, h4⟩
          · exact .inl h1
          · exact .inr ⟨Nat.le_trans (r4 c hc).lo.1 h2, Nat.lt_of_lt_of_le h3 (r4 c hc).hi.1, h4⟩
        have hrel : LRel φ Tm a.tmps.toList := by
          refine ⟨by rw [r3, I.tsize]; simp, fun i v v' hv hv' => ?_⟩
          obtain ⟨i1, i2⟩ := I.tmp i v' (by simpa using hv')
          by_cases hex : ∃ d ∈ recs, d.o.dst = some i
          · obtain ⟨d, hd, hdst⟩ := hex
            have hlt : i < T.length := by rw [← r3]; exact (List.getElem?_eq_some_iff.1 hv).1
            have := r9.1 d hd trivial i hdst hlt
            rw [hv] at this; cases this
            exact i1 d hd (hall d hd) hdst
          · have hno : ∀ d ∈ recs, d.o.dst ≠ some i := fun d hd e => hex ⟨d, hd, e⟩
            have := r9.2 i fun d hd _ => hno d hd
            exact i2 (fun d hd _ => hno d hd) v (this ▸ hv)
        have hinv : Inv Sg φ Sm w := ⟨⟨I.good, fun g hg => I.ext _ _ (inv0.ok.glob g hg)⟩, fun g hg => by
          have hgS : g < S.length := Nat.lt_of_lt_of_le hg hS
          rw [r2.2 g hgS hgS, inv0.base g hg], Nat.le_trans hS r2.1⟩
        refine t4 fuel listed φ a w I.size (fun i => ⟨fun hi => ?_, fun hi => ?_⟩) (fun i hi => ?_) (by simp) hl hinv hrel (hstep.fresh hf) ?_
        · obtain ⟨c, hc, rfl⟩ := I.sub i hi
          simp only [List.mem_reverse]
          rw [← r1]; exact List.mem_map_of_mem hc
        · simp only [List.mem_reverse] at hi
          rw [← r1] at hi
          obtain ⟨c, hc, rfl⟩ := List.mem_map.1 hi
          exact hall c hc
        · simpa using hcover i hi
        · intro ψ a' w' g1 g2 g3 g4
          exact hQ ψ a' w' g1 g2 (by rw [g3, I.defers]) (hstep.trans g4 hf)
      have main : ∀ (fuel : Nat) (listed : Array Bool) (a : Act) (φ : Ren) (w : World), PreInv md ops recs T S Sm φ0 a0 w0 listed a φ w → left ops.size listed ≤ fuel → wpAnyIn (wideAt ro) 0 P md ops Q fuel listed a w := by
        intro fuel
        induction fuel with
        | zero =>
          intro listed a φ w I hl
          exact finish 0 listed a φ w I hl (by
            intro c hc
            have hi : c.i < ops.size := (Array.getElem?_eq_some_iff.1 (r4 c hc).op).1
            have := left_zero (Nat.le_zero.1 hl) c.i hi
            have hsz := I.size
            unfold On
            simp [Array.getD, hsz, hi] at this
            simp [hsz, hi, this])
        | succ fuel ih =>
          intro listed a φ w I hl
          by_cases hall : ∀ c ∈ recs, On listed c.i
          · exact finish (fuel + 1) listed a φ w I hl hall
          · obtain ⟨c0, hc0, hoff0⟩ : ∃ c ∈ recs, ¬ On listed c.i := by
              apply Classical.byContradiction
              intro hno
              exact hall fun c hc => Classical.byContradiction fun hn => hno ⟨c, hc, hn⟩
            refine ⟨fun hempty => ?_, fun k hk => ?_⟩
            · exact absurd hempty (Topo.first I.size pre [] (topo_pre _ _ hpreok) (by simp) ⟨c0.i, by rw [← r1]; exact List.mem_map_of_mem hc0, hoff0⟩)
            · obtain ⟨p, hp, hpoff, hpe⟩ := mem_ready.1 hk
              have hkoff : ¬ On listed k := fun e => by unfold On at e; rw [hpoff] at e; cases e
              have hkpre : k ∈ pre := by
                rcases hcover k (Array.getElem?_eq_some_iff.1 hp).1 with h1 | h1
                · exact h1
                · exfalso
                  cases tl with
                  | nil => cases h1
                  | cons y tl =>
                    have hto := htailok
                    simp only [tailOk] at hto
                    split at hto
                    · rename_i o2 ho2
                      rw [getR_arr] at ho2
                      simp only [Bool.and_eq_true] at hto
                      obtain ⟨⟨⟨_, b2⟩, b3⟩, b4⟩ := hto
                      have hynd : y ∉ pre := fun e => by rw [anyR_mem.2 (List.mem_reverse.2 e)] at b2; cases b2
                      cases h1 with
                      | head =>
                        rw [hp] at ho2; cases ho2
                        simp only [aheadOk, allR_eq] at b3
                        have hb := (List.all_eq_true.1 b3) c0.i (by simp; rw [← r1]; exact List.mem_map_of_mem hc0)
                        simp only [behind, anyR_eq, Bool.or_eq_true, List.any_eq_true, Bool.and_eq_true] at hb
                        rcases hb with hb | ⟨k2, _, hb1, hb2⟩
                        · exact hoff0 (hpe _ hb)
                        · obtain ⟨c2, hc2, rfl⟩ := I.sub k2 (hpe _ hb1)
                          rw [getR_arr, (r4 c2 hc2).op] at hb2
                          exact hoff0 (I.closed c2 hc2 (hpe _ hb1) _ hb2)
                      | tail _ h1 =>
                        obtain ⟨p2, x, q1, q2, q3⟩ := tailOk_key _ _ _ b4 k h1
                        rw [hp] at q1; cases q1
                        obtain ⟨c, hc, hci⟩ := I.sub x (hpe x q2)
                        have hxpre : x ∈ pre := by rw [← hci, ← r1]; exact List.mem_map_of_mem hc
                        rcases q3 with rfl | ⟨_, q4⟩
                        · exact hynd hxpre
                        · exact q4 (List.mem_cons_of_mem _ (by simpa using hxpre))
                    · cases hto
              obtain ⟨c, hc, hci⟩ : ∃ c ∈ recs, c.i = k := by
                rw [← r1] at hkpre
                obtain ⟨c, hc, e⟩ := List.mem_map.1 hkpre
                exact ⟨c, hc, e⟩
              subst hci
              have hpo : p = c.o := by have := (r4 c hc).op; rw [hp] at this; cases this; rfl
              subst hpo
              refine pre_step hcl R inv0 hf t1.1 I hc hkoff hpe fun a' ψ w' I' => ih _ a' ψ w' I' ?_
              have := left_set I.size (Array.getElem?_eq_some_iff.1 hp).1 (show listed.getD c.i true = false by
                have hlt : c.i < listed.size := by rw [I.size]; exact (Array.getElem?_eq_some_iff.1 hp).1
                rw [Array.getElem?_eq_getElem hlt] at hpoff
                simp [Array.getD, hlt]
                simpa using hpoff)
              omega
      refine main ops.size _ a0 φ0 w0 ?_ ?_
      · have hoff : ∀ i, ¬ On (Array.replicate ops.size false) i := by
          intro i e
          unfold On at e
          rw [Array.getElem?_replicate] at e
          split at e <;> simp at e
        refine ⟨by simp, fun i hi => absurd hi (hoff i), fun c _ hi => absurd hi (hoff _), ⟨fun b k r hk hr => ?_, inv0.ok.good.low, inv0.ok.good.inj⟩, fun _ _ e => e, fun _ _ e => .inl e, Nat.le_refl _, fun _ _ => rfl, rfl, rfl, rfl, by simpa using hT.1, rfl,
          fun t v' hv' => ⟨fun c _ hi => absurd hi (hoff _), fun _ v hv => hT.2 t v v' hv (by simpa using hv')⟩⟩
        by_cases hb : b < S.length
        · exact inv0.ok.good.blk b k r (by rw [← r2.2 b hb hb]; exact hk) hr
        · have := hf b (by omega) (Nat.lt_of_lt_of_le (List.getElem?_eq_some_iff.1 hk).1 t1.1)
          rw [this] at hr; cases hr
      · have : left ops.size (Array.replicate ops.size false) ≤ (List.range ops.size).length := List.countP_le_length
        simpa using this
    · cases h
  · cases h
end
end Go.Proofs.XX.Vm
