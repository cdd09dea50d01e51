/- A small evaluator over a shadow heap, part 22: regions with operations that float. -/
import Derived.Test.YtonjnnjnojmpjaaDoorV21
namespace Go.Proofs.XX.Vm
open Go Go.RowKit

section
variable {P : Program} {ro : Option Nat}

theorem splitFloat_eq {md : Region.Mode} {ops : Array Oper} : ∀ (σ done : List Nat), (splitFloat md ops done σ).1 ++ (splitFloat md ops done σ).2 = σ := by
  intro σ
  induction σ with
  | nil => intro done; rfl
  | cons i l ih =>
    intro done
    simp only [splitFloat]
    split
    · split
      · rfl
      · simp [ih (i :: done)]
    · rfl

theorem Topo.append {md : Region.Mode} {ops : Array Oper} : ∀ (l m done : List Nat), Topo md ops done l → Topo md ops (l.reverse ++ done) m → Topo md ops done (l ++ m) := by
  intro l
  induction l with
  | nil => intro m done _ h; simpa using h
  | cons i l ih =>
    intro m done h k
    exact ⟨h.1, ih m (i :: done) h.2 (by simpa using k)⟩

theorem evFloat_wp {Sg : List Blk} {cl : Caller} (hcl : ClOk P Sg cl) {fl : Nat} (hfl : Sg.length ≤ fl) {md : Region.Mode} {ops : Array Oper} {σ : List Nat} {T T' : List Value} {S S' : List Blk}
    (hS : Sg.length ≤ S.length) (h : evFloat P Sg.length cl fl md ops σ T S = some (T', S')) : Ext fl S S' ∧
    ∀ (Q : Exit → Act → World → Prop) (φ : Ren) (a : Act) (w : World), Inv Sg φ S w → LRel φ T a.tmps.toList → Fresh φ S.length S'.length →
      (∀ (ψ : Ren) (a' : Act) (w' : World), Good ψ S' w' → LRel ψ T' a'.tmps.toList → a'.defers = a.defers → Step fl φ S w ψ S' w' → Q .normal a' w') →
      wpAnyIn (wideAt ro) 0 P md ops Q ops.size (Array.replicate ops.size false) a w := by
  unfold evFloat at h
  split at h
  · rename_i pre F tl hst
    obtain ⟨hcov, hsplit, hpreok, htailok, hchain, hfl1, hF⟩ : (List.range ops.size).all (fun i => σ.contains i) = true ∧ pre ++ tl = σ ∧ preOk md ops [] pre = true ∧ preOk md ops pre.reverse tl = true ∧ chainedAll md ops tl = true ∧
        (∀ j ∈ F, floatOk md ops j = true) ∧ F = floatsOf md ops pre tl := by
      unfold floatStatic at hst
      simp only [forceK_eq, allR_eq] at hst
      split at hst
      · rename_i hc
        have hsplit := splitFloat_eq (md := md) (ops := ops) σ []
        generalize splitFloat md ops [] σ = st at hst hsplit
        obtain ⟨p, q⟩ := st
        simp only at hst hsplit
        split at hst
        · rename_i hc2
          simp only [Bool.and_eq_true] at hc2
          cases hst
          refine ⟨?_, hsplit, hc2.1.1.1, hc2.1.1.2, hc2.1.2, List.all_eq_true.1 hc2.2, rfl⟩
          simp only [List.all_eq_true] at hc ⊢
          intro i hi
          simpa using anyR_mem.1 (hc i hi)
        · cases hst
      · cases hst
    split at h
    · rename_i Tm Sm hpre
      split at h
      · rename_i B hB
        obtain ⟨rP, r1, r2, r3, r4, r5, _, r7, r8, r9⟩ := evPre_recs hcl pre [] T Tm S Sm hS hpreok hpre
        have RP : Recs P Sg cl md ops T Tm S Sm rP := ⟨r2, r3, r4, r5, fun c hc x hx => (r7 c hc x hx).resolve_left (by simp), r8, r9⟩
        have hmemP : ∀ x, x ∈ pre.reverse ↔ ∃ d ∈ rP, d.i = x := by
          intro x
          simp only [List.mem_reverse]
          rw [← r1]; simp
        obtain ⟨rT, t1, t2, t3, t4, t5, t6, t7, t8, t9⟩ := tail_recs tl B pre.reverse rP Tm T' Sm S' hmemP (fun c hc => (r4 c hc).op) r9 r3 htailok h
        have hlt : ∀ c ∈ rP, ∀ d ∈ rT, c.i ∈ d.done ∧ c.i ≠ d.i := by
          intro c hc d hd
          have := t5 d hd c.i ((hmemP _).2 ⟨c, hc, rfl⟩)
          exact ⟨this, fun e => (t3 d hd).new (e ▸ this)⟩
        have hsubP : ∀ c ∈ rP, ∀ x ∈ c.done, ∃ d ∈ rP, d.i = x := fun c hc x hx => (r7 c hc x hx).resolve_left (by simp)
        have R : RegRecs md ops T T' (rP ++ rT) := by
          refine ⟨t2, fun c hc => ?_, List.pairwise_append.2 ⟨r5.imp fun h => h.2, t4, fun c hc d hd => ⟨(hlt c hc d hd).1, fun x hx => ?_⟩⟩, fun c hc x hx => ?_, fun c hc => ?_, t8⟩
          · rcases List.mem_append.1 hc with hc | hc
            · exact ⟨(r4 c hc).op, (r4 c hc).draw, (r4 c hc).edges, (r4 c hc).new, (r4 c hc).len⟩
            · exact t3 c hc
          · obtain ⟨e, he, rfl⟩ := hsubP c hc x hx
            exact (hlt e he d hd).1
          · rcases List.mem_append.1 hc with hc | hc
            · obtain ⟨e, he, h1⟩ := hsubP c hc x hx
              exact ⟨e, List.mem_append_left _ he, h1⟩
            · rcases t6 c hc x hx with h1 | ⟨e, he, h1⟩
              · obtain ⟨e, he, h2⟩ := (hmemP x).1 h1
                exact ⟨e, List.mem_append_left _ he, h2⟩
              · exact ⟨e, List.mem_append_right _ he, h1⟩
          · rcases List.mem_append.1 hc with hc | hc
            · refine ⟨fun d hd hdd t hdst ht => ?_, fun t hall => (r8 c hc).2 t fun d hd hdd => hall d (List.mem_append_left _ hd) hdd⟩
              rcases List.mem_append.1 hd with hd | hd
              · exact (r8 c hc).1 d hd hdd t hdst ht
              · obtain ⟨e, he, h1⟩ := hsubP c hc _ hdd
                exact absurd h1 (hlt e he d hd).2
            · exact t7 c hc
        have x2 := heaps_ext hcl hfl _ _ _ _ (Nat.le_trans hS r2.1) t9
        have hcover : ∀ i, i < ops.size → i ∈ pre ∨ i ∈ tl := by
          intro i hi
          have := (List.all_eq_true.1 hcov) i (by simp [hi])
          rw [← hsplit] at this
          simpa using this
        have hfloat : ∀ c ∈ rP, c.i ∈ F → ∀ (S2 : List Blk), (∀ b, (c.i, b) ∈ B → S2[b]? = Sm[b]?) → opRes P Sg.length cl fl ops c.o c.T S2 = some (c.v, S2) := by
          intro c hc hcF S2 hS2
          have rc := r4 c hc
          obtain ⟨o, ho, hk⟩ := floatBlks_spec F B hB c.i hcF
          rw [rc.op] at ho; cases ho
          by_cases hreg : regOnly c.o.op = true
          · exact (opRes_reg hreg rc.res).2 fl S2
          · rcases hk with hk | ⟨ty, t, b, off, k1, k2, k3⟩
            · exact absurd hk hreg
            · have hlo : loadOnly md ops c.o = true := by
                have := hfl1 c.i hcF
                simp only [floatOk, getR_arr, rc.op] at this
                split at this
                · rename_i h1; exact absurd h1 hreg
                · exact this
              simp only [loadOnly, k1] at hlo
              have heq : nthD c.T t = nthD Tm t := by
                rw [nthD_eq, nthD_eq]
                congr 1
                by_cases hex : ∃ d ∈ rP, d.o.dst = some t
                · obtain ⟨d, hd, hdst⟩ := hex
                  have hb := writersR_spec _ _ hlo d.i d.o (by simpa using (r4 d hd).op) hdst
                  have hb' : beforeM md c.o d.i = true := by simpa using hb
                  have hdd := edgesIn_spec rc.edges hb'
                  by_cases ht : t < T.length
                  · rw [(r8 c hc).1 d hd hdd t hdst ht, r9.1 d hd trivial t hdst ht]
                  · rw [List.getElem?_eq_none (show c.T.length ≤ t by rw [rc.len]; exact Nat.le_of_not_lt ht), List.getElem?_eq_none (show Tm.length ≤ t by rw [r3]; exact Nat.le_of_not_lt ht)]
                · have hno : ∀ d ∈ rP, d.o.dst ≠ some t := fun d hd e => hex ⟨d, hd, e⟩
                  rw [(r8 c hc).2 t fun d hd _ => hno d hd, r9.2 t fun d hd _ => hno d hd]
              refine (opRes_load (b := b) (off := off) k1 (by simp only [opd]; rw [heq, k2]) rc.res).2 fl S2 fun hb => ?_
              rw [hS2 b k3, rc.hi.2 b (Nat.lt_of_lt_of_le hb rc.mid.1) (Nat.lt_of_lt_of_le hb rc.mid.1), rc.mid.2 b hb hb]
        refine ⟨⟨Nat.le_trans r2.1 x2.1, fun b e1 e2 => by rw [x2.2 b e1 (Nat.lt_of_lt_of_le e2 r2.1), r2.2 b e2 e2]⟩, ?_⟩
        intro Q φ0 a0 w0 inv0 hT hf hQ
        have finish : ∀ (fuel : Nat) (listed : Array Bool) (a : Act) (φ : Ren) (w : World), PreInv md ops rP T S Sm φ0 a0 w0 listed a φ w → left ops.size listed ≤ fuel → (∀ c ∈ rP, c.i ∉ F → On listed c.i) → wpAnyIn (wideAt ro) 0 P md ops Q fuel listed a w := by
          intro fuel listed a φ w I hl hall
          have hstep : Step fl φ0 S w0 φ Sm w := by
            refine ⟨I.ext, fun b r hb => ?_, r2.1, fun b e1 e2 => r2.2 b e2 e2, fun r e1 _ => I.frame r e1, I.hsize, I.os, I.tape, I.output⟩
            rcases I.dom b r hb with h1 | ⟨c, hc, _, h2, h3, h4⟩
            · exact .inl h1
            · exact .inr ⟨Nat.le_trans (r4 c hc).lo.1 h2, Nat.lt_of_lt_of_le h3 (r4 c hc).hi.1, h4⟩
          have hinv : Inv Sg φ Sm w := ⟨⟨I.good, fun g hg => I.ext _ _ (inv0.ok.glob g hg)⟩, fun g hg => by
            have hgS : g < S.length := Nat.lt_of_lt_of_le hg hS
            rw [r2.2 g hgS hgS, inv0.base g hg], Nat.le_trans hS r2.1⟩
          have hoffT : ∀ c ∈ rT, ¬ On listed c.i := by
            intro c hc hon
            obtain ⟨d, hd, he⟩ := I.sub c.i hon
            exact (hlt d hd c hc).2 he
          refine phaseB hcl hfl R hfloat ?_ (fun i hi => ?_) fuel listed [] rT φ a w Sm B rfl t9 (fun _ _ => rfl) (fun _ hp _ => hp) ⟨I.size, fun c hc hon => ?_, I.tsize, I.defers, fun t v' hv' => ?_⟩ (by simp) hoffT hall (by rw [t1]; exact hchain) hl hinv (hstep.fresh hf) ?_
          · rw [List.map_append, r1, t1]
            exact Topo.append _ _ _ (topo_pre _ _ hpreok) (by simpa using topo_pre _ _ htailok)
          · rcases hcover i hi with h1 | h1
            · rw [← r1] at h1
              obtain ⟨c, hc, he⟩ := List.mem_map.1 h1
              exact ⟨c, List.mem_append_left _ hc, he⟩
            · rw [← t1] at h1
              obtain ⟨c, hc, he⟩ := List.mem_map.1 h1
              exact ⟨c, List.mem_append_right _ hc, he⟩
          · rcases List.mem_append.1 hc with hc | hc
            · exact I.closed c hc hon
            · exact absurd hon (hoffT c hc)
          · obtain ⟨i1, i2⟩ := I.tmp t v' hv'
            refine ⟨fun c hc hon => ?_, fun hall2 => i2 fun c hc hon => hall2 c (List.mem_append_left _ hc) hon⟩
            rcases List.mem_append.1 hc with hc | hc
            · exact i1 c hc hon
            · exact absurd hon (hoffT c hc)
          · intro ψ a' w' g1 g2 g3 g4
            exact hQ ψ a' w' g1 g2 g3 (hstep.trans g4 hf)
        have main : ∀ (fuel : Nat) (listed : Array Bool) (a : Act) (φ : Ren) (w : World), PreInv md ops rP T S Sm φ0 a0 w0 listed a φ w → left ops.size listed ≤ fuel → wpAnyIn (wideAt ro) 0 P md ops Q fuel listed a w := by
          intro fuel
          induction fuel with
          | zero =>
            intro listed a φ w I hl
            exact finish 0 listed a φ w I hl (by
              intro c hc _
              have hi : c.i < ops.size := (Array.getElem?_eq_some_iff.1 (r4 c hc).op).1
              have := left_zero (Nat.le_zero.1 hl) c.i hi
              have hsz := I.size
              unfold On
              simp [Array.getD, hsz, hi] at this
              simp [hsz, hi, this])
          | succ fuel ih =>
            intro listed a φ w I hl
            by_cases hall : ∀ c ∈ rP, c.i ∉ F → On listed c.i
            · exact finish (fuel + 1) listed a φ w I hl hall
            · obtain ⟨c0, hc0, hcF, hoff0⟩ : ∃ c ∈ rP, c.i ∉ F ∧ ¬ On listed c.i := by
                apply Classical.byContradiction
                intro hno
                exact hall fun c hc h1 => Classical.byContradiction fun hn => hno ⟨c, hc, h1, hn⟩
              refine ⟨fun hempty => ?_, fun k hk => ?_⟩
              · exact absurd hempty (Topo.first I.size pre [] (topo_pre _ _ hpreok) (by simp) ⟨c0.i, by rw [← r1]; exact List.mem_map_of_mem hc0, hoff0⟩)
              · obtain ⟨p, hp, hpoff, hpe⟩ := mem_ready.1 hk
                have hkoff : ¬ On listed k := fun e => by unfold On at e; rw [hpoff] at e; cases e
                have hkpre : k ∈ pre := by
                  rcases hcover k (Array.getElem?_eq_some_iff.1 hp).1 with h1 | h1
                  · exact h1
                  · exfalso
                    cases tl with
                    | nil => cases h1
                    | cons y tl =>
                      cases h1 with
                      | head =>
                        have hcp : c0.i ∈ pre := by rw [← r1]; exact List.mem_map_of_mem hc0
                        have hb : behind md ops p pre.reverse c0.i = true := by
                          apply Classical.byContradiction
                          intro hn
                          apply hcF
                          rw [hF]
                          simp only [floatsOf, getR_arr, hp, List.mem_filter]
                          exact ⟨hcp, by simpa using hn⟩
                        simp only [behind, anyR_eq, Bool.or_eq_true, List.any_eq_true, Bool.and_eq_true] at hb
                        rcases hb with hb | ⟨k2, _, hb1, hb2⟩
                        · exact hoff0 (hpe _ hb)
                        · obtain ⟨c2, hc2, rfl⟩ := I.sub k2 (hpe _ hb1)
                          rw [getR_arr, (r4 c2 hc2).op] at hb2
                          exact hoff0 (I.closed c2 hc2 (hpe _ hb1) _ hb2)
                      | tail _ h1 =>
                        simp only [chainedAll] at hchain
                        obtain ⟨x, o, y1, y2, y3⟩ := chained_before _ _ hchain k h1
                        rw [hp] at y2; cases y2
                        obtain ⟨c, hc, hci⟩ := I.sub x (hpe x y3)
                        have hxt : x ∈ y :: tl := by
                          rcases y1 with rfl | y1
                          · exact List.mem_cons_self ..
                          · exact List.mem_cons_of_mem _ y1
                        rw [← t1] at hxt
                        obtain ⟨d, hd, he⟩ := List.mem_map.1 hxt
                        exact (hlt c hc d hd).2 (hci.trans he.symm)
                obtain ⟨c, hc, hci⟩ : ∃ c ∈ rP, c.i = k := by
                  rw [← r1] at hkpre
                  obtain ⟨c, hc, e⟩ := List.mem_map.1 hkpre
                  exact ⟨c, hc, e⟩
                subst hci
                have hpo : p = c.o := by have := (r4 c hc).op; rw [hp] at this; cases this; rfl
                subst hpo
                refine pre_step hcl RP inv0 hf x2.1 I hc hkoff hpe fun a' ψ w' I' => ih _ a' ψ w' I' ?_
                have := left_set I.size (Array.getElem?_eq_some_iff.1 hp).1 (show listed.getD c.i true = false by
                  have hlt : c.i < listed.size := by rw [I.size]; exact (Array.getElem?_eq_some_iff.1 hp).1
                  rw [Array.getElem?_eq_getElem hlt] at hpoff
                  simp [Array.getD, hlt]
                  simpa using hpoff)
                omega
        refine main ops.size _ a0 φ0 w0 ?_ ?_
        · have hoff : ∀ i, ¬ On (Array.replicate ops.size false) i := by
            intro i e
            unfold On at e
            rw [Array.getElem?_replicate] at e
            split at e <;> simp at e
          refine ⟨by simp, fun i hi => absurd hi (hoff i), fun c _ hi => absurd hi (hoff _), ⟨fun b k r hk hr => ?_, inv0.ok.good.low, inv0.ok.good.inj⟩, fun _ _ e => e, fun _ _ e => .inl e, Nat.le_refl _, fun _ _ => rfl, rfl, rfl, rfl, by simpa using hT.1, rfl,
            fun t v' hv' => ⟨fun c _ hi => absurd hi (hoff _), fun _ v hv => hT.2 t v v' hv (by simpa using hv')⟩⟩
          by_cases hb : b < S.length
          · exact inv0.ok.good.blk b k r (by rw [← r2.2 b hb hb]; exact hk) hr
          · have := hf b (by omega) (Nat.lt_of_lt_of_le (List.getElem?_eq_some_iff.1 hk).1 x2.1)
            rw [this] at hr; cases hr
        · have : left ops.size (Array.replicate ops.size false) ≤ (List.range ops.size).length := List.countP_le_length
          simpa using this
      · cases h
    · cases h
  · cases h
end
end Go.Proofs.XX.Vm
