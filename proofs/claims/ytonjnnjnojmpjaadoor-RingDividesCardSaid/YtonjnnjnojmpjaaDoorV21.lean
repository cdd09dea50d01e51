/- A small evaluator over a shadow heap, part 21: such a region, whole. -/
import Derived.Test.YtonjnnjnojmpjaaDoorV20
namespace Go.Proofs.XX.Vm
open Go Go.RowKit

section
variable {P : Program} {md : Region.Mode} {ops : Array Oper} {T Tf : List Value} {ro : Option Nat}

theorem heaps_ext {Sg : List Blk} {cl : Caller} (hcl : ClOk P Sg cl) {fl : Nat} (hfl : Sg.length ≤ fl) {md : Region.Mode} {ops : Array Oper} : ∀ (l : List Rec) (B : List (Nat × Nat)) (S Sf : List Blk), Sg.length ≤ S.length → Heaps P Sg.length cl fl md ops B S l Sf → Ext fl S Sf := by
  intro l
  induction l with
  | nil => intro B S Sf _ h; cases h; exact Ext.refl _ _
  | cons c l ih =>
    intro B S Sf hS h
    obtain ⟨h1, h2, h3, h4⟩ := h
    have hx := opRes_ext hcl hfl hS h2
    exact hx.trans (ih _ _ _ (Nat.le_trans hS hx.1) h4)

theorem chained_before : ∀ (l : List Nat) (j : Nat), chained md ops j l = true → ∀ k ∈ l, ∃ x o, (x = j ∨ x ∈ l) ∧ ops[k]? = some o ∧ beforeM md o x = true := by
  intro l
  induction l with
  | nil => intro j _ k hk; cases hk
  | cons i l ih =>
    intro j h k hk
    simp only [chained] at h
    split at h
    · rename_i o ho
      rw [getR_arr] at ho
      simp only [Bool.and_eq_true] at h
      cases hk with
      | head => exact ⟨j, o, .inl rfl, ho, h.1⟩
      | tail _ hm =>
        obtain ⟨x, p, h1, h2, h3⟩ := ih i h.2 k hm
        refine ⟨x, p, .inr ?_, h2, h3⟩
        rcases h1 with rfl | h1
        · exact List.mem_cons_self ..
        · exact List.mem_cons_of_mem _ h1
    · cases h
theorem chainedAll_tail {y : Nat} {l : List Nat} (h : chainedAll md ops (y :: l) = true) : chainedAll md ops l = true := by
  cases l with
  | nil => rfl
  | cons i l =>
    simp only [chainedAll, chained] at h ⊢
    split at h
    · simp only [Bool.and_eq_true] at h; exact h.2
    · cases h

/-- The second part, and what floats. -/
theorem phaseB {Sg : List Blk} {cl : Caller} (hcl : ClOk P Sg cl) {fl : Nat} (hfl : Sg.length ≤ fl) {rP rT : List Rec} (R : RegRecs md ops T Tf (rP ++ rT)) {F : List Nat} {B0 : List (Nat × Nat)} {Sm Sf : List Blk} {a0 : Act} {Q : Exit → Act → World → Prop}
    (hfloat : ∀ c ∈ rP, c.i ∈ F → ∀ (S2 : List Blk), (∀ b, (c.i, b) ∈ B0 → S2[b]? = Sm[b]?) → opRes P Sg.length cl fl ops c.o c.T S2 = some (c.v, S2))
    (htopo : Topo md ops [] ((rP ++ rT).map (·.i))) (hcov : ∀ i, i < ops.size → ∃ c ∈ rP ++ rT, c.i = i) :
    ∀ (fuel : Nat) (listed : Array Bool) (dn rest : List Rec) (φ : Ren) (a : Act) (w : World) (S : List Blk) (B : List (Nat × Nat)), rT = dn ++ rest → Heaps P Sg.length cl fl md ops B S rest Sf → (∀ p ∈ B, S[p.2]? = Sm[p.2]?) → (∀ p ∈ B0, ¬ On listed p.1 → p ∈ B) → RegInv md ops (rP ++ rT) T a0 listed a φ →
      (∀ c ∈ dn, On listed c.i) → (∀ c ∈ rest, ¬ On listed c.i) → (∀ c ∈ rP, c.i ∉ F → On listed c.i) → chainedAll md ops (rest.map (·.i)) = true → left ops.size listed ≤ fuel → Inv Sg φ S w → Fresh φ S.length Sf.length →
      (∀ (ψ : Ren) (a' : Act) (w' : World), Good ψ Sf w' → LRel ψ Tf a'.tmps.toList → a'.defers = a0.defers → Step fl φ S w ψ Sf w' → Q .normal a' w') →
      wpAnyIn (wideAt ro) 0 P md ops Q fuel listed a w := by
  have hpair := List.pairwise_append.1 R.pair
  intro fuel
  have fin : ∀ (listed : Array Bool) (rest : List Rec) (φ : Ren) (a : Act) (w : World) (S : List Blk) (B : List (Nat × Nat)), Heaps P Sg.length cl fl md ops B S rest Sf → RegInv md ops (rP ++ rT) T a0 listed a φ → (∀ c ∈ rest, c ∈ rT) → (∀ c ∈ rest, ¬ On listed c.i) →
      (∀ c ∈ rP ++ rT, On listed c.i) → Inv Sg φ S w → (∀ (ψ : Ren) (a' : Act) (w' : World), Good ψ Sf w' → LRel ψ Tf a'.tmps.toList → a'.defers = a0.defers → Step fl φ S w ψ Sf w' → Q .normal a' w') → Q .normal a w := by
    intro listed rest φ a w S B hh I hsub hoff hall inv hQ
    cases rest with
    | cons c l => exact absurd (hall c (List.mem_append_right _ (hsub c (List.mem_cons_self ..)))) (hoff c (List.mem_cons_self ..))
    | nil =>
      cases hh
      refine hQ φ a w inv.ok.good ⟨by rw [R.len, I.tsize]; simp, fun i v v' hv hv' => ?_⟩ I.defers (Step.refl _ _ _ _)
      obtain ⟨i1, i2⟩ := I.tmp i v' (by simpa using hv')
      by_cases hex : ∃ d ∈ rP ++ rT, d.o.dst = some i
      · obtain ⟨d, hd, hdst⟩ := hex
        have hlt : i < T.length := by rw [← R.len]; exact (List.getElem?_eq_some_iff.1 hv).1
        have := R.end_.1 d hd trivial i hdst hlt
        rw [hv] at this; cases this
        exact i1 d hd (hall d hd) hdst
      · have hno : ∀ d ∈ rP ++ rT, d.o.dst ≠ some i := fun d hd e => hex ⟨d, hd, e⟩
        have := R.end_.2 i fun d hd _ => hno d hd
        exact i2 (fun d hd _ => hno d hd) v (this ▸ hv)
  induction fuel with
  | zero =>
    intro listed dn rest φ a w S B hT hh hB hB0 I h1 h2 h3 h4 h5 inv hf hQ
    have hz := left_zero (Nat.le_zero.1 h5)
    have hall : ∀ c ∈ rP ++ rT, On listed c.i := by
      intro c hc
      have hi : c.i < ops.size := (Array.getElem?_eq_some_iff.1 (R.all c hc).op).1
      have := hz c.i hi
      have hsz := I.size
      unfold On
      simp [Array.getD, hsz, hi] at this
      simp [hsz, hi, this]
    refine ⟨?_, fin listed rest φ a w S B hh I (fun c hc => by rw [hT]; exact List.mem_append_right _ hc) h2 hall inv hQ⟩
    cases hr : Region.ready md ops listed with
    | nil => rfl
    | cons i r =>
      have hi : i ∈ Region.ready md ops listed := by rw [hr]; exact List.mem_cons_self ..
      obtain ⟨o, ho, hoff, _⟩ := mem_ready.1 hi
      have hlt := (Array.getElem?_eq_some_iff.1 ho).1
      have := hz i hlt
      have hlt' : i < listed.size := by rw [I.size]; exact hlt
      rw [Array.getElem?_eq_getElem hlt'] at hoff
      simp [Array.getD, hlt'] at this
      simp [this] at hoff
  | succ fuel ih =>
    intro listed dn rest φ a w S B hT hh hB hB0 I h1 h2 h3 h4 h5 inv hf hQ
    refine ⟨fun hempty => ?_, fun k hk => ?_⟩
    · refine fin listed rest φ a w S B hh I (fun c hc => by rw [hT]; exact List.mem_append_right _ hc) h2 (fun c hc => ?_) inv hQ
      apply Classical.byContradiction
      intro hn
      exact absurd hempty (Topo.first I.size _ [] htopo (by simp) ⟨c.i, List.mem_map_of_mem hc, hn⟩)
    · obtain ⟨p, hp, hpoff, hpe⟩ := mem_ready.1 hk
      have hkoff : ¬ On listed k := fun e => by unfold On at e; rw [hpoff] at e; cases e
      have hklt := (Array.getElem?_eq_some_iff.1 hp).1
      obtain ⟨c, hc, rfl⟩ := hcov k hklt
      have hpo : p = c.o := by have := (R.all c hc).op; rw [hp] at this; cases this; rfl
      subst hpo
      have hci : c.i < listed.size := by rw [I.size]; exact hklt
      have hleft : left ops.size (listed.setIfInBounds c.i true) ≤ fuel := by
        have := left_set I.size hklt (show listed.getD c.i true = false by
          rw [Array.getElem?_eq_getElem hci] at hpoff
          simp [Array.getD, hci]
          simpa using hpoff)
        omega
      have hon : ∀ j, On (listed.setIfInBounds c.i true) j ↔ j = c.i ∨ On listed j := fun j => on_set hci
      rcases List.mem_append.1 hc with hcP | hcT
      · have hF : c.i ∈ F := Classical.byContradiction fun hn => hkoff (h3 c hcP hn)
        refine reg_step hcl R I hc hkoff hpe hfl inv (fun b e1 e2 => by omega) (hfloat c hcP hF S fun b hb => hB (c.i, b) (hB0 _ hb hkoff)) ?_
        intro a' ψ w' I' hg hs
        refine ih _ dn rest ψ a' w' S B hT hh hB (fun p hp hn => hB0 p hp fun e => hn ((hon _).2 (.inr e))) I' (fun d hd => (hon _).2 (.inr (h1 d hd))) (fun d hd e => ?_) (fun d hd hdF => (hon _).2 (.inr (h3 d hd hdF))) h4 hleft (inv.step hfl hs hg) (hs.fresh hf) ?_
        · rcases (hon _).1 e with e | e
          · have hdT : d ∈ rT := by rw [hT]; exact List.mem_append_right _ hd
            have := (hpair.2.2 c hcP d hdT).1
            exact (R.all d (List.mem_append_right _ hdT)).new (e ▸ this)
          · exact h2 d hd e
        · intro χ a'' w'' g1 g2 g3 g4
          exact hQ χ a'' w'' g1 g2 g3 (hs.trans g4 hf)
      · rw [hT] at hcT
        rcases List.mem_append.1 hcT with hcd | hcr
        · exact absurd (h1 c hcd) hkoff
        · cases rest with
          | nil => cases hcr
          | cons c1 rest =>
            obtain ⟨q1, q2, q3, q4⟩ := hh
            have hceq : c = c1 := by
              cases hcr with
              | head => rfl
              | tail _ hm =>
                exfalso
                simp only [List.map_cons, chainedAll] at h4
                obtain ⟨x, o, y1, y2, y3⟩ := chained_before _ _ h4 c.i (List.mem_map_of_mem hm)
                rw [hp] at y2; cases y2
                have hx := hpe x y3
                rcases y1 with rfl | y1
                · exact h2 c1 (List.mem_cons_self ..) hx
                · obtain ⟨d, hd, rfl⟩ := List.mem_map.1 y1
                  exact h2 d (List.mem_cons_of_mem _ hd) hx
            subst hceq
            have hx1 := opRes_ext hcl hfl inv.len q2
            have hx2 := heaps_ext hcl hfl _ _ _ _ (Nat.le_trans inv.len hx1.1) q4
            refine reg_step hcl R I hc hkoff hpe hfl inv (fun b e1 e2 => hf b e1 (Nat.lt_of_lt_of_le e2 hx2.1)) q2 ?_
            intro a' ψ w' I' hg hs
            refine ih _ (dn ++ [c]) rest ψ a' w' c.S' _ (by simpa using hT) q4 (fun p hp => by rw [q3 p hp, hB p (List.mem_filter.1 hp).1]) (fun p hp hn => ?_) I' (fun d hd => ?_) (fun d hd e => ?_) (fun d hd hdF => (hon _).2 (.inr (h3 d hd hdF))) (chainedAll_tail h4) hleft (inv.step hfl hs hg) (hs.fresh hf) ?_
            · have hn' : ¬ On listed p.1 := fun e => hn ((hon _).2 (.inr e))
              refine List.mem_filter.2 ⟨hB0 p hp hn', ?_⟩
              cases hb : beforeM md c.o p.1 with
              | false => rfl
              | true => exact absurd (hpe _ hb) hn'
            · rcases List.mem_append.1 hd with hd | hd
              · exact (hon _).2 (.inr (h1 d hd))
              · simp only [List.mem_singleton] at hd; subst hd; exact (hon _).2 (.inl rfl)
            · rcases (hon _).1 e with e | e
              · have hp2 := hpair.2.1
                rw [hT] at hp2
                have := ((List.pairwise_cons.1 (List.pairwise_append.1 hp2).2.1).1 d hd).1
                have hdT : d ∈ rT := by rw [hT]; exact List.mem_append_right _ (List.mem_cons_of_mem _ hd)
                exact (R.all d (List.mem_append_right _ hdT)).new (e ▸ this)
              · exact h2 d (List.mem_cons_of_mem _ hd) e
            · intro χ a'' w'' g1 g2 g3 g4
              exact hQ χ a'' w'' g1 g2 g3 (hs.trans g4 hf)
end
end Go.Proofs.XX.Vm
