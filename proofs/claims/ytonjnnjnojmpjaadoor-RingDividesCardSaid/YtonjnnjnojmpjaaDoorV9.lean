/- A small evaluator over a shadow heap, part 9: a region that draws its order, in every order. -/
import Derived.Test.YtonjnnjnojmpjaaDoorV8
namespace Go.Proofs.XX.Vm
open Go Go.RowKit

def On (listed : Array Bool) (i : Nat) : Prop := listed[i]? = some true
theorem On.getD {listed : Array Bool} {i : Nat} (h : On listed i) (b : Bool) : listed.getD i b = true := by
  have := Array.getElem?_eq_some_iff.1 h; obtain ⟨h1, h2⟩ := this; simp [Array.getD, h1, h2]
theorem on_of_getD {listed : Array Bool} {i : Nat} (h : listed.getD i false = true) : On listed i := by
  unfold On
  by_cases hi : i < listed.size
  · simp [Array.getD, hi] at h; simp [hi, h]
  · simp [Array.getD, hi] at h
theorem off_of_getD {listed : Array Bool} {i : Nat} (h : listed.getD i true = false) : listed[i]? = some false := by
  by_cases hi : i < listed.size
  · simp [Array.getD, hi] at h; simp [hi, h]
  · simp [Array.getD, hi] at h
theorem on_set {listed : Array Bool} {i j : Nat} (hi : i < listed.size) : On (listed.setIfInBounds i true) j ↔ j = i ∨ On listed j := by
  unfold On
  by_cases h : i = j
  · subst h; simp [hi]
  · rw [Array.getElem?_setIfInBounds_ne h]; constructor
    · exact .inr
    · rintro (e | e)
      · exact absurd e.symm h
      · exact e

def left (n : Nat) (listed : Array Bool) : Nat := (List.range n).countP fun i => !listed.getD i true
theorem countP_one {l : List Nat} (hl : l.Nodup) (p q : Nat → Bool) (i : Nat) (hi : i ∈ l) (hp : p i = true) (hq : q i = false) (h : ∀ j ∈ l, j ≠ i → q j = p j) : l.countP q + 1 = l.countP p := by
  induction l with
  | nil => cases hi
  | cons x l ih =>
    rw [List.nodup_cons] at hl
    by_cases hx : x = i
    · subst hx
      have : l.countP q = l.countP p := List.countP_congr fun j hj => by
        rw [h j (List.mem_cons_of_mem _ hj) (fun e => hl.1 (e ▸ hj))]
      simp [hp, hq, this]
    · have hi' : i ∈ l := by cases hi with
        | head => exact absurd rfl hx
        | tail _ hm => exact hm
      have := ih hl.2 hi' fun j hj => h j (List.mem_cons_of_mem _ hj)
      have hxq := h x (List.mem_cons_self ..) hx
      by_cases hpx : p x = true <;> simp [hpx, hxq] <;> omega
theorem left_set {n : Nat} {listed : Array Bool} {i : Nat} (hn : listed.size = n) (hi : i < n) (h : listed.getD i true = false) : left n (listed.setIfInBounds i true) + 1 = left n listed := by
  refine countP_one List.nodup_range _ _ i (by simp [hi]) (by simp [h]) (by simp [Array.getD, hn, hi]) fun j hj hne => ?_
  simp only [List.mem_range] at hj
  have e1 : j < listed.size := by omega
  simp [Array.getD, e1, Ne.symm hne]
theorem left_zero {n : Nat} {listed : Array Bool} (h : left n listed = 0) : ∀ i, i < n → listed.getD i true = true := by
  intro i hi
  have := List.countP_eq_zero.1 h i (by simp [hi])
  simpa using this

section
variable {P : Program} {ro : Option Nat} {ops : Array Oper} {Q : Exit → Act → World → Prop} {md : Region.Mode}

/-- All operations that must come before i have been. -/
def EdgesOn (md : Region.Mode) (listed : Array Bool) (o : Oper) : Prop := ∀ j, beforeM md o j = true → On listed j
theorem mem_ready {listed : Array Bool} {i : Nat} : i ∈ Region.ready md ops listed ↔ ∃ o, ops[i]? = some o ∧ listed[i]? = some false ∧ EdgesOn md listed o := by
  unfold Region.ready
  simp only [List.mem_filter, List.mem_range, Bool.and_eq_true, Bool.not_eq_true']
  constructor
  · rintro ⟨h1, h2, h3⟩
    obtain ⟨o, ho⟩ : ∃ o, ops[i]? = some o := ⟨ops[i], by simp [h1]⟩
    refine ⟨o, ho, off_of_getD h2, fun j hj => ?_⟩
    simp only [ho, Option.map_some, Option.getD_some, Array.all_eq_true'] at h3
    simp only [beforeM_eq, List.any_eq_true, Bool.and_eq_true, beq_iff_eq] at hj
    obtain ⟨e, he, rfl, hb⟩ := hj
    have := h3 e (by simpa using he)
    simp [hb] at this
    exact on_of_getD (by simpa using this)
  · rintro ⟨o, ho, h2, h3⟩
    have hi : i < ops.size := (Array.getElem?_eq_some_iff.1 ho).1
    refine ⟨hi, by simp [Array.getD_eq_getD_getElem?, h2], ?_⟩
    simp only [ho, Option.map_some, Option.getD_some, Array.all_eq_true']
    intro e he
    by_cases hb : Region.binds md e = true
    · have := h3 e.on (by simp only [beforeM_eq, List.any_eq_true, Bool.and_eq_true, beq_iff_eq]; exact ⟨e, by simpa using he, rfl, hb⟩)
      simp [this.getD]
    · simp [hb]

theorem edgesIn_spec {o : Oper} {done : List Nat} (h : edgesIn md o done = true) {j : Nat} (hj : beforeM md o j = true) : j ∈ done := by
  simp only [edgesIn, allR_eq, anyR_eq, List.all_eq_true] at h
  simp only [beforeM_eq, List.any_eq_true, Bool.and_eq_true, beq_iff_eq] at hj
  obtain ⟨e, he, rfl, hb⟩ := hj
  have := h e he
  simpa [hb] using this

/-- A list of operations in an order that the edges allow. -/
def Topo (md : Region.Mode) (ops : Array Oper) : List Nat → List Nat → Prop
  | _, [] => True
  | done, i :: l => (∃ o, ops[i]? = some o ∧ edgesIn md o done = true) ∧ Topo md ops (i :: done) l
theorem Topo.first {listed : Array Bool} (hn : listed.size = ops.size) : ∀ (l done : List Nat), Topo md ops done l → (∀ j ∈ done, On listed j) → (∃ i ∈ l, ¬ On listed i) → Region.ready md ops listed ≠ [] := by
  intro l
  induction l with
  | nil => intro done _ _ ⟨i, h, _⟩; cases h
  | cons i l ih =>
    intro done ht hd ⟨j, hj, hoff⟩
    by_cases hi : On listed i
    · refine ih (i :: done) ht.2 (fun x hx => ?_) ⟨j, ?_, hoff⟩
      · cases hx with
        | head => exact hi
        | tail _ hm => exact hd x hm
      · cases hj with
        | head => exact absurd hi hoff
        | tail _ hm => exact hm
    · obtain ⟨⟨o, ho, he⟩, _⟩ := ht
      have hlt : i < listed.size := by have := (Array.getElem?_eq_some_iff.1 ho).1; omega
      have hfalse : listed[i]? = some false := by
        unfold On at hi
        rw [Array.getElem?_eq_getElem hlt] at hi ⊢
        cases h : listed[i] <;> simp_all
      have : i ∈ Region.ready md ops listed := mem_ready.2 ⟨o, ho, hfalse, fun j hj => hd j (edgesIn_spec he hj)⟩
      intro e
      rw [e] at this
      cases this

/-- Whoever stands behind j in the list has, step by step, j's successor ahead of it. -/
theorem tailOk_key : ∀ (l : List Nat) (j : Nat) (done : List Nat), tailOk md ops (some j) done l = true → ∀ k ∈ l, ∃ p x, ops[k]? = some p ∧ beforeM md p x = true ∧ (x = j ∨ (x ∈ l ∧ x ∉ done)) := by
  intro l
  induction l with
  | nil => intro j done _ k hk; cases hk
  | cons y l ih =>
    intro j done h k hk
    simp only [tailOk] at h
    split at h
    · rename_i o2 ho2
      rw [getR_arr] at ho2
      simp only [Bool.and_eq_true] at h
      obtain ⟨⟨⟨_, c2⟩, c3⟩, c4⟩ := h
      cases hk with
      | head => exact ⟨o2, j, ho2, c3, .inl rfl⟩
      | tail _ hm =>
        obtain ⟨p, x, q1, q2, q3⟩ := ih y (y :: done) c4 k hm
        refine ⟨p, x, q1, q2, .inr ?_⟩
        rcases q3 with rfl | ⟨q3, q4⟩
        · exact ⟨List.mem_cons_self .., fun e => by rw [anyR_mem.2 e] at c2; cases c2⟩
        · exact ⟨List.mem_cons_of_mem _ q3, fun e => q4 (List.mem_cons_of_mem _ e)⟩
    · cases h

/-- The end of a region, in its one order. -/
theorem evTail_wp {Sg : List Blk} {cl : Caller} (hcl : ClOk P Sg cl) {fl : Nat} (hfl : Sg.length ≤ fl) : ∀ (l : List Nat) (ahead : Option Nat) (done : List Nat) (T T' : List Value) (S S' : List Blk), Sg.length ≤ S.length → tailOk md ops ahead done l = true →
    evTail P Sg.length cl fl ops l T S = some (T', S') → Ext fl S S' ∧ Topo md ops done l ∧
    ∀ (fuel : Nat) (listed : Array Bool) (φ : Ren) (a : Act) (w : World), listed.size = ops.size → (∀ i, On listed i ↔ i ∈ done) → (∀ i, i < ops.size → i ∈ done ∨ i ∈ l) → (∀ j, ahead = some j → j ∈ done) →
      left ops.size listed ≤ fuel →
      Inv Sg φ S w → LRel φ T a.tmps.toList → Fresh φ S.length S'.length →
      (∀ (ψ : Ren) (a' : Act) (w' : World), Good ψ S' w' → LRel ψ T' a'.tmps.toList → a'.defers = a.defers → Step fl φ S w ψ S' w' → Q .normal a' w') →
      wpAnyIn (wideAt ro) 0 P md ops Q fuel listed a w := by
  intro l
  induction l with
  | nil =>
    intro ahead done T T' S S' _ _ h
    cases h
    refine ⟨Ext.refl _ _, trivial, ?_⟩
    intro fuel listed φ a w hn hon hcov _ _ inv hT _ hQ
    have hq : Q .normal a w := hQ φ a w inv.ok.good hT rfl (Step.refl _ _ _ _)
    have hready : Region.ready md ops listed = [] := by
      cases hr : Region.ready md ops listed with
      | nil => rfl
      | cons i r =>
        have hi : i ∈ Region.ready md ops listed := by rw [hr]; exact List.mem_cons_self ..
        obtain ⟨o, ho, hoff, _⟩ := mem_ready.1 hi
        have : On listed i := (hon i).2 ((hcov i (Array.getElem?_eq_some_iff.1 ho).1).resolve_right (by simp))
        unfold On at this
        rw [hoff] at this
        cases this
    cases fuel with
    | zero => exact ⟨hready, hq⟩
    | succ fuel => exact ⟨fun _ => hq, by rw [hready]; simp⟩
  | cons i l ih =>
    intro ahead done T T' S S' hS hok h
    simp only [evTail, putK_eq] at h
    simp only [tailOk] at hok
    split at h
    · rename_i o ho
      rw [ho] at hok
      rw [getR_arr] at ho
      · have hc := hok
        simp only [Bool.and_eq_true] at hc
        obtain ⟨⟨⟨c1, c2⟩, c3⟩, c4⟩ := hc
        split at h
        · rename_i v S1 hr
          have hx := opRes_ext hcl hfl hS hr
          obtain ⟨e1, e2, e3⟩ := ih (some i) (i :: done) (putL T o.dst v) T' S1 S' (Nat.le_trans hS hx.1) c4 h
          refine ⟨hx.trans e1, ⟨⟨o, ho, c1⟩, e2⟩, ?_⟩
          intro fuel listed φ a w hn hon hcov hah hleft inv hT hf hQ
          have hnd : i ∉ done := fun e => by rw [anyR_mem.2 e] at c2; cases c2
          have hi : i < ops.size := (Array.getElem?_eq_some_iff.1 ho).1
          have hoff : listed.getD i true = false := by
            have : ¬ On listed i := fun e => hnd ((hon i).1 e)
            unfold On at this
            have hlt : i < listed.size := by omega
            rw [Array.getElem?_eq_getElem hlt] at this
            simp [Array.getD, hlt]
            simpa using this
          have hpos : 0 < left ops.size listed := by have := left_set hn hi hoff; omega
          cases fuel with
          | zero => omega
          | succ fuel =>
            refine ⟨fun hempty => ?_, fun k hk => ?_⟩
            · exact absurd hempty (Topo.first hn (i :: l) done ⟨⟨o, ho, c1⟩, e2⟩ (fun j hj => (hon j).2 hj) ⟨i, List.mem_cons_self .., fun e => hnd ((hon i).1 e)⟩)
            · obtain ⟨p, hp, hpoff, hpe⟩ := mem_ready.1 hk
              have hknd : k ∉ done := fun e => by
                have := (hon k).2 e
                unfold On at this
                rw [hpoff] at this
                cases this
              have hki : k = i := by
                rcases hcov k (Array.getElem?_eq_some_iff.1 hp).1 with h1 | h1
                · exact absurd h1 hknd
                · cases h1 with
                  | head => rfl
                  | tail _ h1 =>
                    exfalso
                    obtain ⟨p2, x, q1, q2, q3⟩ := tailOk_key l i (i :: done) c4 k h1
                    rw [hp] at q1; cases q1
                    have hxd := (hon x).1 (hpe x q2)
                    rcases q3 with rfl | ⟨_, q4⟩
                    · exact hnd hxd
                    · exact q4 (List.mem_cons_of_mem _ hxd)
              subst hki
              refine opRes_wp hcl hfl ho hr inv hT rfl rfl (fun b hb => wantedS_rel (φ := φ) hb fun j want p d u _ _ _ hu => hT.guard hu) (fun b f1 f2 => hf b f1 (Nat.lt_of_lt_of_le f2 e1.1)) ?_
              intro v' ψ w' hv hg hs
              refine e3 fuel (listed.setIfInBounds k true) ψ (a.put o.dst v') w' (by simpa using hn) (fun j => ?_) (fun j hj => ?_) (fun j hj => by cases hj; exact List.mem_cons_self ..) ?_ (inv.step hfl hs hg) ((hT.mono hs.ext).put o.dst hv) (hs.fresh hf) ?_
              · rw [on_set (by omega), hon]; simp
              · rcases hcov j hj with h1 | h1
                · exact .inl (List.mem_cons_of_mem _ h1)
                · cases h1 with
                  | head => exact .inl (List.mem_cons_self ..)
                  | tail _ h1 => exact .inr h1
              · have := left_set hn hi hoff; omega
              · intro χ a' w'' g1 g2 g3 g4
                exact hQ χ a' w'' g1 g2 (by rw [g3, put_defers]) (hs.trans g4 hf)
        · cases h
    · cases h
end
end Go.Proofs.XX.Vm
