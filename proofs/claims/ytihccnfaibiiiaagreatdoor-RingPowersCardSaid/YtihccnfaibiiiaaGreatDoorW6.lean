/- Calls that only read some blocks, wherever these lie. -/
import Derived.Test.YtihccnfaibiiiaaGreatDoorW5
namespace Go.Proofs.XX.Vm
open Go Go.RowKit

section
variable {P : Program} {Sg : List Blk}
def sigN (g : Nat) (bs : List Nat) (n i : Nat) : Nat := if i < g then i else match bs[i - g]? with
  | some b => b
  | none => n + (i - (g + bs.length))
theorem sigN_low {g : Nat} {bs : List Nat} {n i : Nat} (h : i < g) : sigN g bs n i = i := by simp [sigN, h]
theorem sigN_at {g : Nat} {bs : List Nat} {n i b : Nat} (h : g ≤ i) (hb : bs[i - g]? = some b) : sigN g bs n i = b := by
  unfold sigN
  rw [if_neg (by omega), hb]
theorem callAtRn (hsg : SgOk Sg) {fl : Nat} {S K : List Blk} {bs : List Nat} {f : FuncId} {args0 : List Value} {v0 : Value} (hS : Sg.length ≤ S.length)
    (h : CallAt P Sg (Sg.length + K.length) f args0 (Sg ++ K) v0 (Sg ++ K)) (hl : bs.length = K.length)
    (hb : ∀ (i b : Nat) (k : Blk), bs[i]? = some b → K[i]? = some k → S[b]? = some (renB (sigN Sg.length bs S.length) k)) (hg : ∀ b ∈ bs, Sg.length ≤ b) (hnd : bs.Nodup)
    (hargs : args0.all (sh2 (Sg.length + K.length)) = true) (hv : sh3 (Sg.length + K.length) v0 = true) (hs : ∀ k ∈ K, shB (Sg.length + K.length) k = true) :
    CallAt P Sg fl f (args0.map (ren2 (sigN Sg.length bs S.length))) S (ren3 (sigN Sg.length bs S.length) v0) S := by
  have sgk : ∀ (g : Nat) k, Sg[g]? = some k → k.cells.all scalar = true ∧ k.obj = none := by
    intro g k hk
    have := (List.all_eq_true.1 hsg) k (List.mem_of_getElem? hk)
    simpa using this
  have l0 : (Sg ++ K).length = Sg.length + K.length := by simp
  have get : ∀ i, Sg.length ≤ i → i < Sg.length + K.length → ∃ b k, bs[i - Sg.length]? = some b ∧ K[i - Sg.length]? = some k ∧ sigN Sg.length bs S.length i = b := by
    intro i h1 h2
    have hk : i - Sg.length < K.length := by omega
    have hb' : i - Sg.length < bs.length := by omega
    exact ⟨bs[i - Sg.length], K[i - Sg.length], List.getElem?_eq_getElem hb', List.getElem?_eq_getElem hk, sigN_at h1 (List.getElem?_eq_getElem hb')⟩
  have at0 : ∀ (i : Nat) (y : Blk), (Sg ++ K)[i]? = some y → (i < Sg.length ∧ Sg[i]? = some y) ∨ (Sg.length ≤ i ∧ K[i - Sg.length]? = some y) := by
    intro i y hy
    by_cases h1 : i < Sg.length
    · rw [List.getElem?_append_left h1] at hy; exact .inl ⟨h1, hy⟩
    · rw [List.getElem?_append_right (by omega)] at hy
      exact .inr ⟨by omega, hy⟩
  have shg : ∀ (i : Nat) k, (Sg ++ K)[i]? = some k → shB (Sg.length + K.length) k = true := by
    intro i k hk
    rcases at0 i k hk with ⟨_, h3⟩ | ⟨_, h3⟩
    · obtain ⟨e1, e2⟩ := sgk i k h3
      simp only [shB, e2, Bool.and_true, List.all_eq_true] at e1 ⊢
      intro v hv
      exact scalar_sh (e1 v hv) _
    · exact hs k (List.mem_of_getElem? h3)
  refine callAt_of h ⟨fun g hg => sigN_low hg, fun g hg => by rw [List.getElem?_append_left hg], fun j => ?_, fun i hi => ?_, fun i j hi hj e => ?_, fun i h1 h2 => ?_, by omega, by simp, by simp, fun g k hk => ?_, fun i k h1 hk => ?_, fun i k hk => ?_, fun i k hk => ?_, Nat.le_refl _, by simp, fun i k h1 hk => ?_, fun x hx hno => rfl⟩ (by rw [l0]; exact hargs) (by rw [l0]; exact hv)
  · rw [l0]
    unfold sigN
    rw [if_neg (by omega), List.getElem?_eq_none (by omega)]
    simp only
    omega
  · rw [l0] at hi
    by_cases h1 : i < Sg.length
    · rw [sigN_low h1]; omega
    · obtain ⟨b, k, e1, e2, e3⟩ := get i (by omega) hi
      rw [e3]
      exact (List.getElem?_eq_some_iff.1 (hb _ b k e1 e2)).1
  · rw [l0] at hi hj
    by_cases h1 : i < Sg.length
    · rw [sigN_low h1] at e
      by_cases h2 : j < Sg.length
      · rw [sigN_low h2] at e; exact e
      · obtain ⟨b, k, e1, _, e3⟩ := get j (by omega) hj
        have := hg b (List.mem_of_getElem? e1)
        omega
    · obtain ⟨b, k, e1, _, e3⟩ := get i (by omega) hi
      by_cases h2 : j < Sg.length
      · rw [sigN_low h2] at e
        have := hg b (List.mem_of_getElem? e1)
        omega
      · obtain ⟨b2, k2, f1, _, f3⟩ := get j (by omega) hj
        have hbb : b = b2 := by rw [← e3, ← f3, e]
        subst hbb
        have hlt := (List.getElem?_eq_some_iff.1 e1).1
        have := (List.getElem?_inj hlt hnd).1 (e1.trans f1.symm)
        omega
  · rw [l0] at h2
    omega
  · obtain ⟨e1, e2⟩ := sgk g k hk
    obtain ⟨cs, e, ro, ob⟩ := k
    simp only [renB, Blk.mk.injEq, and_true]
    exact (List.map_congr_left fun v hv => scalar_ren ((List.all_eq_true.1 e1) v hv)).trans (List.map_id' _)
  · rcases at0 i k hk with ⟨h2, _⟩ | ⟨h2, h3⟩
    · omega
    · obtain ⟨b, k2, e1, e2, e3⟩ := get i h1 (by have := (List.getElem?_eq_some_iff.1 h3).1; omega)
      rw [h3] at e2; cases e2
      rw [e3]
      exact hb _ b k e1 h3
  · rw [l0]; exact shg i k hk
  · rw [l0]; exact shg i k hk
  · have := (List.getElem?_eq_some_iff.1 hk).1
    rw [l0] at this
    omega
end
end Go.Proofs.XX.Vm
