/- Ring: mathematics of texts of numbers: both readers take the same texts. -/
import Derived.Test.YtihccnfaibiiiaaDoorU1
import Derived.Test.YtihccnfaibiiiaaDoorC4
namespace Go.Proofs.YtihccnfaibiiiaaDoor.R
open Go Go.Proofs.XX.Vm Go.Proofs.XX.Rm Go.RowKit
set_option maxRecDepth 100000

theorem big_of {x : N} (h : okB x = true) : big 1073741824 x ∧ 0 ≤ x.k ∧ x.k ≤ 60 := by
  obtain ⟨h0, h1, h2⟩ := (okB_iff x).1 h
  obtain ⟨a1, a2, b1, b2, c1, c2, d1, d2⟩ := h2
  exact ⟨⟨by omega, by omega, by omega, by omega⟩, h0, h1⟩
/-- What both make of a text. -/
def progM (s : List UInt8) : Option N := bif (readM s).2 && okB (readM s).1 && (numC (readM s).1.nf == s) then some (readM s).1 else none
def specM (s : List UInt8) : Option N := match refM s with
  | some x => bif okB x && eqN x.nf x && (numC x == s) then some x else none
  | none => none
theorem readM_least {x : N} (h : okB x = true) : readM (numC x.nf) = (x.nf, true) := by
  obtain ⟨h1, h2, h3⟩ := big_of (okB_nf h)
  exact readM_num h1 h2 h3
theorem progM_least {x : N} (h : okB x = true) : progM (numC x.nf) = some x.nf := by
  unfold progM
  rw [readM_least h]
  simp only [okB_nf h, N.nf_nf, beq_self_eq_true, Bool.and_self, cond_true]
theorem progM_some {s : List UInt8} {x : N} (h : progM s = some x) : okB x = true ∧ x.nf = x ∧ numC x = s := by
  unfold progM at h
  cases hc : (readM s).2 && okB (readM s).1 && (numC (readM s).1.nf == s) with
  | false => rw [hc] at h; cases h
  | true =>
    rw [hc] at h
    simp only [Bool.and_eq_true, beq_iff_eq] at hc
    obtain ⟨⟨h1, h2⟩, h3⟩ := hc
    have e : (readM s).1 = x := by simpa using h
    rw [e] at h2 h3
    have := readM_least h2
    rw [h3, show readM s = ((readM s).1, (readM s).2) from rfl, e] at this
    have hx : x = x.nf := (Prod.mk.injEq .. ▸ this).1
    exact ⟨h2, hx.symm, by rw [← h3, ← hx]⟩
theorem specM_some {s : List UInt8} {x : N} (h : specM s = some x) : okB x = true ∧ x.nf = x ∧ numC x = s := by
  unfold specM at h
  split at h
  · rename_i y _
    cases hc : okB y && eqN y.nf y && (numC y == s) with
    | false => rw [hc] at h; cases h
    | true =>
      rw [hc] at h
      simp only [Bool.and_eq_true, beq_iff_eq] at hc
      obtain ⟨⟨h1, h2⟩, h3⟩ := hc
      have e : y = x := by simpa using h
      subst e
      exact ⟨h1, (eqN_iff _ _).1 h2, h3⟩
  · cases h
theorem specM_least {x : N} (h : okB x = true) (hn : x.nf = x) : specM (numC x) = some x := by
  obtain ⟨h1, h2, h3⟩ := big_of h
  unfold specM
  rw [refM_num h1 h2 h3]
  simp only [h, hn, (eqN_iff _ _).2, beq_self_eq_true, Bool.and_self, cond_true]
theorem same_read (s : List UInt8) : progM s = specM s := by
  cases hp : progM s with
  | some x =>
    obtain ⟨h1, h2, h3⟩ := progM_some hp
    rw [← h3, specM_least h1 h2]
  | none =>
    cases hq : specM s with
    | none => rfl
    | some x =>
      obtain ⟨h1, h2, h3⟩ := specM_some hq
      have := progM_least h1
      rw [h2, h3, hp] at this
      cases this
theorem numC_inj {x y : N} (hx : okB x = true) (hy : okB y = true) : (numC x.nf == numC y.nf) = eqN x.nf y.nf := by
  rw [Bool.eq_iff_iff, eqN_iff, beq_iff_eq]
  refine ⟨fun e => ?_, fun e => by rw [e]⟩
  have h1 := readM_least hx
  rw [e, readM_least hy] at h1
  exact ((Prod.mk.injEq .. ▸ h1).1).symm
/-- The program's text of terms is this one. -/
theorem termL_eq {i : Nat} (hi : i < 4) {n : Int} (h1 : -9223372036854775808 ≤ n) (h2 : n ≤ 9223372036854775807) : termL n (uniOf i) = (bif decide (n < 0) then [45] else []) ++ (mgT i n ++ uniOf i) := by
  have hu : (!(uniOf i).isEmpty) = Nat.blt 0 i := by
    have : i = 0 ∨ i = 1 ∨ i = 2 ∨ i = 3 := by omega
    rcases this with rfl | rfl | rfl | rfl <;> rfl
  unfold termL mgT
  rw [hu, itoaS_eq h1 h2]
  cases hb : Nat.blt 0 i with
  | false =>
    simp only [Bool.false_and, cond_false, Lib.itoa]
    by_cases hn : n < 0
    · rw [if_pos hn, decide_eq_true hn]; rfl
    · rw [if_neg hn, decide_eq_false hn, show n.toNat = n.natAbs by omega]; rfl
  | true =>
    simp only [Bool.true_and]
    by_cases e1 : n = 1
    · subst e1; rfl
    · by_cases e2 : n = -1
      · subst e2; rfl
      · rw [show (n == 1) = false by simpa using e1, show (n == -1) = false by simpa using e2, show (n.natAbs == 1) = false by simp; omega]
        simp only [cond_false, Lib.itoa]
        by_cases hn : n < 0
        · rw [if_pos hn, decide_eq_true hn]; rfl
        · rw [if_neg hn, decide_eq_false hn, show n.toNat = n.natAbs by omega]; rfl
theorem addT_eq (acc : List UInt8) {i : Nat} (hi : i < 4) {n : Int} (h1 : -9223372036854775808 ≤ n) (h2 : n ≤ 9223372036854775807) : addT acc n (uniOf i) = acc ++ pz (!acc.isEmpty) i n := by
  unfold addT pz pieceT sgT
  rw [termL_eq hi h1 h2]
  cases hz : n == 0 with
  | true => simp
  | false =>
    have hz' : n ≠ 0 := by simpa using hz
    simp only [cond_false]
    have he : decide (0 < acc.length) = !acc.isEmpty := by cases acc <;> simp
    rw [he]
    by_cases hn : n < 0
    · rw [decide_eq_true hn, decide_eq_false (show ¬ 0 < n by omega)]; rfl
    · rw [decide_eq_false hn, decide_eq_true (show 0 < n by omega)]
      cases acc.isEmpty <;> simp
theorem printC_eq {x : N} (hx : x.In 9223372036854775807) : printC x = termsC x := by
  obtain ⟨a1, a2, b1, b2, c1, c2, d1, d2⟩ := hx
  have e : printA x = terms x := by
    show addT (addT (addT (addT [] x.a (uniOf 0)) x.b (uniOf 1)) x.c (uniOf 2)) x.d (uniOf 3) = terms x
    unfold terms
    rw [addT_eq _ (by omega) (by omega) a2, addT_eq _ (by omega) (by omega) b2, addT_eq _ (by omega) (by omega) c2, addT_eq _ (by omega) (by omega) d2]
    simp only [List.nil_append, List.isEmpty_nil, Bool.not_true, List.append_assoc]
  unfold printC termsC
  rw [e]
  cases hz : x.zero with
  | true =>
    have hz' : x.a = 0 ∧ x.b = 0 ∧ x.c = 0 ∧ x.d = 0 := by simpa [N.zero, and_assoc] using hz
    obtain ⟨h1, h2, h3, h4⟩ := hz'
    unfold terms
    rw [h1, h2, h3, h4]
    first | done | rfl
  | false =>
    have : ((terms x).length == 0) = false := by
      obtain ⟨b, l, h1, _⟩ := terms_head hz
      unfold termsC at h1
      rw [hz] at h1
      have h1 : terms x = b :: l := h1
      rw [h1]; first | done | rfl
    rw [this]; first | done | rfl
end Go.Proofs.YtihccnfaibiiiaaDoor.R
