/- Contracts of calls with known arguments, structs too, whose results may be new blocks that name each other: proven by one evaluation in a small heap, they hold wherever the lists lie. -/
import Derived.Test.YtnmgahhceliphaaGreatDoorY2
import Derived.Test.YtnmgahhceliphaaGreatDoorW5
namespace Go.Proofs.XX.Vm
open Go Go.RowKit

/-- The blocks from n on stand for these. -/
def sigM (n : Nat) (ms : List Nat) (i : Nat) : Nat := if i < n then i else match ms[i - n]? with
  | some m => m
  | none => i
/-- Of what a call leaves behind, some new blocks are kept. -/
theorem callAt_keepN {P : Program} {Sg : List Blk} {fl : Nat} {f : FuncId} {args : List Value} {S U KS : List Blk} {v v1 : Value} {ms : List Nat} (h : CallAt P Sg fl f args S v U)
    (hU : ∀ b, b < S.length → U[b]? = S[b]?) (hl : ms.length = KS.length) (hm : ∀ m ∈ ms, S.length ≤ m) (hnd : ms.Nodup)
    (hj : ∀ (j m : Nat) (k : Blk), ms[j]? = some m → KS[j]? = some k → U[m]? = some (renB (sigM S.length ms) k) ∧ k.obj ≠ some .dead) (hvv : v = ren3 (sigM S.length ms) v1)
    (ha : args.all (sh2 S.length) = true) (hv : sh3 (S.length + KS.length) v1 = true) (hs : ∀ (b : Nat) k, S[b]? = some k → shB S.length k = true) (hk : ∀ k ∈ KS, shB (S.length + KS.length) k = true) :
    CallAt P Sg fl f args S v1 (S ++ KS) := by
  obtain ⟨hx, hc⟩ := h
  have hlo : ∀ b, b < S.length → (S ++ KS)[b]? = S[b]? := fun b hb => List.getElem?_append_left hb
  have hla : ∀ b, S.length ≤ b → (S ++ KS)[b]? = KS[b - S.length]? := fun b hb => List.getElem?_append_right hb
  have sg : ∀ b, S.length ≤ b → b < S.length + KS.length → ∃ m k, ms[b - S.length]? = some m ∧ KS[b - S.length]? = some k ∧ sigM S.length ms b = m := by
    intro b h1 h2
    have e1 : b - S.length < ms.length := by omega
    have e2 : b - S.length < KS.length := by omega
    refine ⟨ms[b - S.length], KS[b - S.length], List.getElem?_eq_getElem e1, List.getElem?_eq_getElem e2, ?_⟩
    simp only [sigM, show ¬ b < S.length by omega, if_false, List.getElem?_eq_getElem e1]
  have slo : ∀ b, b < S.length → sigM S.length ms b = b := fun b hb => by simp only [sigM, hb, if_true]
  refine ⟨⟨by simp, fun b h1 h2 => hlo b h2⟩, ?_⟩
  intro φ w args' inv hr hf
  have hfn : ∀ b, S.length ≤ b → b < S.length + KS.length → φ b = none := fun b h1 h2 => hf b h1 (by simp; omega)
  let φc : Ren := ⟨fun b => if b < S.length then φ b else none, φ.cap⟩
  have hback : ∀ i r, i < S.length → φ i = some r → φc i = some r ∧ φc.cap r = φ.cap r := fun i r hi e => by refine ⟨?_, rfl⟩; simp only [φc, hi, if_true]; exact e
  have hfw : ∀ i r, φc i = some r → φ i = some r := by
    intro i r hi
    by_cases hl : i < S.length
    · simp only [φc, hl, if_true] at hi; exact hi
    · simp only [φc, hl, if_false] at hi; cases hi
  have goodc : Good φc S w := by
    refine ⟨fun b k r hb hr => ?_, fun b r hb => inv.ok.good.low b r (hfw b r hb), fun b c r hb hc => inv.ok.good.inj b c r (hfw b r hb) (hfw c r hc), inv.ok.good.zero, fun b k r hb hr => inv.ok.good.room b k r hb (hfw b r hr)⟩
    obtain ⟨o, h1, h2⟩ := inv.ok.good.blk b k r hb (hfw b r hr)
    exact ⟨o, h1, shB_from (σ := fun b => b) (n := S.length) hback (hs b k hb) (by rw [renB_id]; exact h2)⟩
  have invc : Inv Sg φc S w := ⟨⟨goodc, fun g hg => (hback g g (by have := inv.len; omega) (inv.ok.glob g hg)).1⟩, inv.base, inv.len⟩
  have hargs : LRel φc args args' := by
    have := shL_from (φ := φc) (ψ := φ) (sh2 S.length) (ren2 fun b => b) (fun _ _ => sh2_from (n := S.length) hback) ha (l' := args') (by
      rw [show args.map (ren2 fun b => b) = args from by rw [show (ren2 fun b => b) = id from funext ren2_id]; simp]
      exact hr)
    exact this
  refine Calls.mono (hc φc w args' invc hargs fun b h1 _ => by simp only [φc, show ¬ b < S.length by omega, if_false]) ?_
  rintro e w' ⟨v', ψ0, rfl, hv', good', st⟩
  let ψ : Ren := ⟨fun b => if S.length ≤ b ∧ b < S.length + KS.length then ψ0 (sigM S.length ms b) else φ b, ψ0.cap⟩
  have hψl : ∀ b, ¬ (S.length ≤ b ∧ b < S.length + KS.length) → ψ b = φ b := fun b hb => by simp only [ψ, hb, if_false]
  have hψn : ∀ b, S.length ≤ b → b < S.length + KS.length → ψ b = ψ0 (sigM S.length ms b) := fun b h1 h2 => by simp only [ψ, h1, h2, and_self, if_true]
  have hto : ∀ i r, i < S.length → ψ0 i = some r → φ i = some r := by
    intro i r hi hr
    rcases st.dom i r hr with h1 | ⟨h1, _, _⟩
    · exact hfw i r h1
    · omega
  have hfrom : ∀ i r, i < S.length + KS.length → ψ0 (sigM S.length ms i) = some r → ψ i = some r ∧ ψ.cap r = ψ0.cap r := by
    intro i r hi hr
    refine ⟨?_, rfl⟩
    by_cases he : S.length ≤ i
    · rw [hψn i he hi]; exact hr
    · rw [slo i (by omega)] at hr
      rw [hψl i (by omega)]
      exact hto i r (by omega) hr
  have hcap : ∀ b r, φ b = some r → ψ0.cap r = φ.cap r := fun b r hb => st.caps r (inv.ok.good.low b r hb)
  have hdd : ∀ b, b < S.length → Dead S b → Dead (S ++ KS) b := fun b hb d => (st.dead b hb d).pre fun k hk' => by rw [hU b hb, ← hlo b hb]; exact hk'
  have hdx : ∀ b r, φ b = some r → Dead S b → Dead (S ++ KS) b := fun b r hb d => by
    by_cases hb2 : b < S.length
    · exact hdd b hb2 d
    · intro k hk'
      have h3 := (List.getElem?_eq_some_iff.1 hk').1
      simp at h3
      rw [hfn b (by omega) (by omega)] at hb; cases hb
  have hv2 : VRel ψ v1 v' := sh3_from (σ := sigM S.length ms) hfrom hv (by rw [← hvv]; exact hv')
  have hlive : ∀ b, S.length ≤ b → b < S.length + KS.length → ¬ Dead U (sigM S.length ms b) := fun b h1 h2 d => by
    obtain ⟨m, k, e1, e2, e3⟩ := sg b h1 h2
    obtain ⟨g1, g2⟩ := hj _ m k e1 e2
    rw [e3] at d
    exact d.not g1 g2
  have hnew : ∀ b c r, S.length ≤ b → b < S.length + KS.length → ¬ (S.length ≤ c ∧ c < S.length + KS.length) → ψ0 (sigM S.length ms b) = some r → φ c = some r → Dead (S ++ KS) c := by
    intro b c r hb1 hb2 hc h1 h2
    by_cases hcl : c < S.length
    · have h3 : ψ0 c = some r := st.ext c r (hback c r hcl h2).1
      obtain ⟨m, k, e1, e2, e3⟩ := sg b hb1 hb2
      have hmm := hm m (List.mem_of_getElem? e1)
      rcases good'.inj _ c r h1 h3 with e | d | d
      · omega
      · exact absurd d (hlive b hb1 hb2)
      · exact d.pre fun k hk' => by rw [hU c hcl, ← hlo c hcl]; exact hk'
    · intro k hk'
      have h3 := (List.getElem?_eq_some_iff.1 hk').1
      simp at h3
      omega
  have ext' : RExt φ ψ := ⟨fun b r hb => by
    by_cases he : S.length ≤ b ∧ b < S.length + KS.length
    · rw [hfn b he.1 he.2] at hb; cases hb
    · rw [hψl b he]; exact hb, fun b r hb => hcap b r hb⟩
  refine ⟨v', ψ, rfl, hv2, ⟨fun b k r hb hr => ?_, fun b r hb => ?_, fun b c r hb hc => ?_, fun r hr => good'.zero r hr, fun b k r hb hr => ?_⟩, ⟨ext', fun r hr => st.caps r hr, fun b r hb => ?_, by simp, hdd, fun b h1 h2 => hlo b h2, fun r h1 h2 => st.frame r h1 fun b e1 e2 e3 e4 => h2 b e1 e2 e3 (hfw b r e4), st.size, st.os, st.tape, st.output⟩⟩
  · by_cases hbl : b < S.length
    · rw [hlo b hbl] at hb
      rw [hψl b (by omega)] at hr
      obtain ⟨o, o1, o2⟩ := good'.blk b k r (by rw [hU b hbl]; exact hb) (st.ext b r (hback b r hbl hr).1)
      refine ⟨o, o1, ?_⟩
      have := shB_to (φ := ψ0) (ψ := ψ) (σ := fun b => b) (n := S.length) (fun i r hi h1 => ⟨by show ψ i = some r; rw [hψl i (by omega)]; exact hto i r hi h1, rfl⟩) (hs b k hb) o2
      rwa [renB_id] at this
    · have h3 := (List.getElem?_eq_some_iff.1 hb).1
      simp at h3
      rw [hla b (by omega)] at hb
      obtain ⟨m, k2, e1, e2, e3⟩ := sg b (by omega) h3
      rw [hb] at e2
      cases e2
      rw [hψn b (by omega) h3] at hr
      obtain ⟨g1, _⟩ := hj _ m k e1 hb
      rw [e3] at hr
      obtain ⟨o, o1, o2⟩ := good'.blk m _ r g1 hr
      exact ⟨o, o1, shB_from (σ := sigM S.length ms) (n := S.length + KS.length) hfrom (hk k (List.mem_of_getElem? hb)) o2⟩
  · by_cases he : S.length ≤ b ∧ b < S.length + KS.length
    · rw [hψn b he.1 he.2] at hb; exact good'.low _ r hb
    · rw [hψl b he] at hb; exact Nat.lt_of_lt_of_le (inv.ok.good.low b r hb) st.size
  · by_cases he : S.length ≤ b ∧ b < S.length + KS.length
    · by_cases he2 : S.length ≤ c ∧ c < S.length + KS.length
      · rw [hψn b he.1 he.2] at hb; rw [hψn c he2.1 he2.2] at hc
        rcases good'.inj _ _ r hb hc with e | d | d
        · left
          obtain ⟨m, k, e1, e2, e3⟩ := sg b he.1 he.2
          obtain ⟨m2, k2, f1, f2, f3⟩ := sg c he2.1 he2.2
          rw [e3, f3] at e
          subst e
          have := (List.getElem?_inj (by omega) hnd).1 (e1.trans f1.symm)
          omega
        · exact absurd d (hlive b he.1 he.2)
        · exact absurd d (hlive c he2.1 he2.2)
      · rw [hψn b he.1 he.2] at hb; rw [hψl c he2] at hc
        exact .inr (.inr (hnew b c r he.1 he.2 he2 hb hc))
    · rw [hψl b he] at hb
      by_cases he2 : S.length ≤ c ∧ c < S.length + KS.length
      · rw [hψn c he2.1 he2.2] at hc
        exact .inr (.inl (hnew c b r he2.1 he2.2 he hc hb))
      · rw [hψl c he2] at hc
        exact (inv.ok.good.inj b c r hb hc).imp id fun d => d.imp (hdx b r hb) (hdx c r hc)
  · by_cases hbl : b < S.length
    · rw [hlo b hbl] at hb
      rw [hψl b (by omega)] at hr
      exact (good'.room b k r (by rw [hU b hbl]; exact hb) (st.ext b r (hback b r hbl hr).1)).ext rfl rfl
    · have h3 := (List.getElem?_eq_some_iff.1 hb).1
      simp at h3
      rw [hla b (by omega)] at hb
      obtain ⟨m, k2, e1, e2, e3⟩ := sg b (by omega) h3
      rw [hb] at e2
      cases e2
      rw [hψn b (by omega) h3, e3] at hr
      obtain ⟨g1, _⟩ := hj _ m k e1 hb
      exact (good'.room m _ r g1 hr : Room ψ0 r (renB (sigM S.length ms) k) w')
  · by_cases he : S.length ≤ b ∧ b < S.length + KS.length
    · rw [hψn b he.1 he.2] at hb
      refine .inr ⟨he.1, by simp; omega, ?_⟩
      obtain ⟨m, k, e1, e2, e3⟩ := sg b he.1 he.2
      have hmm := hm m (List.mem_of_getElem? e1)
      rcases st.dom _ r hb with h1 | ⟨_, _, h1 | ⟨c, c1, c2, c3, c4, c5⟩⟩
      · rw [e3] at h1
        simp only [φc, show ¬ m < S.length by omega, if_false] at h1
        cases h1
      · exact .inl h1
      · exact .inr ⟨c, c1, c2, hfw c r c3, c4, c5.pre fun k hk' => by rw [hU c c2, ← hlo c c2]; exact hk'⟩
    · rw [hψl b he] at hb
      exact .inl hb
end Go.Proofs.XX.Vm
