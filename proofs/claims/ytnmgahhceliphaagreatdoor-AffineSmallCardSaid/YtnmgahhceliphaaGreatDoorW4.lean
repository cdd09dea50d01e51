/- A small evaluator over a shadow heap: calls of which the value and the old blocks are known; one new block kept of several. -/
import Derived.Test.YtnmgahhceliphaaGreatDoorW3
namespace Go.Proofs.XX.Vm
open Go Go.RowKit

section
variable {P : Program} {orc : Orc} {Sg : List Blk}
/-- A call evaluated, with all that it leaves behind. -/
theorem callInK_all (hsg : SgOk Sg) (horc : OrcOk P Sg (orcOf orc)) {fl m : Nat} {f : FuncId} {args : List Value} {S U : List Blk} {v : Value}
    (h : callInK P (evCodeK P orc Sg m) fl f args S (fun u U => some (u, U)) = some (v, U)) (hfl : Sg.length ≤ fl) (hS : Sg.length ≤ S.length) : CallAt P Sg fl f args S v U := by
  obtain ⟨v1, U1, h1, h2⟩ := callInK_ok (P := P) (evCodeK_ok (orc := orc) (Sg := Sg) m) _ _ _ _ _ _ h
  simp only [Option.some.injEq, Prod.mk.injEq] at h2
  obtain ⟨rfl, rfl⟩ := h2
  exact callIn_ok (evCode_ok hsg horc m).1 h1 hfl hS
/-- The same, by what is looked at alone. -/
theorem callInK_see {α : Type} (hsg : SgOk Sg) (horc : OrcOk P Sg (orcOf orc)) {fl m : Nat} {f : FuncId} {args : List Value} {S : List Blk} {g : Value → List Blk → Option α} {a : α}
    (h : callInK P (evCodeK P orc Sg m) fl f args S g = some a) (hfl : Sg.length ≤ fl) (hS : Sg.length ≤ S.length) : ∃ v U, g v U = some a ∧ CallAt P Sg fl f args S v U := by
  obtain ⟨v1, U1, h1, h2⟩ := callInK_ok (P := P) (evCodeK_ok (orc := orc) (Sg := Sg) m) _ _ _ _ _ _ h
  exact ⟨v1, U1, h2, callIn_ok (evCode_ok hsg horc m).1 h1 hfl hS⟩
end
theorem sh3_from {φ ψ : Ren} {σ : Nat → Nat} {n : Nat} (hψ : ∀ i r, i < n → ψ (σ i) = some r → φ i = some r ∧ φ.cap r = ψ.cap r) {v v' : Value} (h : sh3 n v = true) (r : VRel ψ (ren3 σ v) v') : VRel φ v v' := by
  by_cases ha : ∃ x, v = .tuple x
  · obtain ⟨x, rfl⟩ := ha
    simp only [ren3] at r
    cases r with
    | tuple hx ex =>
      rw [show (x.map (ren2 σ)).toList = x.toList.map (ren2 σ) by simp] at hx ex
      have := shL_from (φ := φ) (ψ := ψ) (sh2 n) (ren2 σ) (fun _ _ => sh2_from hψ) (l := x.toList) (by simpa [sh3] using h) ⟨hx, ex⟩
      exact .tuple (by simpa using this.1) (by simpa using this.2)
  · have hn : ∀ x, v ≠ .tuple x := fun x e => ha ⟨x, e⟩
    rw [ren3_of hn] at r; rw [sh3_of hn] at h
    exact sh2_from hψ h r
/-- The last block stands for the one of number m. -/
def sigK (n m i : Nat) : Nat := if i = n then m else i
/-- Of what a call leaves behind, the old blocks and one new one are kept. -/
theorem callAt_keep {P : Program} {Sg : List Blk} {fl : Nat} {f : FuncId} {args : List Value} {S S' U : List Blk} {v v1 : Value} {m : Nat} {kb : Blk} (h : CallAt P Sg fl f args S v U) (hl : S'.length = S.length)
    (hU : ∀ b, b < S.length → U[b]? = S'[b]?) (hm : S.length ≤ m) (hj : U[m]? = some (renB (sigK S.length m) kb)) (hkb : kb.obj ≠ some .dead) (hvv : v = ren3 (sigK S.length m) v1)
    (ha : args.all (sh2 S.length) = true) (hv : sh3 (S.length + 1) v1 = true) (hs : ∀ (b : Nat) k, S[b]? = some k → shB S.length k = true) (hs' : ∀ (b : Nat) k, S'[b]? = some k → shB S.length k = true) (hk : shB (S.length + 1) kb = true) :
    CallAt P Sg fl f args S v1 (S' ++ [kb]) := by
  obtain ⟨hx, hc⟩ := h
  have hmU : m < U.length := (List.getElem?_eq_some_iff.1 hj).1
  have hlo : ∀ b, b < S.length → (S' ++ [kb])[b]? = S'[b]? := fun b hb => List.getElem?_append_left (by omega)
  have hla : (S' ++ [kb])[S.length]? = some kb := by rw [List.getElem?_append_right (by omega), hl, Nat.sub_self]; rfl
  refine ⟨⟨by simp; omega, fun b h1 h2 => by rw [hlo b h2, ← hU b h2]; exact hx.2 b h1 h2⟩, ?_⟩
  intro φ w args' inv hr hf
  have hfn : φ S.length = none := hf _ (Nat.le_refl _) (by simp; omega)
  let φc : Ren := ⟨fun b => if b < S.length then φ b else none, φ.cap⟩
  have hback : ∀ i r, i < S.length → φ i = some r → φc i = some r ∧ φc.cap r = φ.cap r := fun i r hi e => by refine ⟨?_, rfl⟩; simp only [φc, hi, if_true]; exact e
  have hfw : ∀ i r, φc i = some r → φ i = some r := by
    intro i r hi
    by_cases hl : i < S.length
    · simp only [φc, hl, if_true] at hi; exact hi
    · simp only [φc, hl, if_false] at hi; cases hi
  have goodc : Good φc S w := by
    refine ⟨fun b k r hb hr => ?_, fun b r hb => inv.ok.good.low b r (hfw b r hb), fun b c r hb hc => inv.ok.good.inj b c r (hfw b r hb) (hfw c r hc), inv.ok.good.zero, fun b k r hb hr => inv.ok.good.room b k r hb (hfw b r hr)⟩
    obtain ⟨o, h1, h2⟩ := inv.ok.good.blk b k r hb (hfw b r hr)
    exact ⟨o, h1, shB_from (σ := fun b => b) (n := S.length) hback (hs b k hb) (by rw [renB_id]; exact h2)⟩
  have invc : Inv Sg φc S w := ⟨⟨goodc, fun g hg => (hback g g (by have := inv.len; omega) (inv.ok.glob g hg)).1⟩, inv.base, inv.len⟩
  have hargs : LRel φc args args' := by
    have := shL_from (φ := φc) (ψ := φ) (sh2 S.length) (ren2 fun b => b) (fun _ _ => sh2_from (n := S.length) hback) ha (l' := args') (by
      rw [show args.map (ren2 fun b => b) = args from by rw [show (ren2 fun b => b) = id from funext ren2_id]; simp]
      exact hr)
    exact this
  refine Calls.mono (hc φc w args' invc hargs fun b h1 _ => by simp only [φc, show ¬ b < S.length by omega, if_false]) ?_
  rintro e w' ⟨v', ψ0, rfl, hv', good', st⟩
  let ψ : Ren := ⟨fun b => if b = S.length then ψ0 m else φ b, ψ0.cap⟩
  have hψl : ∀ b, b ≠ S.length → ψ b = φ b := fun b hb => by simp only [ψ, hb, if_false]
  have hψn : ψ S.length = ψ0 m := by simp only [ψ, if_true]
  have hto : ∀ i r, i < S.length → ψ0 i = some r → φ i = some r := by
    intro i r hi hr
    rcases st.dom i r hr with h1 | ⟨h1, _, _⟩
    · exact hfw i r h1
    · omega
  have hfrom : ∀ i r, i < S.length + 1 → ψ0 (sigK S.length m i) = some r → ψ i = some r ∧ ψ.cap r = ψ0.cap r := by
    intro i r hi hr
    refine ⟨?_, rfl⟩
    by_cases he : i = S.length
    · subst he
      simp only [sigK, if_true] at hr
      rw [hψn]; exact hr
    · simp only [sigK, he, if_false] at hr
      rw [hψl i he]
      exact hto i r (by omega) hr
  have hcap : ∀ b r, φ b = some r → ψ0.cap r = φ.cap r := fun b r hb => st.caps r (inv.ok.good.low b r hb)
  have hdd : ∀ b, b < S.length → Dead S b → Dead (S' ++ [kb]) b := fun b hb d => (st.dead b hb d).pre fun k hk' => by rw [hU b hb, ← hlo b hb]; exact hk'
  have hdx : ∀ b r, φ b = some r → Dead S b → Dead (S' ++ [kb]) b := fun b r hb d => by
    by_cases hb2 : b < S.length
    · exact hdd b hb2 d
    · intro k hk'
      have h3 := (List.getElem?_eq_some_iff.1 hk').1
      simp at h3
      have : b = S.length := by omega
      subst this
      rw [hfn] at hb; cases hb
  have hv2 : VRel ψ v1 v' := sh3_from (σ := sigK S.length m) hfrom hv (by rw [← hvv]; exact hv')
  have hlive : ¬ Dead U m := fun d => d.not hj hkb
  -- the new block and an old one do not lie at the same place
  have hnew : ∀ c r, c ≠ S.length → ψ0 m = some r → φ c = some r → Dead (S' ++ [kb]) c := by
    intro c r hc h1 h2
    by_cases hcl : c < S.length
    · have h3 : ψ0 c = some r := st.ext c r (hback c r hcl h2).1
      rcases good'.inj m c r h1 h3 with e | d | d
      · omega
      · exact absurd d hlive
      · exact d.pre fun k hk' => by rw [hU c hcl, ← hlo c hcl]; exact hk'
    · intro k hk'
      have h3 := (List.getElem?_eq_some_iff.1 hk').1
      simp at h3
      omega
  have ext' : RExt φ ψ := ⟨fun b r hb => by
    by_cases he : b = S.length
    · subst he; rw [hfn] at hb; cases hb
    · rw [hψl b he]; exact hb, fun b r hb => hcap b r hb⟩
  refine ⟨v', ψ, rfl, hv2, ⟨fun b k r hb hr => ?_, fun b r hb => ?_, fun b c r hb hc => ?_, fun r hr => good'.zero r hr, fun b k r hb hr => ?_⟩, ⟨ext', fun r hr => st.caps r hr, fun b r hb => ?_, by simp; omega, hdd, fun b h1 h2 => by rw [hlo b h2, ← hU b h2]; exact st.keep b h1 h2, fun r h1 h2 => st.frame r h1 fun b e1 e2 e3 e4 => h2 b e1 e2 e3 (hfw b r e4), st.size, st.os, st.tape, st.output⟩⟩
  · by_cases hbl : b < S.length
    · rw [hlo b hbl] at hb
      rw [hψl b (by omega)] at hr
      obtain ⟨o, o1, o2⟩ := good'.blk b k r (by rw [hU b hbl]; exact hb) (st.ext b r (hback b r hbl hr).1)
      refine ⟨o, o1, ?_⟩
      have := shB_to (φ := ψ0) (ψ := ψ) (σ := fun b => b) (n := S.length) (fun i r hi h1 => ⟨by show ψ i = some r; rw [hψl i (by omega)]; exact hto i r hi h1, rfl⟩) (hs' b k hb) o2
      rwa [renB_id] at this
    · have h3 := (List.getElem?_eq_some_iff.1 hb).1
      simp at h3
      obtain rfl : b = S.length := by omega
      rw [hla] at hb
      cases hb
      rw [hψn] at hr
      obtain ⟨o, o1, o2⟩ := good'.blk m _ r hj hr
      exact ⟨o, o1, shB_from (σ := sigK S.length m) (n := S.length + 1) hfrom hk o2⟩
  · by_cases he : b = S.length
    · subst he; rw [hψn] at hb; exact good'.low m r hb
    · rw [hψl b he] at hb; exact Nat.lt_of_lt_of_le (inv.ok.good.low b r hb) st.size
  · by_cases he : b = S.length
    · by_cases he2 : c = S.length
      · exact .inl (he.trans he2.symm)
      · subst he
        rw [hψn] at hb; rw [hψl c he2] at hc
        exact .inr (.inr (hnew c r he2 hb hc))
    · rw [hψl b he] at hb
      by_cases he2 : c = S.length
      · subst he2
        rw [hψn] at hc
        exact .inr (.inl (hnew b r he hc hb))
      · rw [hψl c he2] at hc
        exact (inv.ok.good.inj b c r hb hc).imp id fun d => d.imp (hdx b r hb) (hdx c r hc)
  · by_cases hbl : b < S.length
    · rw [hlo b hbl] at hb
      rw [hψl b (by omega)] at hr
      exact (good'.room b k r (by rw [hU b hbl]; exact hb) (st.ext b r (hback b r hbl hr).1)).ext rfl rfl
    · have h3 := (List.getElem?_eq_some_iff.1 hb).1
      simp at h3
      obtain rfl : b = S.length := by omega
      rw [hla] at hb
      cases hb
      rw [hψn] at hr
      exact (good'.room m _ r hj hr : Room ψ0 r (renB (sigK S.length m) kb) w')
  · by_cases he : b = S.length
    · subst he
      rw [hψn] at hb
      refine .inr ⟨Nat.le_refl _, by simp; omega, ?_⟩
      rcases st.dom m r hb with h1 | ⟨_, _, h1 | ⟨c, c1, c2, c3, c4, c5⟩⟩
      · have := hfw m r h1
        simp only [φc, show ¬ m < S.length by omega, if_false] at h1
        cases h1
      · exact .inl h1
      · exact .inr ⟨c, c1, c2, hfw c r c3, c4, c5.pre fun k hk' => by rw [hU c c2, ← hlo c c2]; exact hk'⟩
    · rw [hψl b he] at hb
      exact .inl hb
/-- What is behind the last piece of a body. -/
noncomputable def endK {α : Type} (P : Program) (f : FuncId) (k : Value → List Blk → Option α) : Kont α := fun x T' S' => match x with
  | .exit _ => none
  | _ => match outOf P f T' S' with
    | some v => k v S'
    | none => none
theorem callInK_endK {P : Program} {α : Type} {orc : Orc} {Sg : List Blk} {fl : Nat} {f : FuncId} {args : List Value} {S : List Blk} {k : Value → List Blk → Option α} (hb : (P.funcs[f]?).bind (·.body) ≠ none) :
    ∃ (m : Nat) (fs : Nat → Nat), callInK P (evCodeK P orc Sg m) fl f args S k = evP P orc Sg fl fs 0 (pcs P f) (tmps0Of P f args) S (endK P f k) := by
  obtain ⟨fs, h⟩ := callInK_pieces (P := P) (α := α) (orc := orc) (Sg := Sg) (fl := fl) (f := f) (args := args) (S := S) (k := k) hb _ (Nat.le_refl _)
  exact ⟨_, fs, h⟩
end Go.Proofs.XX.Vm
