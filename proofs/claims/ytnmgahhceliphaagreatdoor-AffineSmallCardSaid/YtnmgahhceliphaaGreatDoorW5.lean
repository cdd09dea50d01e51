/- Code in the world, round by round, on top of the evaluator; what nobody knows any more is forgotten on the way. -/
import Derived.Test.YtnmgahhceliphaaGreatDoorW4
namespace Go.Proofs.XX.Vm
open Go Go.RowKit

section
variable {P : Program} {orc : Orc} {Sg : List Blk}

def BndW (φ : Ren) (n : Nat) : Prop := ∀ b r, φ b = some r → b < n
/-- Where an activation stands, seen from where it began. -/
structure AtW (Sg : List Blk) (fl : Nat) (S0 : List Blk) (φ0 : Ren) (w0 : World) (d0 : List Deferred) (T : List Value) (S : List Blk) (φ : Ren) (a : Act) (w : World) : Prop where
  inv : Inv Sg φ S w
  tmps : LRel φ T a.tmps.toList
  defs : Defs w0.heap.size d0 a.defers φ w
  step : Step fl φ0 S0 w0 φ S w
  bnd : BndW φ S.length

/-- From these temporaries and this shadow heap the code comes to an end that meets Q. -/
def WpW (P : Program) (Sg : List Blk) (nb fl : Nat) (c : Code) (T : List Value) (S : List Blk) (Q : Ex → List Value → List Blk → Prop) : Prop :=
  ∀ (R : Exit → Act → World → Prop) (S0 : List Blk) (φ0 : Ren) (w0 : World) (d0 : List Deferred) (φ : Ren) (a : Act) (w : World), S0.length = nb → BndW φ0 nb → AtW Sg fl S0 φ0 w0 d0 T S φ a w →
    (∀ x T' S' ψ a' w', Q x T' S' → AtW Sg fl S0 φ0 w0 d0 T' S' ψ a' w' → R x.to a' w') → c.wpIn (wideAt none) 0 P R a w

theorem WpW.mono {nb fl : Nat} {c : Code} {T : List Value} {S : List Blk} {Q R : Ex → List Value → List Blk → Prop} (h : WpW P Sg nb fl c T S Q) (hq : ∀ x T' S', Q x T' S' → R x T' S') : WpW P Sg nb fl c T S R :=
  fun F S0 φ0 w0 d0 φ a w hn hb A hR => h F S0 φ0 w0 d0 φ a w hn hb A fun x T' S' ψ a' w' q A' => hR x T' S' ψ a' w' (hq _ _ _ q) A'

theorem WpW.of_code (hsg : SgOk Sg) (horc : OrcOk P Sg (orcOf orc)) {nb fl : Nat} (hfl : Sg.length ≤ fl) {n : Nat} {c : Code} {T T' : List Value} {S S' : List Blk} {x : Ex} {Q : Ex → List Value → List Blk → Prop}
    (h : evCode P (orcOf orc) Sg n false fl c T S = some (x, T', S')) (q : Q x T' S') : WpW P Sg nb fl c T S Q := by
  intro R S0 φ0 w0 d0 φ a w hn hb A hR
  obtain ⟨hx, hk⟩ := (evCode_ok hsg horc n).1 false fl c T S x T' S' h hfl A.inv.len
  refine hk none rfl R φ a w A.inv A.tmps (fun b e1 _ => ?_) ?_
  · cases hφ : φ b with
    | none => rfl
    | some r => have := A.bnd b r hφ; omega
  · intro ψ a' w' g1 g2 g3 g4
    refine hR x T' S' ψ a' w' q ⟨A.inv.step hfl g4 g1, g2, A.defs.trans g4 A.step.size g3, A.step.trans g4 fun b e1 _ => ?_, fun b r e => ?_⟩
    · cases hφ : φ0 b with
      | none => rfl
      | some r => have := hb b r hφ; omega
    · rcases g4.dom b r e with e | ⟨_, e, _⟩
      · exact Nat.lt_of_lt_of_le (A.bnd b r e) g4.len
      · exact e
/-- What the evaluator gives. -/
theorem WpW.of_ev (hsg : SgOk Sg) (horc : OrcOk P Sg (orcOf orc)) {nb fl : Nat} (hfl : Sg.length ≤ fl) {c : Code} {T : List Value} {S : List Blk} {Q : Ex → List Value → List Blk → Prop}
    (h : Ev P orc Sg (Ex × List Value × List Blk) fl c T S Q) : WpW P Sg nb fl c T S Q := by
  obtain ⟨n, x, T', S', q, e⟩ := h
  obtain ⟨x1, T1, S1, h1, h2⟩ := evCodeK_ok (P := P) (orc := orc) (Sg := Sg) n fl c T S (fun x T S => some (x, T, S)) (x, T', S') (e n (Nat.le_refl _) _)
  simp only [Option.some.injEq, Prod.mk.injEq] at h2
  obtain ⟨rfl, rfl, rfl⟩ := h2
  exact WpW.of_code hsg horc hfl h1 q

theorem WpW.seq {nb fl : Nat} {a b : Code} {T : List Value} {S : List Blk} {Q : Ex → List Value → List Blk → Prop}
    (h : WpW P Sg nb fl a T S fun x T' S' => match x with
      | .normal => WpW P Sg nb fl b T' S' Q
      | .exit id => Q (.exit id) T' S'
      | .ret => Q .ret T' S') : WpW P Sg nb fl (.seq a b) T S Q := by
  intro R S0 φ0 w0 d0 φ ac w hn hb A hR
  refine wpIn_seq (h _ S0 φ0 w0 d0 φ ac w hn hb A ?_)
  intro x T' S' ψ a' w' q A'
  cases x with
  | normal => exact q R S0 φ0 w0 d0 ψ a' w' hn hb A' hR
  | exit id => exact hR _ _ _ _ _ _ q A'
  | ret => exact hR _ _ _ _ _ _ q A'
theorem WpW.block {nb fl : Nat} {b : Code} {id : Nat} {T : List Value} {S : List Blk} {Q : Ex → List Value → List Blk → Prop}
    (h : WpW P Sg nb fl b T S fun x T' S' => match x with
      | .normal => Q .normal T' S'
      | .exit id' => if id' = id then Q .normal T' S' else Q (.exit id') T' S'
      | .ret => Q .ret T' S') : WpW P Sg nb fl (.block id b) T S Q := by
  intro R S0 φ0 w0 d0 φ ac w hn hb A hR
  refine wpIn_block (h _ S0 φ0 w0 d0 φ ac w hn hb A ?_)
  intro x T' S' ψ a' w' q A'
  cases x with
  | normal => exact hR _ _ _ _ _ _ q A'
  | exit id' =>
    simp only at q
    simp only [Ex.to, Exit.inBlock]
    split at q
    · rename_i he
      rw [if_pos he]
      exact hR .normal _ _ _ _ _ q A'
    · rename_i he
      rw [if_neg he]
      exact hR (.exit id') _ _ _ _ _ q A'
  | ret => exact hR _ _ _ _ _ _ q A'
theorem WpW.cond {nb fl : Nat} {y : Operand} {c1 c2 : Code} {T : List Value} {S : List Blk} {β : Bool} {Q : Ex → List Value → List Blk → Prop} (hβ : opd Sg.length T y = some (.bool β))
    (h : WpW P Sg nb fl (bif β then c1 else c2) T S Q) : WpW P Sg nb fl (.cond y c1 c2) T S Q := by
  intro R S0 φ0 w0 d0 φ a w hn hb A hR
  have hv := opd_rel A.inv.ok A.tmps hβ
  generalize hce : a.eval y = cv at hv
  cases hv
  refine wpIn_cond hce ?_
  cases β
  · exact h R S0 φ0 w0 d0 φ a w hn hb A hR
  · exact h R S0 φ0 w0 d0 φ a w hn hb A hR
/-- A loop: I is kept, and the measure falls. -/
theorem WpW.loop {nb fl : Nat} {b : Code} (I : Nat → List Value → List Blk → Prop) {Q : Ex → List Value → List Blk → Prop}
    (h : ∀ m T S, I m T S → WpW P Sg nb fl b T S fun x T' S' => match x with
      | .normal => ∃ m', m' < m ∧ I m' T' S'
      | .exit id => Q (.exit id) T' S'
      | .ret => Q .ret T' S') : ∀ m T S, I m T S → WpW P Sg nb fl (.loop b) T S Q := by
  intro m T S hI R S0 φ0 w0 d0 φ a w hn hb A hR
  have key : ∀ n m T S φ a w, m < n → I m T S → AtW Sg fl S0 φ0 w0 d0 T S φ a w → Code.roundsIn (wideAt none) 0 P b R n a w := by
    intro n
    induction n with
    | zero => intro m T S φ a w hm; omega
    | succ n ih =>
      intro m T S φ a w hm hI A
      rw [roundsIn_succ]
      refine h m T S hI _ S0 φ0 w0 d0 φ a w hn hb A ?_
      intro x T' S' ψ a' w' q A'
      cases x with
      | normal =>
        obtain ⟨m', h1, h2⟩ := q
        exact ih m' T' S' ψ a' w' (by omega) h2 A'
      | exit id => exact hR _ _ _ _ _ _ q A'
      | ret => exact hR _ _ _ _ _ _ q A'
  exact wpIn_loop_rounds (m + 1) (key (m + 1) m T S φ a w (Nat.lt_succ_self m) hI A)
/-- The smaller state says no more than the greater one: blocks are left out, or change their places. -/
structure Shr (nb fl : Nat) (τ : Nat → Nat) (T' : List Value) (S' : List Blk) (T'' : List Value) (S'' : List Blk) : Prop where
  fix : ∀ i, i < nb → τ i = i
  inj : ∀ i j, i < S''.length → j < S''.length → τ i = τ j → i = j
  least : nb ≤ S''.length
  tmps : T''.map (ren3 τ) = T'
  sh : T''.all (sh3 S''.length) = true
  blk : ∀ i k, S''[i]? = some k → S'[τ i]? = some (renB τ k) ∧ shB S''.length k = true
  keep : ∀ b, b < fl → b < nb → S''[b]? = S'[b]?

theorem AtW.shrink {nb fl : Nat} {S0 : List Blk} {φ0 : Ren} {w0 : World} {d0 : List Deferred} {T' T'' : List Value} {S' S'' : List Blk} {ψ : Ren} {a : Act} {w : World} {τ : Nat → Nat} (hfl : Sg.length ≤ fl) (hgb : Sg.length ≤ nb) (hn : S0.length = nb) (hb : BndW φ0 nb)
    (A : AtW Sg fl S0 φ0 w0 d0 T' S' ψ a w) (h : Shr nb fl τ T' S' T'' S'') : ∃ χ, AtW Sg fl S0 φ0 w0 d0 T'' S'' χ a w := by
  let χ : Ren := ⟨fun i => if i < S''.length then ψ (τ i) else none, ψ.cap⟩
  have hχ : ∀ i r, χ i = some r → i < S''.length ∧ ψ (τ i) = some r := by
    intro i r hi
    by_cases hl : i < S''.length
    · simp only [χ, hl, if_true] at hi; exact ⟨hl, hi⟩
    · simp only [χ, hl, if_false] at hi; cases hi
  have hback : ∀ i r, i < S''.length → ψ (τ i) = some r → χ i = some r ∧ χ.cap r = ψ.cap r := fun i r hi e => by refine ⟨?_, rfl⟩; simp only [χ, hi, if_true]; exact e
  have hdead : ∀ i, Dead S' (τ i) → Dead S'' i := fun i d k hk => by have := d _ (h.blk i k hk).1; exact this
  have hnb := h.least
  refine ⟨χ, ⟨⟨⟨⟨fun b k r hk hr => ?_, fun b r e => A.inv.ok.good.low _ r (hχ b r e).2, fun b c r e1 e2 => ?_, A.inv.ok.good.zero, fun b k r hk hr => ?_⟩, fun g hg => ?_⟩, fun g hg => ?_, by omega⟩, ?_, ?_, ?_, fun b r e => (hχ b r e).1⟩⟩
  · obtain ⟨h1, h2⟩ := hχ b r hr
    obtain ⟨h3, h4⟩ := h.blk b k hk
    obtain ⟨o, o1, o2⟩ := A.inv.ok.good.blk _ _ r h3 h2
    exact ⟨o, o1, shB_from hback h4 o2⟩
  · obtain ⟨h1, h2⟩ := hχ b r e1
    obtain ⟨h3, h4⟩ := hχ c r e2
    rcases A.inv.ok.good.inj _ _ r h2 h4 with e | d | d
    · exact .inl (h.inj b c h1 h3 e)
    · exact .inr (.inl (hdead b d))
    · exact .inr (.inr (hdead c d))
  · obtain ⟨h1, h2⟩ := hχ b r hr
    exact room_from (A.inv.ok.good.room _ _ r (h.blk b k hk).1 h2) rfl
  · exact (hback g g (by omega) (by rw [h.fix g (by omega)]; exact A.inv.ok.glob g hg)).1
  · rw [h.keep g (by omega) (by omega)]
    exact A.inv.base g hg
  · have := A.tmps
    rw [← h.tmps] at this
    exact shL_from (sh3 S''.length) (ren3 τ) (fun _ _ => sh3_from hback) h.sh this
  · obtain ⟨rs, e, n1, h1⟩ := A.defs
    refine ⟨rs, e, n1, fun r hr => ?_⟩
    obtain ⟨a1, a2, a3⟩ := h1 r hr
    exact ⟨a1, a2, fun b hb => a3 _ (hχ b r hb).2⟩
  · have st := A.step
    refine ⟨⟨fun b r e => ?_, fun b r e => st.ext.cap b r e⟩, st.caps, fun b r e => ?_, by omega, fun b e1 d => ?_, fun b e1 e2 => ?_, st.frame, st.size, st.os, st.tape, st.output⟩
    · have hbn := hb b r e
      exact (hback b r (by omega) (by rw [h.fix b hbn]; exact st.ext b r e)).1
    · obtain ⟨h1, h2⟩ := hχ b r e
      rcases st.dom _ r h2 with e3 | ⟨e3, _, e4⟩
      · have hτ := hb _ r e3
        have : τ b = b := h.inj _ _ (by omega) h1 (h.fix _ hτ)
        rw [this] at e3
        exact .inl e3
      · refine .inr ⟨?_, h1, e4.imp id fun ⟨c, c1, c2, c3, c4, c5⟩ => ⟨c, c1, c2, c3, c4, hdead c (by rw [h.fix c (by omega)]; exact c5)⟩⟩
        apply Classical.byContradiction
        intro hlt
        have := h.fix b (by omega)
        omega
    · exact hdead b (by rw [h.fix b (by omega)]; exact st.dead b e1 d)
    · rw [h.keep b e1 (by omega)]
      exact st.keep b e1 e2
theorem WpW.post {nb fl : Nat} {c : Code} {T : List Value} {S : List Blk} {Q R : Ex → List Value → List Blk → Prop} (hfl : Sg.length ≤ fl) (hgb : Sg.length ≤ nb) (h : WpW P Sg nb fl c T S Q)
    (hq : ∀ x T' S', Q x T' S' → ∃ τ T'' S'', Shr nb fl τ T' S' T'' S'' ∧ R x T'' S'') : WpW P Sg nb fl c T S R := by
  intro F S0 φ0 w0 d0 φ a w hn hb A hR
  refine h F S0 φ0 w0 d0 φ a w hn hb A fun x T' S' ψ a' w' q A' => ?_
  obtain ⟨τ, T'', S'', hs, hr⟩ := hq x T' S' q
  obtain ⟨χ, A2⟩ := A'.shrink hfl hgb hn hb hs
  exact hR x T'' S'' χ a' w' hr A2
/-- Blocks at the end are left out. -/
theorem Shr.drop {nb fl : Nat} {T : List Value} {S N : List Blk} (hn : nb ≤ S.length) (ht : T.all (sh3 S.length) = true) (hs : ∀ k ∈ S, shB S.length k = true) : Shr nb fl (fun i => i) T (S ++ N) T S := by
  refine ⟨fun _ _ => rfl, fun _ _ _ _ e => e, hn, ?_, ht, fun i k hk => ⟨?_, hs k (List.mem_of_getElem? hk)⟩, fun b _ h2 => ?_⟩
  · rw [show (ren3 fun b => b) = id from funext ren3_id]; simp
  · rw [renB_id, List.getElem?_append_left (List.getElem?_eq_some_iff.1 hk).1, hk]
  · rw [List.getElem?_append_left (by omega)]

/-- The pieces, one after the other. -/
def WpL (P : Program) (Sg : List Blk) (nb fl : Nat) : List Code → List Value → List Blk → (Ex → List Value → List Blk → Prop) → Prop
  | [], T, S, Q => Q .normal T S
  | c :: l, T, S, Q => WpW P Sg nb fl c T S fun x T' S' => match x with
      | .normal => WpL P Sg nb fl l T' S' Q
      | .exit id => Q (.exit id) T' S'
      | .ret => Q .ret T' S'
theorem WpL.mono {nb fl : Nat} : ∀ {l : List Code} {T : List Value} {S : List Blk} {Q R : Ex → List Value → List Blk → Prop}, WpL P Sg nb fl l T S Q → (∀ x T' S', Q x T' S' → R x T' S') → WpL P Sg nb fl l T S R
  | [], _, _, _, _, h, hq => hq _ _ _ h
  | c :: l, T, S, Q, R, h, hq => WpW.mono h fun x T' S' q => by
    cases x with
    | normal => exact WpL.mono q hq
    | exit id => exact hq _ _ _ q
    | ret => exact hq _ _ _ q
theorem WpL.append {nb fl : Nat} : ∀ {l m : List Code} {T : List Value} {S : List Blk} {Q : Ex → List Value → List Blk → Prop}, WpL P Sg nb fl l T S (fun x T' S' => match x with
      | .normal => WpL P Sg nb fl m T' S' Q
      | .exit id => Q (.exit id) T' S'
      | .ret => Q .ret T' S') → WpL P Sg nb fl (l ++ m) T S Q
  | [], _, _, _, _, h => h
  | c :: l, m, T, S, Q, h => WpW.mono h fun x T' S' q => by
    cases x with
    | normal => exact WpL.append q
    | exit id => exact q
    | ret => exact q
theorem WpW.of_pieces {nb fl : Nat} : ∀ {c : Code} {T : List Value} {S : List Blk} {Q : Ex → List Value → List Blk → Prop}, WpL P Sg nb fl (flatC c) T S Q → WpW P Sg nb fl c T S Q := by
  have one : ∀ (c : Code) {T : List Value} {S : List Blk} {Q : Ex → List Value → List Blk → Prop}, flatC c = [c] → WpL P Sg nb fl (flatC c) T S Q → WpW P Sg nb fl c T S Q := by
    intro c T S Q hc h
    rw [hc] at h
    exact WpW.mono h fun x T' S' q => by cases x <;> exact q
  have un : ∀ (l m : List Code) {T : List Value} {S : List Blk} {Q : Ex → List Value → List Blk → Prop}, WpL P Sg nb fl (l ++ m) T S Q → WpL P Sg nb fl l T S fun x T' S' => match x with
      | .normal => WpL P Sg nb fl m T' S' Q
      | .exit id => Q (.exit id) T' S'
      | .ret => Q .ret T' S' := by
    intro l
    induction l with
    | nil => intro m T S Q h; exact h
    | cons c l ih =>
      intro m T S Q h
      refine WpW.mono h fun x T' S' q => ?_
      cases x with
      | normal => exact ih m q
      | exit id => exact q
      | ret => exact q
  intro c
  induction c with
  | seq a b iha ihb =>
    intro T S Q h
    refine WpW.seq (iha (WpL.mono (un _ _ h) fun x T' S' q => ?_))
    cases x with
    | normal => exact ihb q
    | exit id => exact q
    | ret => exact q
  | _ => intro T S Q h; exact one _ rfl h
/-- Some pieces by an equation of the evaluator. -/
theorem WpL.of_evP (hsg : SgOk Sg) (horc : OrcOk P Sg (orcOf orc)) {nb fl : Nat} (hfl : Sg.length ≤ fl) (fs : Nat → Nat) : ∀ (l : List Code) (i : Nat) (T : List Value) (S : List Blk) (x : Ex) (T' : List Value) (S' : List Blk),
    evP P orc Sg fl fs i l T S (fun x T S => some (x, T, S)) = some (x, T', S') → WpL P Sg nb fl l T S fun y U V => y = x ∧ U = T' ∧ V = S' := by
  intro l
  induction l with
  | nil => intro i T S x T' S' h; cases h; exact ⟨rfl, rfl, rfl⟩
  | cons c l ih =>
    intro i T S x T' S' h
    simp only [evP] at h
    obtain ⟨x1, T1, S1, h1, h2⟩ := evCodeK_ok (P := P) (orc := orc) (Sg := Sg) (fs i + 60) fl c T S _ _ h
    refine WpW.of_code hsg horc hfl h1 ?_
    cases x1 with
    | normal => exact ih _ _ _ _ _ _ h2
    | exit id => cases h2; exact ⟨rfl, rfl, rfl⟩
    | ret => cases h2; exact ⟨rfl, rfl, rfl⟩
theorem WpL.run (hsg : SgOk Sg) (horc : OrcOk P Sg (orcOf orc)) {nb fl : Nat} (hfl : Sg.length ≤ fl) {l m : List Code} {i : Nat} {T T' : List Value} {S S' : List Blk} {Q : Ex → List Value → List Blk → Prop}
    (e : evP P orc Sg fl (fun _ => 1000) i l T S (fun x T S => some (x, T, S)) = some (.normal, T', S')) (h : WpL P Sg nb fl m T' S' Q) : WpL P Sg nb fl (l ++ m) T S Q := by
  refine WpL.append (WpL.mono (WpL.of_evP hsg horc hfl _ l i T S _ _ _ e) ?_)
  rintro x U V ⟨rfl, rfl, rfl⟩
  exact h
theorem WpL.stop (hsg : SgOk Sg) (horc : OrcOk P Sg (orcOf orc)) {nb fl : Nat} (hfl : Sg.length ≤ fl) {l : List Code} {i : Nat} {x : Ex} {T T' : List Value} {S S' : List Blk} {Q : Ex → List Value → List Blk → Prop}
    (e : evP P orc Sg fl (fun _ => 1000) i l T S (fun x T S => some (x, T, S)) = some (x, T', S')) (h : Q x T' S') : WpL P Sg nb fl l T S Q := by
  refine WpL.mono (WpL.of_evP hsg horc hfl _ l i T S _ _ _ e) ?_
  rintro x U V ⟨rfl, rfl, rfl⟩
  exact h
theorem WpL.step {nb fl : Nat} {c : Code} {l : List Code} {T : List Value} {S : List Blk} {Q : Ex → List Value → List Blk → Prop} (h : WpW P Sg nb fl c T S fun x T' S' => match x with
      | .normal => WpL P Sg nb fl l T' S' Q
      | .exit id => Q (.exit id) T' S'
      | .ret => Q .ret T' S') : WpL P Sg nb fl (c :: l) T S Q := h

/-- A whole call in a heap; new blocks at the end that nobody knows of are left out. -/
theorem CallAt.of_W {fl : Nat} {f : FuncId} {args : List Value} {S S' : List Blk} {v : Value} (hb : (P.funcs[f]?).bind (·.body) ≠ none) (hS : Sg.length ≤ S.length) (hx : Ext fl S S') (ha : args.all (sh2 S.length) = true) (hs : ∀ k ∈ S, shB S.length k = true)
    (hs' : ∀ k ∈ S', shB S'.length k = true) (hv : sh3 S'.length v = true)
    (h : WpW P Sg S.length fl (bodyOf P f) (tmps0Of P f args) S fun x T' U => (match x with | .exit _ => False | _ => True) ∧ (∃ N, U = S' ++ N) ∧ outOf P f T' U = some v) : CallAt P Sg fl f args S v S' := by
  refine ⟨hx, ?_⟩
  intro φ w args' inv hr hf
  let φc : Ren := ⟨fun b => if b < S.length then φ b else none, φ.cap⟩
  have hback : ∀ i r, i < S.length → φ i = some r → φc i = some r ∧ φc.cap r = φ.cap r := fun i r hi e => by refine ⟨?_, rfl⟩; simp only [φc, hi, if_true]; exact e
  have hfw : ∀ i r, φc i = some r → i < S.length ∧ φ i = some r := by
    intro i r hi
    by_cases hl : i < S.length
    · simp only [φc, hl, if_true] at hi; exact ⟨hl, hi⟩
    · simp only [φc, hl, if_false] at hi; cases hi
  have goodc : Good φc S w := by
    refine ⟨fun b k r hb hr => ?_, fun b r hb => inv.ok.good.low b r (hfw b r hb).2, fun b c r hb hc => inv.ok.good.inj b c r (hfw b r hb).2 (hfw c r hc).2, inv.ok.good.zero, fun b k r hb hr => inv.ok.good.room b k r hb (hfw b r hr).2⟩
    obtain ⟨o, h1, h2⟩ := inv.ok.good.blk b k r hb (hfw b r hr).2
    exact ⟨o, h1, shB_from (σ := fun b => b) (n := S.length) hback (hs k (List.mem_of_getElem? hb)) (by rw [renB_id]; exact h2)⟩
  have invc : Inv Sg φc S w := ⟨⟨goodc, fun g hg => (hback g g (by omega) (inv.ok.glob g hg)).1⟩, inv.base, inv.len⟩
  have hargs : LRel φc args args' := by
    have := shL_from (φ := φc) (ψ := φ) (sh2 S.length) (ren2 fun b => b) (fun _ _ => sh2_from (n := S.length) hback) ha (l' := args') (by
      rw [show args.map (ren2 fun b => b) = args from by rw [show (ren2 fun b => b) = id from funext ren2_id]; simp]
      exact hr)
    exact this
  cases hfn : P.funcs[f]? with
  | none => rw [hfn] at hb; exact absurd rfl hb
  | some fn =>
    cases hbody : fn.body with
    | none => rw [hfn] at hb; simp [hbody] at hb
    | some c =>
      have hc : bodyOf P f = c := by unfold bodyOf; rw [hfn]; simp only [hbody]
      have ht : tmps0Of P f args = args ++ List.replicate (fn.ntmps - args.length) undef := by unfold tmps0Of; rw [hfn]
      have ho : ∀ T' U, outOf P f T' U = some v → ∃ vs, resVals P T' U fn.results.toList = some vs ∧ oneVal vs = v := by
        intro T' U e
        unfold outOf at e
        rw [hfn] at e
        simp only [hbody] at e
        split at e
        · rename_i vs hvs
          exact ⟨vs, hvs, by cases e; rfl⟩
        · cases e
      rw [hc, ht] at h
      refine (callsIn_wide (n := 0)).1 ?_
      refine callsIn_of_wp_marks (n := 0) hfn hbody trivial (show c.wpIn (wideAt none) 0 P _ _ w from h _ S φc w _ φc _ w rfl (fun b r e => (hfw b r e).1) ⟨invc, ?_, Defs.refl _ _ _ _, Step.refl _ _ _ _, fun b r e => (hfw b r e).1⟩ ?_)
      · have hl : args'.toArray.size = args.length := by simpa using hargs.1.symm
        rw [hl]
        simp only [Array.toList_append, Array.toList_replicate]
        exact hargs.append (list_refl plain (fun _ => plain_refl) (by simp [undef, plain]))
      · rintro x T' U ψ a' w' ⟨hx', ⟨N, rfl⟩, hout⟩ A
        obtain ⟨vs, hvs, rfl⟩ := ho T' _ hout
        obtain ⟨rs, hd, hnd, hrs⟩ := A.defs
        have g4 := A.step
        let χ : Ren := ⟨fun b => if b < S'.length then ψ b else φ b, ψ.cap⟩
        have hψχ : ∀ b r, b < S'.length → ψ b = some r → χ b = some r ∧ χ.cap r = ψ.cap r := fun b r hl e => by refine ⟨?_, rfl⟩; simp only [χ, hl, if_true]; exact e
        have hχc : ∀ b r, χ b = some r → (b < S'.length ∧ ψ b = some r) ∨ (S'.length ≤ b ∧ φ b = some r) := by
          intro b r e
          by_cases hl : b < S'.length
          · simp only [χ, hl, if_true] at e; exact .inl ⟨hl, e⟩
          · simp only [χ, hl, if_false] at e; exact .inr ⟨by omega, e⟩
        have hle := hx.1
        have hpre : ∀ b, Dead (S' ++ N) b → Dead S' b := fun b d => d.pre fun k hk => by rw [List.getElem?_append_left (List.getElem?_eq_some_iff.1 hk).1]; exact hk
        have hout2 : ∀ b, S'.length ≤ b → Dead S' b := fun b hb k hk => by have := (List.getElem?_eq_some_iff.1 hk).1; omega
        have key : LeavesInM (wideAt none) 0 P fn a'.tmps (fun e w' => ∃ v' ψ, e = .returned v' ∧ VRel ψ (oneVal vs) v' ∧ Good ψ S' w' ∧ Step fl φ S w ψ S' w') a'.defers .returning w' := by
          rw [hd]
          refine leaves_marks rs w' hnd (fun r hr => (hrs r hr).2.1) fun w2 f1 f2 f3 f4 f5 => ?_
          have gA := A.inv.ok.good
          have g1' : Good ψ (S' ++ N) w2 := ⟨fun b k r hk hr => by
            obtain ⟨o, h1, h2⟩ := gA.blk b k r hk hr
            exact ⟨o, by rw [f1 r (fun e => (hrs r e).2.2 b hr)]; exact h1, h2⟩, fun b r hb => by rw [f2]; exact gA.low b r hb, gA.inj, fun r hr => gA.zero r (by rw [f2] at hr; exact hr), fun b k r hk hr => (gA.room b k r hk hr).ext rfl (f1 r (fun e => (hrs r e).2.2 b hr))⟩
          obtain ⟨v2, r3, r4⟩ := run_results (P := P) g1' A.tmps hvs
          have hv2 : VRel χ (oneVal vs) v2 := by
            have := sh3_to (σ := fun b => b) (n := S'.length) (φ := ψ) (ψ := χ) (fun i r hi e => hψχ i r hi e) hv r4
            rwa [ren3_id] at this
          refine ⟨v2, r3, v2, χ, rfl, hv2, ⟨fun b k r hk hr => ?_, fun b r e => ?_, fun b c r e1 e2 => ?_, fun r hr => g1'.zero r hr, fun b k r hk hr => ?_⟩, ⟨⟨fun b r e => ?_, fun b r e => g4.caps r (inv.ok.good.low b r e)⟩, g4.caps, fun b r e => ?_, hle, fun b e1 d => hpre b (g4.dead b e1 d), fun b e1 e2 => hx.2 b e1 e2, fun r hr hn => ?_, by rw [f2]; exact g4.size, f3.trans g4.os, f4.trans g4.tape, f5.trans g4.output⟩⟩
          · have hbl := (List.getElem?_eq_some_iff.1 hk).1
            rcases hχc b r hr with ⟨_, e⟩ | ⟨e, _⟩
            · obtain ⟨o, o1, o2⟩ := g1'.blk b k r (by rw [List.getElem?_append_left hbl]; exact hk) e
              have := shB_to (σ := fun b => b) (n := S'.length) (φ := ψ) (ψ := χ) (fun i r hi e => hψχ i r hi e) (hs' k (List.mem_of_getElem? hk)) o2
              rw [renB_id] at this
              exact ⟨o, o1, this⟩
            · omega
          · rw [f2]
            rcases hχc b r e with ⟨_, e⟩ | ⟨_, e⟩
            · exact gA.low b r e
            · exact Nat.lt_of_lt_of_le (inv.ok.good.low b r e) g4.size
          · rcases hχc b r e1 with ⟨h1, e1⟩ | ⟨h1, e1⟩ <;> rcases hχc c r e2 with ⟨h2, e2⟩ | ⟨h2, e2⟩
            · exact (gA.inj b c r e1 e2).imp id fun d => d.imp (hpre b) (hpre c)
            · exact .inr (.inr (hout2 c h2))
            · exact .inr (.inl (hout2 b h1))
            · exact .inr (.inl (hout2 b h1))
          · have hbl := (List.getElem?_eq_some_iff.1 hk).1
            rcases hχc b r hr with ⟨_, e⟩ | ⟨e, _⟩
            · exact (g1'.room b k r (by rw [List.getElem?_append_left hbl]; exact hk) e).ext rfl rfl
            · omega
          · by_cases hl : b < S.length
            · exact (hψχ b r (by omega) (g4.ext b r (hback b r hl e).1)).1
            · by_cases hu : b < S'.length
              · rw [hf b (by omega) hu] at e; cases e
              · simp only [χ, hu, if_false]; exact e
          · rcases hχc b r e with ⟨h1, e⟩ | ⟨_, e⟩
            · rcases g4.dom b r e with e3 | ⟨e3, _, e5⟩
              · exact .inl (hfw b r e3).2
              · exact .inr ⟨e3, h1, e5.imp id fun ⟨c, c1, c2, c3, c4, c5⟩ => ⟨c, c1, c2, (hfw c r c3).2, c4, hpre c c5⟩⟩
            · exact .inl e
          · rw [f1 r (fun e => by have := (hrs r e).1; omega)]
            exact g4.frame r hr fun b h1 h2 h3 e => hn b h1 h2 h3 (hfw b r e).2
        cases x with
        | normal => exact key
        | ret => exact key
        | exit id => exact hx'.elim
/-- A call that reads one block alone, wherever this lies. -/
theorem callAtR (hsg : SgOk Sg) {fl b : Nat} {S : List Blk} {k1 : Blk} {f : FuncId} {args0 : List Value} {v0 : Value}
    (h : CallAt P Sg (Sg.length + 1) f args0 (Sg ++ [k1]) v0 (Sg ++ [k1])) (hb : S[b]? = some (renB (sig1 Sg.length b S.length) k1)) (hgb : Sg.length ≤ b)
    (hargs : args0.all (sh2 (Sg.length + 1)) = true) (hv : sh3 (Sg.length + 1) v0 = true) (s1 : shB (Sg.length + 1) k1 = true) :
    CallAt P Sg fl f (args0.map (ren2 (sig1 Sg.length b S.length))) S (ren3 (sig1 Sg.length b S.length) v0) S := by
  have hbl : b < S.length := (List.getElem?_eq_some_iff.1 hb).1
  have sgk : ∀ (g : Nat) k, Sg[g]? = some k → k.cells.all scalar = true ∧ k.obj = none := by
    intro g k hk
    have := (List.all_eq_true.1 hsg) k (List.mem_of_getElem? hk)
    simpa using this
  have sg : sig1 Sg.length b S.length Sg.length = b := by simp [sig1]
  have l0 : (Sg ++ [k1]).length = Sg.length + 1 := by simp
  have at0 : ∀ (i : Nat) (y : Blk), (Sg ++ [k1])[i]? = some y → (i < Sg.length ∧ Sg[i]? = some y) ∨ (i = Sg.length ∧ y = k1) := by
    intro i y hy
    by_cases h1 : i < Sg.length
    · rw [List.getElem?_append_left h1] at hy; exact .inl ⟨h1, hy⟩
    · rw [List.getElem?_append_right (by omega)] at hy
      have h2 : i - Sg.length = 0 ∨ 1 ≤ i - Sg.length := by omega
      rcases h2 with h2 | h2
      · rw [h2] at hy; cases hy; exact .inr ⟨by omega, rfl⟩
      · rw [List.getElem?_eq_none (by simpa using h2)] at hy; cases hy
  have shg : ∀ (i : Nat) k, (Sg ++ [k1])[i]? = some k → shB (Sg.length + 1) k = true := by
    intro i k hk
    rcases at0 i k hk with ⟨_, h3⟩ | ⟨_, rfl⟩
    · obtain ⟨e1, e2⟩ := sgk i k h3
      simp only [shB, e2, Bool.and_true, List.all_eq_true] at e1 ⊢
      intro v hv
      exact scalar_sh (e1 v hv) _
    · exact s1
  refine callAt_of h ⟨fun g hg => by simp [sig1, hg], fun g hg => by rw [List.getElem?_append_left hg], fun j => ?_, fun i hi => ?_, fun i j hi hj e => ?_, fun i h1 h2 => ?_, by omega, by simp, by simp, fun g k hk => ?_, fun i k h1 hk => ?_, fun i k hk => ?_, fun i k hk => ?_, Nat.le_refl _, by simp, fun i k h1 hk => ?_, fun x hx hno => rfl⟩ (by rw [l0]; exact hargs) (by rw [l0]; exact hv)
  · rw [l0]
    simp only [sig1]
    rw [if_neg (by omega), if_neg (by omega)]
    omega
  · rw [l0] at hi
    simp only [sig1]
    split
    · omega
    · split
      · exact hbl
      · omega
  · rw [l0] at hi hj
    simp only [sig1] at e
    have hi3 : i < Sg.length ∨ i = Sg.length := by omega
    have hj3 : j < Sg.length ∨ j = Sg.length := by omega
    rcases hi3 with h1 | h1 <;> rcases hj3 with h2 | h2 <;> simp only [h1, h2, if_true, if_neg (show ¬ Sg.length < Sg.length by omega)] at e <;> omega
  · rw [l0] at h2
    omega
  · obtain ⟨e1, e2⟩ := sgk g k hk
    obtain ⟨cs, e, ro, ob⟩ := k
    simp only [renB, Blk.mk.injEq, and_true]
    exact (List.map_congr_left fun v hv => scalar_ren ((List.all_eq_true.1 e1) v hv)).trans (List.map_id' _)
  · rcases at0 i k hk with ⟨h2, _⟩ | ⟨rfl, rfl⟩
    · omega
    · rw [sg]; exact hb
  · rw [l0]; exact shg i k hk
  · rw [l0]; exact shg i k hk
  · have := (List.getElem?_eq_some_iff.1 hk).1
    rw [l0] at this
    omega
/-- What names no block from n on stays as it is where the lower blocks keep their places. -/
theorem shA_mono {n m : Nat} (hnm : n ≤ m) {v : Value} (h : shA n v = true) : shA m v = true := by
  unfold shA at h ⊢
  split at h
  · exact h
  · cases h
  · cases h
  · rw [Nat.blt_eq] at *; omega
  · rw [Nat.blt_eq] at *; omega
  · rw [Nat.blt_eq] at *; omega
  · exact h
  · cases h
  · rfl
theorem sh1_mono {n m : Nat} (hnm : n ≤ m) {v : Value} (h : sh1 n v = true) : sh1 m v = true := by
  unfold sh1 at h ⊢
  split at h
  · cases h
  · cases h
  · cases h
  · rw [Nat.blt_eq] at *; omega
  · rw [Nat.blt_eq] at *; omega
  · rw [Nat.blt_eq] at *; omega
  · simp only [Bool.and_eq_true, List.all_eq_true] at h ⊢
    exact ⟨fun u hu => shA_mono hnm (h.1 u hu), fun u hu => shA_mono hnm (h.2 u hu)⟩
  · cases h
  · rfl
theorem sh2_mono {n m : Nat} (hnm : n ≤ m) {v : Value} (h : sh2 n v = true) : sh2 m v = true := by
  by_cases ha : ∃ x, v = .agg x
  · obtain ⟨x, rfl⟩ := ha
    simp only [sh2, List.all_eq_true] at h ⊢
    exact fun u hu => sh1_mono hnm (h u hu)
  · rw [sh2_of fun x e => ha ⟨x, e⟩] at *
    exact sh1_mono hnm h
theorem sh3_mono {n m : Nat} (hnm : n ≤ m) {v : Value} (h : sh3 n v = true) : sh3 m v = true := by
  by_cases ha : ∃ x, v = .tuple x
  · obtain ⟨x, rfl⟩ := ha
    simp only [sh3, List.all_eq_true] at h ⊢
    exact fun u hu => sh2_mono hnm (h u hu)
  · rw [sh3_of fun x e => ha ⟨x, e⟩] at *
    exact sh2_mono hnm h
theorem renA_fix {n : Nat} {τ : Nat → Nat} (hτ : ∀ i, i < n → τ i = i) {v : Value} (h : shA n v = true) : renA τ v = v := by
  unfold shA at h
  split at h
  · rfl
  · cases h
  · cases h
  · rw [Nat.blt_eq] at h; simp only [renA, hτ _ h]
  · rw [Nat.blt_eq] at h; simp only [renA, hτ _ h]
  · rw [Nat.blt_eq] at h; simp only [renA, hτ _ h]
  · rfl
  · cases h
  · rename_i h1 h2 h0 h3 h4 h5 h6 h7
    unfold renA
    split
    · exact absurd rfl (h3 _ _ _)
    · exact absurd rfl (h4 _ _ _ _ _)
    · exact absurd rfl (h5 _)
    · rfl
theorem renS_fix {n : Nat} {τ : Nat → Nat} (hτ : ∀ i, i < n → τ i = i) {v : Value} (h : sh1 n v = true) : renS τ v = v := by
  unfold sh1 at h
  split at h
  · cases h
  · cases h
  · cases h
  · rw [Nat.blt_eq] at h; simp only [renS, hτ _ h]
  · rw [Nat.blt_eq] at h; simp only [renS, hτ _ h]
  · rw [Nat.blt_eq] at h; simp only [renS, hτ _ h]
  · rename_i f x c
    simp only [Bool.and_eq_true, List.all_eq_true] at h
    have e1 : x.toList.map (renA τ) = x.toList := (List.map_congr_left fun v hv => renA_fix hτ (h.1 v hv)).trans (List.map_id' _)
    have e2 : c.toList.map (renA τ) = c.toList := (List.map_congr_left fun v hv => renA_fix hτ (h.2 v hv)).trans (List.map_id' _)
    show Value.func (.func f) ⟨x.toList.map (renA τ)⟩ ⟨c.toList.map (renA τ)⟩ = _
    rw [e1, e2]
  · cases h
  · rename_i h1 h2 h0 h3 h4 h5 h6 h7
    unfold renS
    split
    · exact absurd rfl (h3 _ _ _)
    · exact absurd rfl (h4 _ _ _ _ _)
    · exact absurd rfl (h5 _)
    · exact absurd rfl (h6 _ _ _)
    · rfl
theorem ren2_fix {n : Nat} {τ : Nat → Nat} (hτ : ∀ i, i < n → τ i = i) {v : Value} (h : sh2 n v = true) : ren2 τ v = v := by
  by_cases ha : ∃ x, v = .agg x
  · obtain ⟨x, rfl⟩ := ha
    simp only [sh2, List.all_eq_true] at h
    show Value.agg (x.map (renS τ)) = Value.agg x
    congr 1
    apply Array.toList_inj.1
    rw [Array.toList_map]
    exact (List.map_congr_left fun v hv => renS_fix hτ (h v hv)).trans (List.map_id' _)
  · rw [ren2_of fun x e => ha ⟨x, e⟩]
    rw [sh2_of fun x e => ha ⟨x, e⟩] at h
    exact renS_fix hτ h
theorem ren3_fix {n : Nat} {τ : Nat → Nat} (hτ : ∀ i, i < n → τ i = i) {v : Value} (h : sh3 n v = true) : ren3 τ v = v := by
  by_cases ha : ∃ x, v = .tuple x
  · obtain ⟨x, rfl⟩ := ha
    simp only [sh3, List.all_eq_true] at h
    show Value.tuple (x.map (ren2 τ)) = Value.tuple x
    congr 1
    apply Array.toList_inj.1
    rw [Array.toList_map]
    exact (List.map_congr_left fun v hv => ren2_fix hτ (h v hv)).trans (List.map_id' _)
  · rw [ren3_of fun x e => ha ⟨x, e⟩]
    rw [sh3_of fun x e => ha ⟨x, e⟩] at h
    exact ren2_fix hτ h
/-- The last block but one is forgotten: one variable of a round, and the same of the round behind it. -/
theorem Shr.turn {fl : Nat} {B : List Blk} {y z : Blk} {A C : List Value} (hA : A.all (sh3 B.length) = true) (hC : C.all (sh3 B.length) = true) (hB : ∀ k ∈ B, shB B.length k = true) (hz : z.cells.all (sh1 B.length) = true) (hz2 : z.obj = none) :
    Shr B.length fl (fun i => if i < B.length then i else i + 1) (A ++ .pointer (some ⟨B.length + 1, 0, none⟩) :: C) (B ++ [y, z]) (A ++ .pointer (some ⟨B.length, 0, none⟩) :: C) (B ++ [z]) := by
  have hτ : ∀ i, i < B.length → (fun i => if i < B.length then i else i + 1) i = i := fun i hi => by simp only [hi, if_true]
  have hren : ∀ k : Blk, k.cells.all (sh1 B.length) = true → renB (fun i => if i < B.length then i else i + 1) k = k := by
    intro k hk
    obtain ⟨cs, e, ro, ob⟩ := k
    simp only [renB, Blk.mk.injEq, and_true]
    exact (List.map_congr_left fun v hv => renS_fix hτ ((List.all_eq_true.1 hk) v hv)).trans (List.map_id' _)
  have hmono : ∀ k : Blk, shB B.length k = true → shB (B ++ [z]).length k = true := by
    intro k hk
    simp only [shB, Bool.and_eq_true, List.all_eq_true] at hk ⊢
    exact ⟨fun v hv => sh1_mono (by simp) (hk.1 v hv), hk.2⟩
  have hzB : shB B.length z = true := by
    obtain ⟨cs, e, ro, ob⟩ := z
    simp only at hz2
    subst hz2
    simpa [shB] using hz
  refine ⟨hτ, fun i j hi hj e => ?_, by simp, ?_, ?_, fun i k hk => ?_, fun b _ h2 => ?_⟩
  · simp only [List.length_append, List.length_cons, List.length_nil] at hi hj
    split at e <;> split at e <;> omega
  · have hl : ∀ l : List Value, l.all (sh3 B.length) = true → l.map (ren3 fun i => if i < B.length then i else i + 1) = l := fun l hl => (List.map_congr_left fun v hv => ren3_fix hτ ((List.all_eq_true.1 hl) v hv)).trans (List.map_id' _)
    rw [List.map_append, List.map_cons, hl A hA, hl C hC]
    congr 2
    simp only [ren3, ren2, renS, Nat.lt_irrefl, if_false]
  · have hl : ∀ l : List Value, l.all (sh3 B.length) = true → l.all (sh3 (B ++ [z]).length) = true := fun l hl => by
      rw [List.all_eq_true] at hl ⊢
      exact fun v hv => sh3_mono (by simp) (hl v hv)
    rw [List.all_append, List.all_cons, hl A hA, hl C hC]
    simp [sh3, sh2, sh1]
  · by_cases hi : i < B.length
    · rw [List.getElem?_append_left hi] at hk
      refine ⟨?_, hmono k (hB k (List.mem_of_getElem? hk))⟩
      have hk2 := hB k (List.mem_of_getElem? hk)
      simp only [shB, Bool.and_eq_true] at hk2
      rw [hren k hk2.1]
      simp only [hi, if_true]
      rw [List.getElem?_append_left hi, hk]
    · rw [List.getElem?_append_right (by omega)] at hk
      have h0 : i = B.length := by
        have := (List.getElem?_eq_some_iff.1 hk).1
        simp at this
        omega
      subst h0
      simp only [Nat.sub_self, List.getElem?_cons_zero, Option.some.injEq] at hk
      subst hk
      refine ⟨?_, hmono z hzB⟩
      rw [hren z hz, if_neg (Nat.lt_irrefl _), List.getElem?_append_right (by omega)]
      simp
  · rw [List.getElem?_append_left h2, List.getElem?_append_left h2]
end
end Go.Proofs.XX.Vm
