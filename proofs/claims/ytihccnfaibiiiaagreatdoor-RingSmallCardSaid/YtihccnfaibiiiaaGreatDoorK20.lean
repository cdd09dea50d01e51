/- What is not looked at any more is forgotten: temporaries and blocks alike. -/
import Derived.Test.YtihccnfaibiiiaaGreatDoorK12
import Derived.Test.YtihccnfaibiiiaaGreatDoorK19
import Derived.Test.YtihccnfaibiiiaaGreatDoorK16
namespace Go.Proofs.XX.Vm
open Go Go.RowKit

noncomputable section
variable {P : Program} {orc : Orc} {Sg : List Blk}
/-- Of which nothing is known. -/
def jk : Value := .chan none
/-- A block that says no more than another one, its addresses renamed. -/
def BWk (τ : Nat → Nat) (k k' : Blk) : Prop := k' = renB τ k ∨ (k.obj = none ∧ k'.obj = none ∧ k'.elem = k.elem ∧ k'.ro = k.ro ∧ k'.cells.length = k.cells.length ∧ ∀ (j : Nat) (v : Value), k.cells[j]? = some v → v = jk ∨ k'.cells[j]? = some (renS τ v)) ∨
  (∃ kd L, k = ⟨[], k'.elem, true, some (.ints kd 0 L)⟩ ∧ k'.obj = none ∧ k'.cells = L.map (.int kd))
structure Fgt (nb fl : Nat) (τ : Nat → Nat) (T' : List Value) (S' : List Blk) (T'' : List Value) (S'' : List Blk) : Prop where
  fix : ∀ i, i < nb → τ i = i
  inj : ∀ i j, i < S''.length → j < S''.length → τ i = τ j → i = j
  least : nb ≤ S''.length
  len : T''.length = T'.length
  tmps : ∀ (i : Nat) (v : Value), T''[i]? = some v → v = jk ∨ T'[i]? = some (ren3 τ v)
  sh : T''.all (sh3 S''.length) = true
  blk : ∀ (i : Nat) (k : Blk), S''[i]? = some k → (∃ k', S'[τ i]? = some k' ∧ BWk τ k k') ∧ shB S''.length k = true
  keep : ∀ b, b < fl → b < nb → S''[b]? = S'[b]?

theorem AtW.forget {nb fl : Nat} {S0 : List Blk} {φ0 : Ren} {w0 : World} {d0 : List Deferred} {T' T'' : List Value} {S' S'' : List Blk} {ψ : Ren} {a : Act} {w : World} {τ : Nat → Nat} (hfl : Sg.length ≤ fl) (hgb : Sg.length ≤ nb) (hn : S0.length = nb) (hb : BndW φ0 nb)
    (A : AtW Sg fl S0 φ0 w0 d0 T' S' ψ a w) (h : Fgt nb fl τ T' S' T'' S'') : ∃ χ, AtW Sg fl S0 φ0 w0 d0 T'' S'' χ a w := by
  let χ : Ren := fun i => if i < S''.length then ψ (τ i) else none
  have hχ : ∀ i r, χ i = some r → i < S''.length ∧ ψ (τ i) = some r := by
    intro i r hi
    by_cases hl : i < S''.length
    · simp only [χ, hl, if_true] at hi; exact ⟨hl, hi⟩
    · simp only [χ, hl, if_false] at hi; cases hi
  have hback : ∀ i r, i < S''.length → ψ (τ i) = some r → χ i = some r := fun i r hi e => by simp only [χ, hi, if_true]; exact e
  have hnb := h.least
  refine ⟨χ, ⟨⟨⟨⟨fun b k r hk hr => ?_, fun b r e => A.inv.ok.good.low _ r (hχ b r e).2, fun b c r e1 e2 => ?_⟩, fun g hg => ?_⟩, fun g hg => ?_, by omega⟩, ?_, ?_, ?_, fun b r e => (hχ b r e).1⟩⟩
  · obtain ⟨h1, h2⟩ := hχ b r hr
    obtain ⟨⟨k', h3, h5⟩, h4⟩ := h.blk b k hk
    obtain ⟨o, o1, o2⟩ := A.inv.ok.good.blk _ _ r h3 h2
    refine ⟨o, o1, ?_⟩
    rcases h5 with rfl | ⟨e1, e2, e3, e4, e5, e6⟩ | ⟨kd, L, rfl, e2, e3⟩
    · exact shB_from hback h4 o2
    · obtain ⟨cs, el, ro, ob⟩ := k
      obtain ⟨cs', el', ro', ob'⟩ := k'
      simp only at e1 e2 e3 e4 e5 e6
      subst e1 e2 e3 e4
      obtain ⟨c', fz, rfl, g1, g2, g3⟩ := o2
      simp only [e5] at g1 g3
      refine ⟨c', fz, rfl, ⟨by rw [← e5]; simpa [e5] using g1.1, fun j v v' hv hv' => ?_⟩, g2, g3⟩
      simp only [shB, Bool.and_eq_true, List.all_eq_true] at h4
      rcases e6 j v hv with rfl | e
      · exact .junk v'
      · exact sh1_from hback (h4.1 v (List.mem_of_getElem? hv)) (g1.2 j _ v' e hv')
    · obtain ⟨cs', el', ro', ob'⟩ := k'
      simp only at e2 e3
      subst e2 e3
      obtain ⟨c', fz, rfl, g1, g2, g3⟩ := o2
      refine ⟨c', fz, rfl, fun i n hi => ?_, fun h => (by cases h)⟩
      have hc : (L.map (Value.int kd))[i]? = some (.int kd n) := by rw [List.getElem?_map, hi]; rfl
      obtain ⟨v', q1, q2⟩ := LRel.get (φ := ψ) (l := L.map (Value.int kd)) (by simpa using g1) hc
      cases q2
      rw [Nat.zero_add]
      exact take_get q1
  · obtain ⟨h1, h2⟩ := hχ b r e1
    obtain ⟨h3, h4⟩ := hχ c r e2
    exact h.inj b c h1 h3 (A.inv.ok.good.inj _ _ r h2 h4)
  · exact hback g g (by omega) (by rw [h.fix g (by omega)]; exact A.inv.ok.glob g hg)
  · rw [h.keep g (by omega) (by omega)]
    exact A.inv.base g hg
  · refine ⟨h.len.trans A.tmps.1, fun i v v' hv hv' => ?_⟩
    rcases h.tmps i v hv with rfl | e
    · exact .junk v'
    · exact sh3_from hback (List.all_eq_true.1 h.sh v (List.mem_of_getElem? hv)) (A.tmps.2 i _ v' e hv')
  · obtain ⟨rs, e, n1, h1⟩ := A.defs
    refine ⟨rs, e, n1, fun r hr => ?_⟩
    obtain ⟨a1, a2, a3⟩ := h1 r hr
    exact ⟨a1, a2, fun b hb => a3 _ (hχ b r hb).2⟩
  · have st := A.step
    refine ⟨fun b r e => ?_, fun b r e => ?_, by omega, fun b e1 e2 => ?_, st.frame, st.size, st.os, st.tape, st.output⟩
    · have hbn := hb b r e
      exact hback b r (by omega) (by rw [h.fix b hbn]; exact st.ext b r e)
    · obtain ⟨h1, h2⟩ := hχ b r e
      rcases st.dom _ r h2 with e3 | ⟨e3, _, e4⟩
      · have hτ := hb _ r e3
        have : τ b = b := h.inj _ _ (by omega) h1 (h.fix _ hτ)
        rw [this] at e3
        exact .inl e3
      · refine .inr ⟨?_, h1, e4⟩
        apply Classical.byContradiction
        intro hlt
        have := h.fix b (by omega)
        omega
    · rw [h.keep b e1 (by omega)]
      exact st.keep b e1 e2
theorem WpW.forget {nb fl : Nat} {c : Code} {T : List Value} {S : List Blk} {Q R : Ex → List Value → List Blk → Prop} (hfl : Sg.length ≤ fl) (hgb : Sg.length ≤ nb) (h : WpW P Sg nb fl c T S Q)
    (hq : ∀ x T' S', Q x T' S' → ∃ τ T'' S'', Fgt nb fl τ T' S' T'' S'' ∧ R x T'' S'') : WpW P Sg nb fl c T S R := by
  intro F S0 φ0 w0 d0 φ a w hn hb A hR
  refine h F S0 φ0 w0 d0 φ a w hn hb A fun x T' S' ψ a' w' q A' => ?_
  obtain ⟨τ, T'', S'', hs, hr⟩ := hq x T' S' q
  obtain ⟨χ, A2⟩ := A'.forget hfl hgb hn hb hs
  exact hR x T'' S'' χ a' w' hr A2

/-- n temporaries of which some are known. -/
def putJ (n : Nat) : List Nat → List Value → List Value
  | t :: ts, v :: vs => (putJ n ts vs).set t v
  | _, _ => List.replicate n jk
theorem putJ_len (n : Nat) : ∀ (ts : List Nat) (vs : List Value), (putJ n ts vs).length = n
  | t :: ts, v :: vs => by simp only [putJ, List.length_set]; exact putJ_len n ts vs
  | [], _ => by simp [putJ]
  | _ :: _, [] => by simp [putJ]
theorem putJ_get {T : List Value} {f : Value → Value} (n : Nat) (hT : T.length = n) : ∀ (ts : List Nat) (vs : List Value), picks T ts = vs.map f → (∀ t ∈ ts, t < n) → ∀ (i : Nat) (v : Value), (putJ n ts vs)[i]? = some v → v = jk ∨ T[i]? = some (f v)
  | t :: ts, v :: vs, h, ht, i, u, hu => by
    simp only [picks, List.map_cons, List.cons.injEq] at h
    simp only [putJ] at hu
    by_cases e : t = i
    · subst e
      have hlt : t < n := ht t (List.mem_cons_self ..)
      rw [List.getElem?_set_self (by rw [putJ_len]; exact hlt)] at hu
      cases hu
      right
      rw [← h.1, nthD_eq, List.getElem?_eq_getElem (by omega)]
      rfl
    · rw [List.getElem?_set_ne e] at hu
      exact putJ_get n hT ts vs h.2 (fun t h => ht t (List.mem_cons_of_mem _ h)) i u hu
  | [], vs, _, _, i, u, hu => by
    simp only [putJ, List.getElem?_replicate] at hu
    split at hu
    · cases hu; exact .inl rfl
    · cases hu
  | _ :: _, [], h, _, _, _, _ => by simp [picks] at h
theorem putJ_all (p : Value → Bool) (hj : p jk = true) (n : Nat) : ∀ (ts : List Nat) (vs : List Value), vs.all p = true → (putJ n ts vs).all p = true
  | t :: ts, v :: vs, h => by
    simp only [List.all_cons, Bool.and_eq_true] at h
    have := putJ_all p hj n ts vs h.2
    simp only [putJ, List.all_eq_true] at this ⊢
    intro u hu
    rcases List.mem_or_eq_of_mem_set hu with hu | rfl
    · exact this u hu
    · exact h.1
  | [], _, _ => by simp only [putJ, List.all_eq_true]; intro u hu; rw [List.eq_of_mem_replicate hu]; exact hj
  | _ :: _, [], _ => by simp only [putJ, List.all_eq_true]; intro u hu; rw [List.eq_of_mem_replicate hu]; exact hj
/-- The blocks that stay, by their old places. -/
def tau (m : List Nat) (i : Nat) : Nat := (m[i]?).getD i
def AllB (τ : Nat → Nat) (n : Nat) (S' : List Blk) : Nat → List Blk → Prop
  | _, [] => True
  | i, k :: l => ((∃ k', S'[τ i]? = some k' ∧ BWk τ k k') ∧ shB n k = true) ∧ AllB τ n S' (i + 1) l
theorem AllB.get {τ : Nat → Nat} {n : Nat} {S' : List Blk} : ∀ {l : List Blk} {i : Nat}, AllB τ n S' i l → ∀ (j : Nat) (k : Blk), l[j]? = some k → (∃ k', S'[τ (i + j)]? = some k' ∧ BWk τ k k') ∧ shB n k = true
  | [], _, _, j, k, h => by simp at h
  | k :: l, i, h, 0, k2, e => by cases e; exact h.1
  | k :: l, i, h, j + 1, k2, e => by
    have := AllB.get h.2 j k2 e
    rwa [show i + 1 + j = i + (j + 1) by omega] at this
/-- Some temporaries are looked at, all else is forgotten, and so are the blocks that are not named. -/
theorem fgt_mk {nb fl n : Nat} (m : List Nat) {ts : List Nat} {r r2 : List Value} {T' : List Value} {S' S2 : List Blk} (hT : T'.length = n) (hp : picks T' ts = r) (ht : ∀ t ∈ ts, t < n) (hr : r2.map (ren3 (tau m)) = r)
    (hm : m.length = S2.length) (hnd : m.Nodup) (hfix : ∀ i, i < nb → tau m i = i) (hnb : nb ≤ S2.length) (hsh : r2.all (sh3 S2.length) = true) (hB : AllB (tau m) S2.length S' 0 S2) (hk : ∀ b, b < fl → b < nb → S2[b]? = S'[b]?) : Fgt nb fl (tau m) T' S' (putJ n ts r2) S2 := by
  refine ⟨hfix, fun i j hi hj e => ?_, hnb, (putJ_len n ts r2).trans hT.symm, fun i v hv => putJ_get n hT ts r2 (by rw [hp, hr]) ht i v hv, putJ_all _ rfl n ts r2 hsh, fun i k hk => ?_, hk⟩
  · unfold tau at e
    rw [List.getElem?_eq_getElem (by omega), List.getElem?_eq_getElem (by omega)] at e
    simp only [Option.getD_some] at e
    exact (List.getElem_inj hnd).1 e
  · have := hB.get i k hk
    rwa [Nat.zero_add] at this
/-- The end, some temporaries and some blocks. -/
def seesB (ts m : List Nat) : Ex → List Value → List Blk → Option (Ex × Nat × List Value × List (Option Blk)) := fun x T S => some (x, lenR T, picks T ts, m.map (getR S))
theorem seesB_eq {ts m : List Nat} {x y : Ex} {T : List Value} {S : List Blk} {n : Nat} {l : List Value} {bs : List (Option Blk)} (h : seesB ts m x T S = some (y, n, l, bs)) : x = y ∧ T.length = n ∧ picks T ts = l ∧ m.map (S[·]?) = bs := by
  unfold seesB at h
  rw [lenR_eq] at h
  simp only [Option.some.injEq, Prod.mk.injEq] at h
  refine ⟨h.1, h.2.1, h.2.2.1, ?_⟩
  rw [← h.2.2.2]
  exact List.map_congr_left fun i _ => (getR_eq S i).symm
def KeepB (τ : Nat → Nat) (n : Nat) : List (Option Blk) → List Blk → Prop
  | [], [] => True
  | some k' :: l, k :: l2 => (BWk τ k k' ∧ shB n k = true) ∧ KeepB τ n l l2
  | _, _ => False
theorem KeepB.get {τ : Nat → Nat} {n : Nat} {S' : List Blk} : ∀ {m : List Nat} {l : List Blk}, KeepB τ n (m.map (S'[·]?)) l → m.length = l.length ∧ ∀ (j b : Nat) (k : Blk), m[j]? = some b → l[j]? = some k → ∃ k', S'[b]? = some k' ∧ BWk τ k k' ∧ shB n k = true
  | [], [], _ => ⟨rfl, fun j b k h => by simp at h⟩
  | [], _ :: _, h => h.elim
  | b :: m, [], h => by
    simp only [List.map_cons] at h
    unfold KeepB at h
    split at h <;> first | exact h.elim | (simp at *; done) | cases ‹_ :: _ = []›
  | b :: m, k :: l, h => by
    simp only [List.map_cons] at h
    cases hb : S'[b]? with
    | none => rw [hb] at h; exact h.elim
    | some k' =>
      rw [hb] at h
      obtain ⟨⟨h1, h2⟩, h3⟩ := h
      obtain ⟨g1, g2⟩ := KeepB.get h3
      refine ⟨by simp [g1], fun j c k2 e1 e2 => ?_⟩
      cases j with
      | zero => cases e1; cases e2; exact ⟨k', hb, h1, h2⟩
      | succ j => exact g2 j c k2 e1 e2
/-- What must be so for some temporaries and blocks to be kept. -/
structure Kept (nb fl n : Nat) (m ts : List Nat) (r r2 : List Value) (bs : List (Option Blk)) (S2 : List Blk) : Prop where
  ts : ∀ t ∈ ts, t < n
  r : r2.map (ren3 (tau m)) = r
  nd : m.Nodup
  fix : ∀ i, i < nb → m[i]? = some i
  least : nb ≤ S2.length
  sh : r2.all (sh3 S2.length) = true
  blk : KeepB (tau m) S2.length bs S2
  keep : ∀ b, b < fl → b < nb → bs[b]? = some S2[b]?
theorem Kept.fgt {nb fl n : Nat} {m ts : List Nat} {r r2 : List Value} {bs : List (Option Blk)} {S' S2 : List Blk} {T' : List Value} (h : Kept nb fl n m ts r r2 bs S2) (hT : T'.length = n) (hp : picks T' ts = r) (hb : m.map (S'[·]?) = bs) : Fgt nb fl (tau m) T' S' (putJ n ts r2) S2 := by
  subst hb
  obtain ⟨g1, g2⟩ := h.blk.get
  have hfix : ∀ i, i < nb → tau m i = i := fun i hi => by unfold tau; rw [h.fix i hi]; rfl
  refine ⟨hfix, fun i j hi hj e => ?_, h.least, (putJ_len n ts r2).trans hT.symm, fun i v hv => putJ_get n hT ts r2 (by rw [hp, h.r]) h.ts i v hv, putJ_all _ rfl n ts r2 h.sh, fun i k hk => ?_, fun b e1 e2 => ?_⟩
  · unfold tau at e
    rw [List.getElem?_eq_getElem (by omega), List.getElem?_eq_getElem (by omega)] at e
    simp only [Option.getD_some] at e
    exact (List.getElem_inj h.nd).1 e
  · have hi : i < m.length := by have := (List.getElem?_eq_some_iff.1 hk).1; omega
    obtain ⟨k', e1, e2, e3⟩ := g2 i m[i] k (List.getElem?_eq_getElem hi) hk
    refine ⟨⟨k', ?_, e2⟩, e3⟩
    unfold tau
    rw [List.getElem?_eq_getElem hi]
    exact e1
  · have := h.keep b e1 e2
    rw [List.getElem?_map, h.fix b e2] at this
    simp only [Option.map_some, Option.some.injEq] at this
    exact this.symm
theorem WpW.seeF (hsg : SgOk Sg) (horc : OrcOk P Sg (orcOf orc)) {nb fl : Nat} (hfl : Sg.length ≤ fl) (hgb : Sg.length ≤ nb) {k : Nat} {c : Code} {x : Ex} {ts m : List Nat} {T : List Value} {S : List Blk} {n : Nat} {r : List Value} {bs : List (Option Blk)} {Q : Ex → List Value → List Blk → Prop}
    (e : evCodeK P orc Sg k fl c T S (seesB ts m) = some (x, n, r, bs)) (r2 : List Value) (S2 : List Blk) (hk : Kept nb fl n m ts r r2 bs S2) (h : Q x (putJ n ts r2) S2) : WpW P Sg nb fl c T S Q := by
  refine WpW.forget hfl hgb (WpW.of_k hsg horc hfl e) fun y T' S' hk' => ?_
  obtain ⟨rfl, h1, h2, h3⟩ := seesB_eq hk'
  exact ⟨_, _, _, hk.fgt h1 h2 h3, h⟩
theorem WpL.forget {nb fl : Nat} (hfl : Sg.length ≤ fl) (hgb : Sg.length ≤ nb) {l : List Code} {T : List Value} {S : List Blk} {Q R : Ex → List Value → List Blk → Prop} (h : WpL P Sg nb fl l T S Q)
    (hq : ∀ x T' S', Q x T' S' → ∃ τ T'' S'', Fgt nb fl τ T' S' T'' S'' ∧ R x T'' S'') : l ≠ [] → WpL P Sg nb fl l T S R := by
  induction l generalizing T S with
  | nil => exact fun h => absurd rfl h
  | cons c l ih =>
    intro _
    cases l with
    | nil =>
      refine WpW.forget hfl hgb h fun x T' S' q => ?_
      have q' : Q x T' S' := by cases x <;> exact q
      obtain ⟨τ, T'', S'', h1, h2⟩ := hq x T' S' q'
      exact ⟨τ, T'', S'', h1, by cases x <;> exact h2⟩
    | cons d l =>
      intro F S0 φ0 w0 d0 φ a w hn hb A hR
      refine h F S0 φ0 w0 d0 φ a w hn hb A fun x T' S' ψ a' w' q A' => ?_
      cases x with
      | normal => exact hR .normal T' S' ψ a' w' (ih q (by simp)) A'
      | exit id =>
        obtain ⟨τ, T'', S'', h1, h2⟩ := hq _ T' S' q
        obtain ⟨χ, A2⟩ := A'.forget hfl hgb hn hb h1
        exact hR (.exit id) T'' S'' χ a' w' h2 A2
      | ret =>
        obtain ⟨τ, T'', S'', h1, h2⟩ := hq _ T' S' q
        obtain ⟨χ, A2⟩ := A'.forget hfl hgb hn hb h1
        exact hR .ret T'' S'' χ a' w' h2 A2
theorem WpL.seeF (hsg : SgOk Sg) (horc : OrcOk P Sg (orcOf orc)) {nb fl : Nat} (hfl : Sg.length ≤ fl) (hgb : Sg.length ≤ nb) {l q : List Code} {i : Nat} {ts m : List Nat} {T : List Value} {S : List Blk} {n : Nat} {r : List Value} {bs : List (Option Blk)} {Q : Ex → List Value → List Blk → Prop} (hl : l ≠ [])
    (e : evP P orc Sg fl (fun _ => 1000) i l T S (seesB ts m) = some (.normal, n, r, bs)) (r2 : List Value) (S2 : List Blk) (hk : Kept nb fl n m ts r r2 bs S2) (h : WpL P Sg nb fl q (putJ n ts r2) S2 Q) : WpL P Sg nb fl (l ++ q) T S Q := by
  refine WpL.append (WpL.forget hfl hgb (WpL.of_k hsg horc hfl l i T S e) (fun x T' S' hk' => ?_) hl)
  obtain ⟨rfl, h1, h2, h3⟩ := seesB_eq hk'
  exact ⟨_, _, _, hk.fgt h1 h2 h3, h⟩
end
end Go.Proofs.XX.Vm
/- Ring: RingPowers as a contract: without a list, and with a list of three numbers. -/
namespace Go.Proofs.YtihccnfaibiiiaaGreatDoor.R
open Go Go.Proofs.XX.Vm Go.Proofs.XX.Rm Go.RowKit
set_option maxRecDepth 100000

/-- A call that only reads needs to know no more than what it was shown with. -/
theorem callAt_weak {P : Program} {Sg S S1 : List Blk} {fl : Nat} {f : FuncId} {args : List Value} {v : Value} (hl : S1.length = S.length) (hg : ∀ g, g < Sg.length → S1[g]? = S[g]?)
    (hw : ∀ (φ : Ren) (b : Nat) (k k1 : Blk) (o : Obj), S[b]? = some k → S1[b]? = some k1 → BRel φ k o → BRel φ k1 o) (h : CallAt P Sg S.length f args S1 v S1) : CallAt P Sg fl f args S v S := by
  refine ⟨Ext.refl _ _, fun φ w args' inv hr hf => ?_⟩
  have hk1 : ∀ b k1, S1[b]? = some k1 → ∃ k, S[b]? = some k := fun b k1 e => ⟨S[b]'(by have := (List.getElem?_eq_some_iff.1 e).1; omega), List.getElem?_eq_getElem _⟩
  have good1 : Go.Proofs.XX.Vm.Good φ S1 w := by
    refine ⟨fun b k1 r e1 e2 => ?_, inv.ok.good.low, inv.ok.good.inj⟩
    obtain ⟨k, e⟩ := hk1 b k1 e1
    obtain ⟨o, o1, o2⟩ := inv.ok.good.blk b k r e e2
    exact ⟨o, o1, hw φ b k k1 o e e1 o2⟩
  have inv1 : Inv Sg φ S1 w := ⟨⟨good1, inv.ok.glob⟩, fun g e => by rw [hg g e]; exact inv.base g e, by rw [hl]; exact inv.len⟩
  refine Calls.mono (h.2 φ w args' inv1 hr fun b e1 e2 => by omega) ?_
  rintro e w' ⟨v', ψ, rfl, hv, g1, st⟩
  have old : ∀ b r, ψ b = some r → φ b = some r := fun b r e => by
    rcases st.dom b r e with e | ⟨e1, e2, _⟩
    · exact e
    · omega
  have same : ∀ r, r < w.heap.size → w'.heap[r]? = w.heap[r]? := fun r e => st.frame r e fun b e1 e2 => by omega
  refine ⟨v', ψ, rfl, hv, ⟨fun b k r e1 e2 => ?_, g1.low, g1.inj⟩, ⟨st.ext, fun b r e => .inl (old b r e), Nat.le_refl _, fun _ _ _ => rfl, fun r e _ => same r e, st.size, st.os, st.tape, st.output⟩⟩
  obtain ⟨o, o1, o2⟩ := inv.ok.good.blk b k r e1 (old b r e2)
  exact ⟨o, by rw [same r (inv.ok.good.low b r (old b r e2))]; exact o1, o2.mono st.ext⟩
theorem intsOf_map {kd : IntKind} : ∀ {cs : List Value} {L : List Int}, intsOf kd cs = some L → cs = L.map (.int kd)
  | [], L, h => by cases h; rfl
  | v :: cs, L, h => by
    unfold intsOf at h
    split at h
    · cases ‹_ = []›
    · rename_i k n l e
      cases e
      split at h
      · rename_i hk
        subst hk
        split at h
        · rename_i L2 h2
          cases h
          rw [List.map_cons, ← intsOf_map h2]
        · cases h
      · cases h
    · cases h
theorem brel_ints {φ : Ren} {L : List Int} {e : TypeId} {ro : Bool} {o : Obj} (h : BRel φ ⟨L.map (.int .i64), e, ro, none⟩ o) : BRel φ (kB e true 0 L) o := by
  obtain ⟨c', fz, rfl, h1, _, _⟩ := h
  refine ⟨c', fz, rfl, fun i n hn => ?_, fun h => (by cases h)⟩
  have hc : (L.map (Value.int .i64))[i]? = some (.int .i64 n) := by rw [List.getElem?_map, hn]; rfl
  obtain ⟨v', e1, e2⟩ := h1.get hc
  cases e2
  rw [Nat.zero_add]
  exact take_get e1
theorem nilPwK (M : Int) (x : N) (n h : Int) : runK Tryz.prog orW (Sg1 M) 300 5 [N.v x, .int .i64 n, .int .i64 h, .slice none 0 0] = shortP x n h := by kernel_rfl
def cPwN : Con := ⟨5, fun args => match args with
  | [u, .int .i64 _, .int .i64 _, .slice none 0 0] => match asN u with
    | some _ => some (.val (.bool true))
    | none => none
  | _ => none⟩
theorem cPwN_ok (M : Int) : ConOk M cPwN := by
  intro args t v ht hv w inv
  simp only [cPwN] at ht
  split at ht
  · rename_i u n h
    split at ht
    · rename_i x hx
      cases ht
      cases hv
      rw [asN_eq hx]
      exact runK_calls (sg1 M) (orW_ok M) ((nilPwK M x n h).trans (shortP_true x n h)) rfl inv
    · cases ht
  · cases ht
noncomputable def mPw3 : MCon := ⟨5, fun _ args S => match args with
  | [u, .int .i64 _, .int .i64 _, .slice (some ⟨b, 0, none⟩) 3 _] => match asN u with
    | some _ => match S[b]? with
      | some ⟨cs, _, _, none⟩ => match intsOf .i64 cs with
        | some L => some (.ite (Nat.ble 3 b && Nat.beq L.length 15) (.val (.bool true) S) .no)
        | none => none
      | _ => none
    | none => none
  | _ => none⟩
theorem mPw3_ok (M : Int) : MConOk M mPw3 := by
  intro fl args S t v S' ht hv h1 h2
  simp only [mPw3] at ht
  split at ht
  · rename_i u n h b c
    split at ht
    · rename_i x hx
      split at ht
      · rename_i cs e ro hb
        split at ht
        · rename_i L hL
          cases ht
          simp only [OTM.get] at hv
          cases hk : (Nat.ble 3 b && Nat.beq L.length 15) with
          | false => rw [hk] at hv; cases hv
          | true =>
            rw [hk] at hv
            simp only [cond_true, Option.some.injEq, Prod.mk.injEq] at hv
            obtain ⟨rfl, rfl⟩ := hv
            simp only [Bool.and_eq_true, Nat.ble_eq, Nat.beq_eq] at hk
            obtain ⟨g3, g4⟩ := hk
            rw [intsOf_map hL] at hb
            rw [asN_eq hx]
            have hbl : b < S.length := (List.getElem?_eq_some_iff.1 hb).1
            obtain ⟨s, hs⟩ := lawPw M e 0 2 c x n h L (by unfold insideI; rw [g4]; rfl)
            obtain ⟨S1, hc⟩ := callInK_world (sg1 M) (orW_ok M) hs (show 3 ≤ 4 by omega) (show 3 ≤ 4 by omega)
            have hx1 := hc.1
            have hS1 : S1 = [uni, pow, mxl M, kB e true 0 L] ++ S1.drop 4 := by
              refine List.ext_getElem? fun i => ?_
              by_cases hi : i < 4
              · rw [List.getElem?_append_left hi, hx1.2 i hi hi]
              · rw [List.getElem?_append_right (by simpa using Nat.le_of_not_lt hi), List.getElem?_drop]
                congr 1
                simp only [List.length_cons, List.length_nil]
                omega
            rw [hS1] at hc
            have hd := callAt_drop (S' := [uni, pow, mxl M, kB e true 0 L]) hc rfl rfl (plain_sh rfl _) (all_at rfl) (all_at rfl)
            have hr := callAtR (sg1 M) (fl := S.length) (b := b) (S := S.set b (kB e true 0 L)) (k1 := kB e true 0 L) (args0 := [N.v x, .int .i64 n, .int .i64 h, slV 0 3 c]) hd (by rw [List.getElem?_set_self hbl]; rfl) g3 rfl rfl rfl
            rw [List.length_set] at hr
            refine callAt_weak (S1 := S.set b (kB e true 0 L)) (List.length_set ..) (fun g hg => ?_) (fun φ i k k1 o e1 e2 ho => ?_) (show CallAt Tryz.prog (Sg1 M) S.length mPw3.f [N.v x, .int .i64 n, .int .i64 h, .slice (some ⟨b, 0, none⟩) 3 c] _ (.bool true) _ from ?_)
            rotate_left 2
            · have hsig : sig1 3 b S.length 3 = b := rfl
              have hsl : (Sg1 M).length = 3 := rfl
              simpa [N.v, slV, ren2, ren3, renS, hsl, hsig, mPw3] using hr
            · have : b ≠ g := by
                have : (Sg1 M).length = 3 := rfl
                omega
              rw [List.getElem?_set_ne this]
            · by_cases hi : b = i
              · subst hi
                rw [List.getElem?_set_self hbl] at e2
                rw [hb] at e1
                cases e1; cases e2
                exact brel_ints ho
              · rw [List.getElem?_set_ne hi, e1] at e2
                cases e2
                exact ho
        · cases ht
      · cases ht
    · cases ht
  · cases ht
end Go.Proofs.YtihccnfaibiiiaaGreatDoor.R
/- Ring: RingSmall, its loops' rounds (made by mksl.py). -/
namespace Go.Proofs.YtihccnfaibiiiaaGreatDoor.R
open Go Go.Proofs.XX.Vm Go.Proofs.XX.Rm Go.RowKit
set_option maxRecDepth 100000

theorem treeNu (M : Int) (m : Nat) (a b c d k : Int) : runK Tryz.prog (orcL []) (Sg1 M) (m + 60) 37 [.int .i64 a, .int .i64 b, .int .i64 c, .int .i64 d, .int .i64 k] = some (N.v ⟨a, b, c, d, k⟩) := by kernel_rfl
def cNu : Con := ⟨37, fun args => match args with
  | [.int .i64 a, .int .i64 b, .int .i64 c, .int .i64 d, .int .i64 k] => some (.val (N.v ⟨a, b, c, d, k⟩))
  | _ => none⟩
theorem cNu_ok (M : Int) : ConOk M cNu := conOk_of_evF nil_ok fun args t v h hv => by
  simp only [cNu] at h
  split at h
  · rename_i a b c d k
    cases h
    cases hv
    exact ⟨rfl, EvF.of_eq 60 fun m => treeNu M m a b c d k⟩
  · cases h
noncomputable abbrev LSm : List Con := [cNu, cAsk, cPri, cLTx, cPwN, cAwk]
theorem LSm_ok (M : Int) : ∀ c ∈ LSm, ConOk M c := mem_cons_ok (cNu_ok M) (mem_cons_ok (cAsk_ok M) (mem_cons_ok (cPri_ok M) (mem_cons_ok (cLTx_ok M) (mem_cons_ok (cPwN_ok M) (mem_cons_ok (cAwk_ok M) nil_ok)))))
noncomputable abbrev orS : Orc := orcLM LSm [mPw3]
theorem orS_ok (M : Int) : OrcOk Tryz.prog (Sg1 M) (orcOf orS) := orcLM_ok (LSm_ok M) (mem_cons_mok (mPw3_ok M) nil_mok)
noncomputable abbrev qSm (i : Nat) : Code := nthC (pcs Tryz.prog 7) i
noncomputable abbrev BSm (i : Nat) : Code := loopOf Tryz.prog 7 i
theorem LSm_eq : pcs Tryz.prog 7 = [qSm 0, qSm 1, qSm 2, .block 0 (.loop (BSm 0)), qSm 4, qSm 5, .block 4 (.loop (BSm 2)), qSm 7, .block 12 (.loop (BSm 6)), qSm 9, .block 14 (.loop (BSm 7)), qSm 11, qSm 12] := by kernel_rfl
def someB : Blk := ⟨[.int .i64 1, .int .i64 0, .int .i64 0, .int .i64 0, .int .i64 0, .int .i64 0, .int .i64 1, .int .i64 0, .int .i64 (-1), .int .i64 1, .int .i64 2, .int .i64 1, .int .i64 0, .int .i64 (-1), .int .i64 3, .int .i64 (-1), .int .i64 1, .int .i64 1, .int .i64 0, .int .i64 2, .int .i64 3, .int .i64 0, .int .i64 0, .int .i64 0, .int .i64 0, .int .i64 0, .int .i64 0, .int .i64 0, .int .i64 0, .int .i64 5], 23, false, none⟩
def intB (L : List Int) : Blk := ⟨[], 3, true, some (.ints .i64 0 L)⟩
def intC (L : List Int) : Blk := ⟨L.map (.int .i64), 3, false, none⟩
def strC (L : List (List UInt8)) : Blk := ⟨L.map (fun l => .string (bs l)), 9, false, none⟩
def cLA : List Int := [-9223372036854775808, -1073741825, -1073741824, -1073741823, -4097, -4096, -2, 0, 1, 4096, 4097, 1073741823, 1073741824, 1073741825, 9223372036854775807]
def cLB : List Int := [-9223372036854775808, -1, 0, 1, 2, 59, 60, 61, 9223372036854775807]
def cLC : List Int := [28, 29, 30, 31, 58, 59, 60, 61, 62, 63, 64, 65]
def cLE : List (List UInt8) := [[48], [40, 49, 45, 50, 119, 43, 51, 119, 50, 45, 119, 51, 41, 47, 114, 49, 50], [45, 119, 51], [49, 48, 55, 51, 55, 52, 49, 56, 50, 52], [49, 50, 43, 119], [40, 49, 41, 47, 114, 54, 48]]
def cLG : List (List UInt8) := [[], [48], [49], [119], [45], [43], [40], [41], [114], [32], [50], [47]]
def X1 (n : Int) : N := ⟨w (n.tmod 3 - 1), w ((w (n.tdiv 3)).tmod 3 - 1), w ((w (n.tdiv 9)).tmod 3 - 1), w (w (n.tdiv 27) - 1), n.tmod 4⟩
theorem hd1 (M : Int) : evP Tryz.prog orS (Sg1 M) 3 (fun _ => 1000) 0 [qSm 0, qSm 1, qSm 2] (List.replicate 254 undef) [uni, pow, mxl M] (seesB [0, 1, 31] [0, 1, 2, 3]) = some (.normal, 254, [.bool false, .slice (some ⟨3, 0, none⟩) 6 6, .int .i64 (0)], [some uni, some pow, some (mxl M), some someB]) := by kernel_rfl
theorem rd1 (M n : Int) : evCodeK Tryz.prog orS (Sg1 M) 1060 3 (BSm 0) (putJ 254 [0, 1, 31] [.bool false, .slice (some ⟨3, 0, none⟩) 6 6, .int .i64 (n)]) [uni, pow, mxl M, someB] (seesB [0, 1, 31] [0, 1, 2, 3]) =
    bif decide (n < 81) then (bif (prS (X1 n)).2 != 0 then some (.ret, 254, [.bool false, .slice (some ⟨3, 0, none⟩) 6 6, .int .i64 (n)], [some uni, some pow, some (mxl M), some someB]) else some (.normal, 254, [.bool false, .slice (some ⟨3, 0, none⟩) 6 6, .int .i64 (w (n + 1))], [some uni, some pow, some (mxl M), some someB])) else some (.exit 0, 254, [.bool false, .slice (some ⟨3, 0, none⟩) 6 6, .int .i64 (n)], [some uni, some pow, some (mxl M), some someB]) := by kernel_rfl
theorem hd2 (M n : Int) : evP Tryz.prog orS (Sg1 M) 3 (fun _ => 1000) 0 [qSm 4, qSm 5] (putJ 254 [0, 1, 31] [.bool false, .slice (some ⟨3, 0, none⟩) 6 6, .int .i64 (n)]) [uni, pow, mxl M, someB] (seesB [0, 83, 84, 85] [0, 1, 2, 4]) = some (.normal, 254, [.bool false, .slice (some ⟨4, 0, none⟩) 15 15, .int .i64 (15), .int .i64 (0)], [some uni, some pow, some (mxl M), some (intC cLA)]) := by kernel_rfl
noncomputable abbrev qSA (i : Nat) : Code := nthC (flatC (BSm 2)) i
noncomputable abbrev qSA1 (i : Nat) : Code := nthC (flatC (match qSA 2 with | .block _ c => c | c => c)) i
theorem SA_eq : flatC (BSm 2) = [qSA 0, qSA 1, .block 5 (match qSA 2 with | .block _ c => c | c => c), qSA 3] := by kernel_rfl
theorem SA1_eq : flatC (match qSA 2 with | .block _ c => c | c => c) = [qSA1 0, qSA1 1, .block 6 (.loop (BSm 3))] := by kernel_rfl
theorem rdA0 (M a : Int) : evP Tryz.prog orS (Sg1 M) 3 (fun _ => 1000) 0 [qSA 0, qSA 1] (putJ 254 [0, 83, 84, 85] [.bool false, .slice (some ⟨3, 0, none⟩) 15 15, .int .i64 (15), .int .i64 (a)]) [uni, pow, mxl M, intB cLA] (seesB [0, 83, 84, 85] [0, 1, 2, 3]) =
    bif decide (a < 15) then some (.normal, 254, [.bool false, .slice (some ⟨3, 0, none⟩) 15 15, .int .i64 (15), .int .i64 (a)], [some uni, some pow, some (mxl M), some (intB cLA)]) else some (.exit 4, 254, [.bool false, .slice (some ⟨3, 0, none⟩) 15 15, .int .i64 (15), .int .i64 (a)], [some uni, some pow, some (mxl M), some (intB cLA)]) := by kernel_rfl
theorem rdA1 (M a : Int) : evP Tryz.prog orS (Sg1 M) 3 (fun _ => 1000) 0 [qSA1 0, qSA1 1] (putJ 254 [0, 83, 84, 85] [.bool false, .slice (some ⟨3, 0, none⟩) 15 15, .int .i64 (15), .int .i64 (a)]) [uni, pow, mxl M, intB cLA] (seesB [0, 10, 83, 84, 85, 89, 90, 91] [0, 1, 2, 3, 4]) =
    bif decide (0 ≤ a) && decide (a < ((15 : Nat) : Int)) then (bif insideI 0 cLA (0 + a.toNat * 1) 1 then some (.normal, 254, [.bool false, .int .i64 (nthI cLA (0 + a.toNat * 1 - 0)), .slice (some ⟨3, 0, none⟩) 15 15, .int .i64 (15), .int .i64 (a), .slice (some ⟨4, 0, none⟩) 9 9, .int .i64 (9), .int .i64 (0)], [some uni, some pow, some (mxl M), some (intB cLA), some (intC cLB)]) else none) else none := by kernel_rfl
theorem rdA2 (M a v b : Int) : evP Tryz.prog orS (Sg1 M) 3 (fun _ => 1000) 0 [qSA 3] (putJ 254 [0, 10, 83, 84, 85, 89, 90, 91] [.bool false, .int .i64 (v), .slice (some ⟨3, 0, none⟩) 15 15, .int .i64 (15), .int .i64 (a), .slice (some ⟨4, 0, none⟩) 9 9, .int .i64 (9), .int .i64 (b)]) [uni, pow, mxl M, intB cLA, intB cLB] (seesB [0, 83, 84, 85] [0, 1, 2, 3]) = some (.normal, 254, [.bool false, .slice (some ⟨3, 0, none⟩) 15 15, .int .i64 (15), .int .i64 (w (a + 1))], [some uni, some pow, some (mxl M), some (intB cLA)]) := by kernel_rfl
theorem rdB (M a v b : Int) : evCodeK Tryz.prog orS (Sg1 M) 1060 3 (BSm 3) (putJ 254 [0, 10, 83, 84, 85, 89, 90, 91] [.bool false, .int .i64 (v), .slice (some ⟨3, 0, none⟩) 15 15, .int .i64 (15), .int .i64 (a), .slice (some ⟨4, 0, none⟩) 9 9, .int .i64 (9), .int .i64 (b)]) [uni, pow, mxl M, intB cLA, intB cLB] (seesB [0, 10, 83, 84, 85, 89, 90, 91] [0, 1, 2, 3, 4]) =
    bif decide (b < 9) then (bif decide (0 ≤ b) && decide (b < ((9 : Nat) : Int)) then (bif insideI 0 cLB (0 + b.toNat * 1) 1 then some (.normal, 254, [.bool false, .int .i64 (v), .slice (some ⟨3, 0, none⟩) 15 15, .int .i64 (15), .int .i64 (a), .slice (some ⟨4, 0, none⟩) 9 9, .int .i64 (9), .int .i64 (w (b + 1))], [some uni, some pow, some (mxl M), some (intB cLA), some (intB cLB)]) else none) else none) else some (.exit 6, 254, [.bool false, .int .i64 (v), .slice (some ⟨3, 0, none⟩) 15 15, .int .i64 (15), .int .i64 (a), .slice (some ⟨4, 0, none⟩) 9 9, .int .i64 (9), .int .i64 (b)], [some uni, some pow, some (mxl M), some (intB cLA), some (intB cLB)]) := by kernel_rfl
theorem hd3 (M a : Int) : evP Tryz.prog orS (Sg1 M) 3 (fun _ => 1000) 0 [qSm 7] (putJ 254 [0, 83, 84, 85] [.bool false, .slice (some ⟨3, 0, none⟩) 15 15, .int .i64 (15), .int .i64 (a)]) [uni, pow, mxl M, intB cLA] (seesB [0, 160, 161, 162] [0, 1, 2, 4]) = some (.normal, 254, [.bool false, .slice (some ⟨4, 0, none⟩) 12 12, .int .i64 (12), .int .i64 (0)], [some uni, some pow, some (mxl M), some (intC cLC)]) := by kernel_rfl
theorem rdC (M c : Int) : evCodeK Tryz.prog orS (Sg1 M) 1060 3 (BSm 6) (putJ 254 [0, 160, 161, 162] [.bool false, .slice (some ⟨3, 0, none⟩) 12 12, .int .i64 (12), .int .i64 (c)]) [uni, pow, mxl M, intB cLC] (seesB [0, 160, 161, 162] [0, 1, 2, 3]) =
    bif decide (c < 12) then (bif decide (0 ≤ c) && decide (c < ((12 : Nat) : Int)) then (bif insideI 0 cLC (0 + c.toNat * 1) 1 then some (.normal, 254, [.bool false, .slice (some ⟨3, 0, none⟩) 12 12, .int .i64 (12), .int .i64 (w (c + 1))], [some uni, some pow, some (mxl M), some (intB cLC)]) else none) else none) else some (.exit 12, 254, [.bool false, .slice (some ⟨3, 0, none⟩) 12 12, .int .i64 (12), .int .i64 (c)], [some uni, some pow, some (mxl M), some (intB cLC)]) := by kernel_rfl
theorem hd4 (M c : Int) : evP Tryz.prog orS (Sg1 M) 3 (fun _ => 1000) 0 [qSm 9] (putJ 254 [0, 160, 161, 162] [.bool false, .slice (some ⟨3, 0, none⟩) 12 12, .int .i64 (12), .int .i64 (c)]) [uni, pow, mxl M, intB cLC] (seesB [0, 187, 188, 189] [0, 1, 2, 4]) = some (.normal, 254, [.bool false, .slice (some ⟨4, 0, none⟩) 6 6, .int .i64 (6), .int .i64 (0)], [some uni, some pow, some (mxl M), some (strC cLE)]) := by kernel_rfl
noncomputable abbrev qE (i : Nat) : Code := nthC (flatC (BSm 7)) i
noncomputable abbrev qE1 (i : Nat) : Code := nthC (flatC (match qE 2 with | .block _ c => c | c => c)) i
theorem LE_eq : flatC (BSm 7) = [qE 0, qE 1, .block 15 (match qE 2 with | .block _ c => c | c => c), qE 3] := by kernel_rfl
theorem LE1_eq : flatC (match qE 2 with | .block _ c => c | c => c) = [qE1 0, qE1 1, .block 16 (.loop (BSm 8))] := by kernel_rfl
theorem rdE0 (M e : Int) : evP Tryz.prog orS (Sg1 M) 3 (fun _ => 1000) 0 [qE 0, qE 1] (putJ 254 [0, 187, 188, 189] [.bool false, .slice (some ⟨3, 0, none⟩) 6 6, .int .i64 (6), .int .i64 (e)]) [uni, pow, mxl M, strC cLE] (seesB [0, 187, 188, 189] [0, 1, 2, 3]) =
    bif decide (e < 6) then some (.normal, 254, [.bool false, .slice (some ⟨3, 0, none⟩) 6 6, .int .i64 (6), .int .i64 (e)], [some uni, some pow, some (mxl M), some (strC cLE)]) else some (.exit 14, 254, [.bool false, .slice (some ⟨3, 0, none⟩) 6 6, .int .i64 (6), .int .i64 (e)], [some uni, some pow, some (mxl M), some (strC cLE)]) := by kernel_rfl
theorem rdE10 (M : Int) : evP Tryz.prog orS (Sg1 M) 3 (fun _ => 1000) 0 [qE1 0, qE1 1] (putJ 254 [0, 187, 188, 189] [.bool false, .slice (some ⟨3, 0, none⟩) 6 6, .int .i64 (6), .int .i64 (0)]) [uni, pow, mxl M, strC cLE] (seesB [0, 20, 187, 188, 189, 195, 196] [0, 1, 2, 3]) = some (.normal, 254, [.bool false, .string (bs [48]), .slice (some ⟨3, 0, none⟩) 6 6, .int .i64 (6), .int .i64 (0), .int .i64 (2), .int .i64 (0)], [some uni, some pow, some (mxl M), some (strC cLE)]) := by kernel_rfl
theorem rdE11 (M : Int) : evP Tryz.prog orS (Sg1 M) 3 (fun _ => 1000) 0 [qE1 0, qE1 1] (putJ 254 [0, 187, 188, 189] [.bool false, .slice (some ⟨3, 0, none⟩) 6 6, .int .i64 (6), .int .i64 (1)]) [uni, pow, mxl M, strC cLE] (seesB [0, 20, 187, 188, 189, 195, 196] [0, 1, 2, 3]) = some (.normal, 254, [.bool false, .string (bs [40, 49, 45, 50, 119, 43, 51, 119, 50, 45, 119, 51, 41, 47, 114, 49, 50]), .slice (some ⟨3, 0, none⟩) 6 6, .int .i64 (6), .int .i64 (1), .int .i64 (18), .int .i64 (0)], [some uni, some pow, some (mxl M), some (strC cLE)]) := by kernel_rfl
theorem rdE12 (M : Int) : evP Tryz.prog orS (Sg1 M) 3 (fun _ => 1000) 0 [qE1 0, qE1 1] (putJ 254 [0, 187, 188, 189] [.bool false, .slice (some ⟨3, 0, none⟩) 6 6, .int .i64 (6), .int .i64 (2)]) [uni, pow, mxl M, strC cLE] (seesB [0, 20, 187, 188, 189, 195, 196] [0, 1, 2, 3]) = some (.normal, 254, [.bool false, .string (bs [45, 119, 51]), .slice (some ⟨3, 0, none⟩) 6 6, .int .i64 (6), .int .i64 (2), .int .i64 (4), .int .i64 (0)], [some uni, some pow, some (mxl M), some (strC cLE)]) := by kernel_rfl
theorem rdE13 (M : Int) : evP Tryz.prog orS (Sg1 M) 3 (fun _ => 1000) 0 [qE1 0, qE1 1] (putJ 254 [0, 187, 188, 189] [.bool false, .slice (some ⟨3, 0, none⟩) 6 6, .int .i64 (6), .int .i64 (3)]) [uni, pow, mxl M, strC cLE] (seesB [0, 20, 187, 188, 189, 195, 196] [0, 1, 2, 3]) = some (.normal, 254, [.bool false, .string (bs [49, 48, 55, 51, 55, 52, 49, 56, 50, 52]), .slice (some ⟨3, 0, none⟩) 6 6, .int .i64 (6), .int .i64 (3), .int .i64 (11), .int .i64 (0)], [some uni, some pow, some (mxl M), some (strC cLE)]) := by kernel_rfl
theorem rdE14 (M : Int) : evP Tryz.prog orS (Sg1 M) 3 (fun _ => 1000) 0 [qE1 0, qE1 1] (putJ 254 [0, 187, 188, 189] [.bool false, .slice (some ⟨3, 0, none⟩) 6 6, .int .i64 (6), .int .i64 (4)]) [uni, pow, mxl M, strC cLE] (seesB [0, 20, 187, 188, 189, 195, 196] [0, 1, 2, 3]) = some (.normal, 254, [.bool false, .string (bs [49, 50, 43, 119]), .slice (some ⟨3, 0, none⟩) 6 6, .int .i64 (6), .int .i64 (4), .int .i64 (5), .int .i64 (0)], [some uni, some pow, some (mxl M), some (strC cLE)]) := by kernel_rfl
theorem rdE15 (M : Int) : evP Tryz.prog orS (Sg1 M) 3 (fun _ => 1000) 0 [qE1 0, qE1 1] (putJ 254 [0, 187, 188, 189] [.bool false, .slice (some ⟨3, 0, none⟩) 6 6, .int .i64 (6), .int .i64 (5)]) [uni, pow, mxl M, strC cLE] (seesB [0, 20, 187, 188, 189, 195, 196] [0, 1, 2, 3]) = some (.normal, 254, [.bool false, .string (bs [40, 49, 41, 47, 114, 54, 48]), .slice (some ⟨3, 0, none⟩) 6 6, .int .i64 (6), .int .i64 (5), .int .i64 (8), .int .i64 (0)], [some uni, some pow, some (mxl M), some (strC cLE)]) := by kernel_rfl
theorem rdE2 (M e l p : Int) (s : ByteArray) : evP Tryz.prog orS (Sg1 M) 3 (fun _ => 1000) 0 [qE 3] (putJ 254 [0, 20, 187, 188, 189, 195, 196] [.bool false, .string s, .slice (some ⟨3, 0, none⟩) 6 6, .int .i64 (6), .int .i64 (e), .int .i64 (l), .int .i64 (p)]) [uni, pow, mxl M, strC cLE] (seesB [0, 187, 188, 189] [0, 1, 2, 3]) = some (.normal, 254, [.bool false, .slice (some ⟨3, 0, none⟩) 6 6, .int .i64 (6), .int .i64 (w (e + 1))], [some uni, some pow, some (mxl M), some (strC cLE)]) := by kernel_rfl
noncomputable abbrev qF (i : Nat) : Code := nthC (flatC (BSm 8)) i
noncomputable abbrev qF1 (i : Nat) : Code := nthC (flatC (match qF 2 with | .block _ c => c | c => c)) i
theorem LF_eq : flatC (BSm 8) = [qF 0, qF 1, .block 17 (match qF 2 with | .block _ c => c | c => c), qF 3] := by kernel_rfl
theorem LF1_eq : flatC (match qF 2 with | .block _ c => c | c => c) = [qF1 0, qF1 1, .block 18 (.loop (BSm 9))] := by kernel_rfl
theorem rdF0 (M e l p : Int) (s : ByteArray) : evP Tryz.prog orS (Sg1 M) 3 (fun _ => 1000) 0 [qF 0, qF 1] (putJ 254 [0, 20, 187, 188, 189, 195, 196] [.bool false, .string s, .slice (some ⟨3, 0, none⟩) 6 6, .int .i64 (6), .int .i64 (e), .int .i64 (l), .int .i64 (p)]) [uni, pow, mxl M, strC cLE] (seesB [0, 20, 187, 188, 189, 195, 196] [0, 1, 2, 3]) =
    bif decide (p < l) then some (.normal, 254, [.bool false, .string s, .slice (some ⟨3, 0, none⟩) 6 6, .int .i64 (6), .int .i64 (e), .int .i64 (l), .int .i64 (p)], [some uni, some pow, some (mxl M), some (strC cLE)]) else some (.exit 16, 254, [.bool false, .string s, .slice (some ⟨3, 0, none⟩) 6 6, .int .i64 (6), .int .i64 (e), .int .i64 (l), .int .i64 (p)], [some uni, some pow, some (mxl M), some (strC cLE)]) := by kernel_rfl
theorem rdF1 (M e l p : Int) (s : ByteArray) : evP Tryz.prog orS (Sg1 M) 3 (fun _ => 1000) 0 [qF1 0, qF1 1] (putJ 254 [0, 20, 187, 188, 189, 195, 196] [.bool false, .string s, .slice (some ⟨3, 0, none⟩) 6 6, .int .i64 (6), .int .i64 (e), .int .i64 (l), .int .i64 (p)]) [uni, pow, mxl M, strC cLE] (seesB [0, 20, 21, 187, 188, 189, 195, 196, 199, 200, 201] [0, 1, 2, 3, 4]) = some (.normal, 254, [.bool false, .string s, .int .i64 (p), .slice (some ⟨3, 0, none⟩) 6 6, .int .i64 (6), .int .i64 (e), .int .i64 (l), .int .i64 (p), .slice (some ⟨4, 0, none⟩) 12 12, .int .i64 (12), .int .i64 (0)], [some uni, some pow, some (mxl M), some (strC cLE), some (strC cLG)]) := by kernel_rfl
theorem rdF2 (M e l p g : Int) (s : ByteArray) : evP Tryz.prog orS (Sg1 M) 3 (fun _ => 1000) 0 [qF 3] (putJ 254 [0, 20, 21, 187, 188, 189, 195, 196, 199, 200, 201] [.bool false, .string s, .int .i64 (p), .slice (some ⟨3, 0, none⟩) 6 6, .int .i64 (6), .int .i64 (e), .int .i64 (l), .int .i64 (p), .slice (some ⟨4, 0, none⟩) 12 12, .int .i64 (12), .int .i64 (g)]) [uni, pow, mxl M, strC cLE, strC cLG] (seesB [0, 20, 187, 188, 189, 195, 196] [0, 1, 2, 3]) = some (.normal, 254, [.bool false, .string s, .slice (some ⟨3, 0, none⟩) 6 6, .int .i64 (6), .int .i64 (e), .int .i64 (l), .int .i64 (w (p + 1))], [some uni, some pow, some (mxl M), some (strC cLE)]) := by kernel_rfl
def preOkS (s : ByteArray) (p : Int) : Bool := true && decide (0 ≤ p) && Nat.ble 0 p.toNat && Nat.ble p.toNat s.size
def sufOk (s : ByteArray) (p : Int) : Bool := decide (0 ≤ p) && true && Nat.ble p.toNat s.size && Nat.ble s.size s.size
/-- A text that is changed in one place. -/
def chg {α : Type} (s c : ByteArray) (p : Int) (k : Option α) : Option α :=
  bif preOkS s p then (bif catOk (s.extract 0 p.toNat) c then (bif sufOk s p then (bif catOk (s.extract 0 p.toNat ++ c) (s.extract p.toNat s.size) then
    (bif decide (p < (s.size : Int)) then (bif preOkS s p then (bif catOk (s.extract 0 p.toNat) c then (bif sufOk s (w (p + 1)) then (bif catOk (s.extract 0 p.toNat ++ c) (s.extract (w (p + 1)).toNat s.size) then k else none) else none) else none) else none) else k) else none) else none) else none) else none
theorem rdG0 (M e l p : Int) (s : ByteArray) : evCodeK Tryz.prog orS (Sg1 M) 1060 3 (BSm 9) (putJ 254 [0, 20, 21, 187, 188, 189, 195, 196, 199, 200, 201] [.bool false, .string s, .int .i64 (p), .slice (some ⟨3, 0, none⟩) 6 6, .int .i64 (6), .int .i64 (e), .int .i64 (l), .int .i64 (p), .slice (some ⟨4, 0, none⟩) 12 12, .int .i64 (12), .int .i64 (0)]) [uni, pow, mxl M, strC cLE, strC cLG] (seesB [0, 20, 21, 187, 188, 189, 195, 196, 199, 200, 201] [0, 1, 2, 3, 4]) =
    chg s (bs []) p (some (.normal, 254, [.bool false, .string s, .int .i64 (p), .slice (some ⟨3, 0, none⟩) 6 6, .int .i64 (6), .int .i64 (e), .int .i64 (l), .int .i64 (p), .slice (some ⟨4, 0, none⟩) 12 12, .int .i64 (12), .int .i64 (1)], [some uni, some pow, some (mxl M), some (strC cLE), some (strC cLG)])) := by kernel_rfl
theorem rdG1 (M e l p : Int) (s : ByteArray) : evCodeK Tryz.prog orS (Sg1 M) 1060 3 (BSm 9) (putJ 254 [0, 20, 21, 187, 188, 189, 195, 196, 199, 200, 201] [.bool false, .string s, .int .i64 (p), .slice (some ⟨3, 0, none⟩) 6 6, .int .i64 (6), .int .i64 (e), .int .i64 (l), .int .i64 (p), .slice (some ⟨4, 0, none⟩) 12 12, .int .i64 (12), .int .i64 (1)]) [uni, pow, mxl M, strC cLE, strC cLG] (seesB [0, 20, 21, 187, 188, 189, 195, 196, 199, 200, 201] [0, 1, 2, 3, 4]) =
    chg s (bs [48]) p (some (.normal, 254, [.bool false, .string s, .int .i64 (p), .slice (some ⟨3, 0, none⟩) 6 6, .int .i64 (6), .int .i64 (e), .int .i64 (l), .int .i64 (p), .slice (some ⟨4, 0, none⟩) 12 12, .int .i64 (12), .int .i64 (2)], [some uni, some pow, some (mxl M), some (strC cLE), some (strC cLG)])) := by kernel_rfl
theorem rdG2 (M e l p : Int) (s : ByteArray) : evCodeK Tryz.prog orS (Sg1 M) 1060 3 (BSm 9) (putJ 254 [0, 20, 21, 187, 188, 189, 195, 196, 199, 200, 201] [.bool false, .string s, .int .i64 (p), .slice (some ⟨3, 0, none⟩) 6 6, .int .i64 (6), .int .i64 (e), .int .i64 (l), .int .i64 (p), .slice (some ⟨4, 0, none⟩) 12 12, .int .i64 (12), .int .i64 (2)]) [uni, pow, mxl M, strC cLE, strC cLG] (seesB [0, 20, 21, 187, 188, 189, 195, 196, 199, 200, 201] [0, 1, 2, 3, 4]) =
    chg s (bs [49]) p (some (.normal, 254, [.bool false, .string s, .int .i64 (p), .slice (some ⟨3, 0, none⟩) 6 6, .int .i64 (6), .int .i64 (e), .int .i64 (l), .int .i64 (p), .slice (some ⟨4, 0, none⟩) 12 12, .int .i64 (12), .int .i64 (3)], [some uni, some pow, some (mxl M), some (strC cLE), some (strC cLG)])) := by kernel_rfl
theorem rdG3 (M e l p : Int) (s : ByteArray) : evCodeK Tryz.prog orS (Sg1 M) 1060 3 (BSm 9) (putJ 254 [0, 20, 21, 187, 188, 189, 195, 196, 199, 200, 201] [.bool false, .string s, .int .i64 (p), .slice (some ⟨3, 0, none⟩) 6 6, .int .i64 (6), .int .i64 (e), .int .i64 (l), .int .i64 (p), .slice (some ⟨4, 0, none⟩) 12 12, .int .i64 (12), .int .i64 (3)]) [uni, pow, mxl M, strC cLE, strC cLG] (seesB [0, 20, 21, 187, 188, 189, 195, 196, 199, 200, 201] [0, 1, 2, 3, 4]) =
    chg s (bs [119]) p (some (.normal, 254, [.bool false, .string s, .int .i64 (p), .slice (some ⟨3, 0, none⟩) 6 6, .int .i64 (6), .int .i64 (e), .int .i64 (l), .int .i64 (p), .slice (some ⟨4, 0, none⟩) 12 12, .int .i64 (12), .int .i64 (4)], [some uni, some pow, some (mxl M), some (strC cLE), some (strC cLG)])) := by kernel_rfl
theorem rdG4 (M e l p : Int) (s : ByteArray) : evCodeK Tryz.prog orS (Sg1 M) 1060 3 (BSm 9) (putJ 254 [0, 20, 21, 187, 188, 189, 195, 196, 199, 200, 201] [.bool false, .string s, .int .i64 (p), .slice (some ⟨3, 0, none⟩) 6 6, .int .i64 (6), .int .i64 (e), .int .i64 (l), .int .i64 (p), .slice (some ⟨4, 0, none⟩) 12 12, .int .i64 (12), .int .i64 (4)]) [uni, pow, mxl M, strC cLE, strC cLG] (seesB [0, 20, 21, 187, 188, 189, 195, 196, 199, 200, 201] [0, 1, 2, 3, 4]) =
    chg s (bs [45]) p (some (.normal, 254, [.bool false, .string s, .int .i64 (p), .slice (some ⟨3, 0, none⟩) 6 6, .int .i64 (6), .int .i64 (e), .int .i64 (l), .int .i64 (p), .slice (some ⟨4, 0, none⟩) 12 12, .int .i64 (12), .int .i64 (5)], [some uni, some pow, some (mxl M), some (strC cLE), some (strC cLG)])) := by kernel_rfl
theorem rdG5 (M e l p : Int) (s : ByteArray) : evCodeK Tryz.prog orS (Sg1 M) 1060 3 (BSm 9) (putJ 254 [0, 20, 21, 187, 188, 189, 195, 196, 199, 200, 201] [.bool false, .string s, .int .i64 (p), .slice (some ⟨3, 0, none⟩) 6 6, .int .i64 (6), .int .i64 (e), .int .i64 (l), .int .i64 (p), .slice (some ⟨4, 0, none⟩) 12 12, .int .i64 (12), .int .i64 (5)]) [uni, pow, mxl M, strC cLE, strC cLG] (seesB [0, 20, 21, 187, 188, 189, 195, 196, 199, 200, 201] [0, 1, 2, 3, 4]) =
    chg s (bs [43]) p (some (.normal, 254, [.bool false, .string s, .int .i64 (p), .slice (some ⟨3, 0, none⟩) 6 6, .int .i64 (6), .int .i64 (e), .int .i64 (l), .int .i64 (p), .slice (some ⟨4, 0, none⟩) 12 12, .int .i64 (12), .int .i64 (6)], [some uni, some pow, some (mxl M), some (strC cLE), some (strC cLG)])) := by kernel_rfl
theorem rdG6 (M e l p : Int) (s : ByteArray) : evCodeK Tryz.prog orS (Sg1 M) 1060 3 (BSm 9) (putJ 254 [0, 20, 21, 187, 188, 189, 195, 196, 199, 200, 201] [.bool false, .string s, .int .i64 (p), .slice (some ⟨3, 0, none⟩) 6 6, .int .i64 (6), .int .i64 (e), .int .i64 (l), .int .i64 (p), .slice (some ⟨4, 0, none⟩) 12 12, .int .i64 (12), .int .i64 (6)]) [uni, pow, mxl M, strC cLE, strC cLG] (seesB [0, 20, 21, 187, 188, 189, 195, 196, 199, 200, 201] [0, 1, 2, 3, 4]) =
    chg s (bs [40]) p (some (.normal, 254, [.bool false, .string s, .int .i64 (p), .slice (some ⟨3, 0, none⟩) 6 6, .int .i64 (6), .int .i64 (e), .int .i64 (l), .int .i64 (p), .slice (some ⟨4, 0, none⟩) 12 12, .int .i64 (12), .int .i64 (7)], [some uni, some pow, some (mxl M), some (strC cLE), some (strC cLG)])) := by kernel_rfl
theorem rdG7 (M e l p : Int) (s : ByteArray) : evCodeK Tryz.prog orS (Sg1 M) 1060 3 (BSm 9) (putJ 254 [0, 20, 21, 187, 188, 189, 195, 196, 199, 200, 201] [.bool false, .string s, .int .i64 (p), .slice (some ⟨3, 0, none⟩) 6 6, .int .i64 (6), .int .i64 (e), .int .i64 (l), .int .i64 (p), .slice (some ⟨4, 0, none⟩) 12 12, .int .i64 (12), .int .i64 (7)]) [uni, pow, mxl M, strC cLE, strC cLG] (seesB [0, 20, 21, 187, 188, 189, 195, 196, 199, 200, 201] [0, 1, 2, 3, 4]) =
    chg s (bs [41]) p (some (.normal, 254, [.bool false, .string s, .int .i64 (p), .slice (some ⟨3, 0, none⟩) 6 6, .int .i64 (6), .int .i64 (e), .int .i64 (l), .int .i64 (p), .slice (some ⟨4, 0, none⟩) 12 12, .int .i64 (12), .int .i64 (8)], [some uni, some pow, some (mxl M), some (strC cLE), some (strC cLG)])) := by kernel_rfl
theorem rdG8 (M e l p : Int) (s : ByteArray) : evCodeK Tryz.prog orS (Sg1 M) 1060 3 (BSm 9) (putJ 254 [0, 20, 21, 187, 188, 189, 195, 196, 199, 200, 201] [.bool false, .string s, .int .i64 (p), .slice (some ⟨3, 0, none⟩) 6 6, .int .i64 (6), .int .i64 (e), .int .i64 (l), .int .i64 (p), .slice (some ⟨4, 0, none⟩) 12 12, .int .i64 (12), .int .i64 (8)]) [uni, pow, mxl M, strC cLE, strC cLG] (seesB [0, 20, 21, 187, 188, 189, 195, 196, 199, 200, 201] [0, 1, 2, 3, 4]) =
    chg s (bs [114]) p (some (.normal, 254, [.bool false, .string s, .int .i64 (p), .slice (some ⟨3, 0, none⟩) 6 6, .int .i64 (6), .int .i64 (e), .int .i64 (l), .int .i64 (p), .slice (some ⟨4, 0, none⟩) 12 12, .int .i64 (12), .int .i64 (9)], [some uni, some pow, some (mxl M), some (strC cLE), some (strC cLG)])) := by kernel_rfl
theorem rdG9 (M e l p : Int) (s : ByteArray) : evCodeK Tryz.prog orS (Sg1 M) 1060 3 (BSm 9) (putJ 254 [0, 20, 21, 187, 188, 189, 195, 196, 199, 200, 201] [.bool false, .string s, .int .i64 (p), .slice (some ⟨3, 0, none⟩) 6 6, .int .i64 (6), .int .i64 (e), .int .i64 (l), .int .i64 (p), .slice (some ⟨4, 0, none⟩) 12 12, .int .i64 (12), .int .i64 (9)]) [uni, pow, mxl M, strC cLE, strC cLG] (seesB [0, 20, 21, 187, 188, 189, 195, 196, 199, 200, 201] [0, 1, 2, 3, 4]) =
    chg s (bs [32]) p (some (.normal, 254, [.bool false, .string s, .int .i64 (p), .slice (some ⟨3, 0, none⟩) 6 6, .int .i64 (6), .int .i64 (e), .int .i64 (l), .int .i64 (p), .slice (some ⟨4, 0, none⟩) 12 12, .int .i64 (12), .int .i64 (10)], [some uni, some pow, some (mxl M), some (strC cLE), some (strC cLG)])) := by kernel_rfl
theorem rdG10 (M e l p : Int) (s : ByteArray) : evCodeK Tryz.prog orS (Sg1 M) 1060 3 (BSm 9) (putJ 254 [0, 20, 21, 187, 188, 189, 195, 196, 199, 200, 201] [.bool false, .string s, .int .i64 (p), .slice (some ⟨3, 0, none⟩) 6 6, .int .i64 (6), .int .i64 (e), .int .i64 (l), .int .i64 (p), .slice (some ⟨4, 0, none⟩) 12 12, .int .i64 (12), .int .i64 (10)]) [uni, pow, mxl M, strC cLE, strC cLG] (seesB [0, 20, 21, 187, 188, 189, 195, 196, 199, 200, 201] [0, 1, 2, 3, 4]) =
    chg s (bs [50]) p (some (.normal, 254, [.bool false, .string s, .int .i64 (p), .slice (some ⟨3, 0, none⟩) 6 6, .int .i64 (6), .int .i64 (e), .int .i64 (l), .int .i64 (p), .slice (some ⟨4, 0, none⟩) 12 12, .int .i64 (12), .int .i64 (11)], [some uni, some pow, some (mxl M), some (strC cLE), some (strC cLG)])) := by kernel_rfl
theorem rdG11 (M e l p : Int) (s : ByteArray) : evCodeK Tryz.prog orS (Sg1 M) 1060 3 (BSm 9) (putJ 254 [0, 20, 21, 187, 188, 189, 195, 196, 199, 200, 201] [.bool false, .string s, .int .i64 (p), .slice (some ⟨3, 0, none⟩) 6 6, .int .i64 (6), .int .i64 (e), .int .i64 (l), .int .i64 (p), .slice (some ⟨4, 0, none⟩) 12 12, .int .i64 (12), .int .i64 (11)]) [uni, pow, mxl M, strC cLE, strC cLG] (seesB [0, 20, 21, 187, 188, 189, 195, 196, 199, 200, 201] [0, 1, 2, 3, 4]) =
    chg s (bs [47]) p (some (.normal, 254, [.bool false, .string s, .int .i64 (p), .slice (some ⟨3, 0, none⟩) 6 6, .int .i64 (6), .int .i64 (e), .int .i64 (l), .int .i64 (p), .slice (some ⟨4, 0, none⟩) 12 12, .int .i64 (12), .int .i64 (12)], [some uni, some pow, some (mxl M), some (strC cLE), some (strC cLG)])) := by kernel_rfl
theorem rdGx (M e l p : Int) (s : ByteArray) : evCodeK Tryz.prog orS (Sg1 M) 1060 3 (BSm 9) (putJ 254 [0, 20, 21, 187, 188, 189, 195, 196, 199, 200, 201] [.bool false, .string s, .int .i64 (p), .slice (some ⟨3, 0, none⟩) 6 6, .int .i64 (6), .int .i64 (e), .int .i64 (l), .int .i64 (p), .slice (some ⟨4, 0, none⟩) 12 12, .int .i64 (12), .int .i64 (12)]) [uni, pow, mxl M, strC cLE, strC cLG] (seesB [0, 20, 21, 187, 188, 189, 195, 196, 199, 200, 201] [0, 1, 2, 3, 4]) = some (.exit 18, 254, [.bool false, .string s, .int .i64 (p), .slice (some ⟨3, 0, none⟩) 6 6, .int .i64 (6), .int .i64 (e), .int .i64 (l), .int .i64 (p), .slice (some ⟨4, 0, none⟩) 12 12, .int .i64 (12), .int .i64 (12)], [some uni, some pow, some (mxl M), some (strC cLE), some (strC cLG)]) := by kernel_rfl
theorem tlSm (M e : Int) : evP Tryz.prog orS (Sg1 M) 3 (fun _ => 1000) 0 [qSm 11, qSm 12] (putJ 254 [0, 187, 188, 189] [.bool false, .slice (some ⟨3, 0, none⟩) 6 6, .int .i64 (6), .int .i64 (e)]) [uni, pow, mxl M, strC cLE] (outs Tryz.prog 7) = some (.bool true, [uni, pow, mxl M, strC cLE]) := by kernel_rfl
theorem tmpsSm : tmps0Of Tryz.prog 7 [] = List.replicate 254 undef := by kernel_rfl
end Go.Proofs.YtihccnfaibiiiaaGreatDoor.R
