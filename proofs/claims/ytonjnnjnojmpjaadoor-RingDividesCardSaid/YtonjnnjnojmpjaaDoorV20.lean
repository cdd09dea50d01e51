/- A small evaluator over a shadow heap, part 20: a region with such operations, in every order. -/
import Derived.Test.YtonjnnjnojmpjaaDoorV15
namespace Go.Proofs.XX.Vm
open Go Go.RowKit

/-- The registers' side of what was evaluated. -/
structure RegRec (md : Region.Mode) (ops : Array Oper) (T : List Value) (c : Rec) : Prop where
  op : ops[c.i]? = some c.o
  draw : drawOk md ops c.o c.i = true
  edges : edgesIn md c.o c.done = true
  new : c.i ∉ c.done
  len : c.T.length = T.length

structure RegRecs (md : Region.Mode) (ops : Array Oper) (T Tf : List Value) (recs : List Rec) : Prop where
  len : Tf.length = T.length
  all : ∀ c ∈ recs, RegRec md ops T c
  pair : recs.Pairwise fun c d => c.i ∈ d.done ∧ ∀ x ∈ c.done, x ∈ d.done
  done : ∀ c ∈ recs, ∀ x ∈ c.done, ∃ d ∈ recs, d.i = x
  at_ : ∀ c ∈ recs, Holds recs (fun d => d.i ∈ c.done) T c.T
  end_ : Holds recs (fun _ => True) T Tf

section
variable {P : Program} {md : Region.Mode} {ops : Array Oper} {T Tf : List Value} {recs : List Rec}

theorem RegRecs.two (h : RegRecs md ops T Tf recs) {c d : Rec} (hc : c ∈ recs) (hd : d ∈ recs) (hne : c.i ≠ d.i) : (c.i ∈ d.done ∧ d.i ∉ c.done) ∨ (d.i ∈ c.done ∧ c.i ∉ d.done) := by
  have key : ∀ (l : List Rec), (∀ c ∈ l, c ∈ recs) → l.Pairwise (fun c d => c.i ∈ d.done ∧ ∀ x ∈ c.done, x ∈ d.done) → c ∈ l → d ∈ l → (c.i ∈ d.done ∧ d.i ∉ c.done) ∨ (d.i ∈ c.done ∧ c.i ∉ d.done) := by
    intro l
    induction l with
    | nil => intro _ _ hc; cases hc
    | cons x l ih =>
      intro hsub hp hc hd
      rw [List.pairwise_cons] at hp
      cases hc with
      | head =>
        cases hd with
        | head => exact absurd rfl hne
        | tail _ hd' =>
          obtain ⟨p2, p3⟩ := hp.1 d hd'
          exact .inl ⟨p2, fun e => (h.all d hd).new (p3 _ e)⟩
      | tail _ hc' =>
        cases hd with
        | head =>
          obtain ⟨p2, p3⟩ := hp.1 c hc'
          exact .inr ⟨p2, fun e => (h.all c hc).new (p3 _ e)⟩
        | tail _ hd' => exact ih (fun y hy => hsub y (List.mem_cons_of_mem _ hy)) hp.2 hc' hd'
  exact key recs (fun _ h => h) h.pair hc hd

theorem RegRecs.same (h : RegRecs md ops T Tf recs) {c d : Rec} (hc : c ∈ recs) (hd : d ∈ recs) (he : c.i = d.i) : c = d := by
  have key : ∀ (l : List Rec), (∀ c ∈ l, c ∈ recs) → l.Pairwise (fun c d => c.i ∈ d.done ∧ ∀ x ∈ c.done, x ∈ d.done) → c ∈ l → d ∈ l → c = d := by
    intro l
    induction l with
    | nil => intro _ _ hc; cases hc
    | cons x l ih =>
      intro hsub hp hc hd
      rw [List.pairwise_cons] at hp
      cases hc with
      | head =>
        cases hd with
        | head => rfl
        | tail _ hd' =>
          obtain ⟨p2, _⟩ := hp.1 d hd'
          exact absurd (he ▸ p2) (h.all d hd).new
      | tail _ hc' =>
        cases hd with
        | head =>
          obtain ⟨p2, _⟩ := hp.1 c hc'
          exact absurd (he ▸ p2) (h.all c hc).new
        | tail _ hd' => exact ih (fun y hy => hsub y (List.mem_cons_of_mem _ hy)) hp.2 hc' hd'
  exact key recs (fun _ h => h) h.pair hc hd

/-- The registers, some operations having been carried out. -/
structure RegInv (md : Region.Mode) (ops : Array Oper) (recs : List Rec) (T : List Value) (a0 : Act) (listed : Array Bool) (a : Act) (φ : Ren) : Prop where
  size : listed.size = ops.size
  closed : ∀ c ∈ recs, On listed c.i → EdgesOn md listed c.o
  tsize : T.length = a.tmps.size
  defers : a.defers = a0.defers
  tmp : ∀ t v', a.tmps[t]? = some v' → (∀ c ∈ recs, On listed c.i → c.o.dst = some t → VRel φ c.v v') ∧ ((∀ c ∈ recs, On listed c.i → c.o.dst ≠ some t) → ∀ v, T[t]? = some v → VRel φ v v')

theorem reg_reads (R : RegRecs md ops T Tf recs) {φ : Ren} {a0 a : Act} {listed : Array Bool} (I : RegInv md ops recs T a0 listed a φ) {c : Rec} (hc : c ∈ recs) (hoff : ¬ On listed c.i) (he : EdgesOn md listed c.o)
    {t : Nat} (ht : apartFrom md ops c.o c.i t = true) {v v' : Value} (hv : c.T[t]? = some v) (hv' : a.tmps[t]? = some v') : VRel φ v v' := by
  have rc := R.all c hc
  have hlt : t < T.length := by have := (List.getElem?_eq_some_iff.1 hv).1; rw [rc.len] at this; exact this
  obtain ⟨i1, i2⟩ := I.tmp t v' hv'
  by_cases hex : ∃ d ∈ recs, d.o.dst = some t
  · obtain ⟨d, hd, hdst⟩ := hex
    have rd := R.all d hd
    have hap : d.i = c.i ∨ beforeM md c.o d.i = true ∨ beforeM md d.o c.i = true := by
      have := writersR_spec _ _ ht d.i d.o (by simpa using rd.op) hdst
      simp only [Nat.zero_add, Bool.or_eq_true] at this
      rcases this with (h1 | h1) | h1
      · exact .inl (by simpa using h1)
      · exact .inr (.inl h1)
      · exact .inr (.inr h1)
    have only : ∀ x ∈ recs, x.o.dst = some t → x = d := fun x hx hxd => R.same hx hd (soleDst_spec (drawOk_sole rd.draw) hdst (R.all x hx).op hxd)
    have later : d.i ∉ c.done → ¬ On listed d.i → VRel φ v v' := by
      intro h1 h2
      have e1 : c.T[t]? = T[t]? := (R.at_ c hc).2 t fun x hx hxd e => by rw [only x hx e] at hxd; exact h1 hxd
      exact i2 (fun x hx hxo e => by rw [only x hx e] at hxo; exact h2 hxo) v (e1 ▸ hv)
    rcases hap with h1 | h1 | h1
    · have : d = c := R.same hd hc h1
      subst this
      exact later rd.new hoff
    · have hdon := he d.i h1
      have hdd := edgesIn_spec rc.edges h1
      have e1 := (R.at_ c hc).1 d hd hdd t hdst hlt
      rw [hv] at e1; cases e1
      exact i1 d hd hdon hdst
    · have hcd := edgesIn_spec rd.edges h1
      by_cases hne : c.i = d.i
      · have : c = d := R.same hc hd hne
        subst this
        exact later rc.new hoff
      · refine later ?_ fun hon => hoff (I.closed d hd hon c.i h1)
        rcases R.two hc hd hne with ⟨_, h3⟩ | ⟨_, h3⟩
        · exact h3
        · exact absurd hcd h3
  · have hno : ∀ d ∈ recs, d.o.dst ≠ some t := fun d hd e => hex ⟨d, hd, e⟩
    have e1 : c.T[t]? = T[t]? := (R.at_ c hc).2 t fun x hx _ => hno x hx
    exact i2 (fun x hx _ => hno x hx) v (e1 ▸ hv)

/-- One more operation, at whatever heap its value is the one that was evaluated. -/
theorem reg_step {ro : Option Nat} {Sg : List Blk} {cl : Caller} (hcl : ClOk P Sg cl) (R : RegRecs md ops T Tf recs) {φ : Ren} {a0 a : Act} {w : World} {listed : Array Bool}
    (I : RegInv md ops recs T a0 listed a φ) {c : Rec} (hc : c ∈ recs) (hoff : ¬ On listed c.i) (he : EdgesOn md listed c.o) {fl : Nat} (hfl : Sg.length ≤ fl) {S S' : List Blk} (inv : Inv Sg φ S w) (hf : Fresh φ S.length S'.length)
    (hr : opRes P Sg.length cl fl ops c.o c.T S = some (c.v, S')) {Q : Exit → Act → World → Prop} {K : Act → World → Prop}
    (hK : ∀ (a' : Act) (ψ : Ren) (w' : World), RegInv md ops recs T a0 (listed.setIfInBounds c.i true) a' ψ → Good ψ S' w' → Step fl φ S w ψ S' w' → K a' w') : wpOpIn (wideAt ro) 0 P ops Q c.i K a w := by
  have rc := R.all c hc
  have hdraw := rc.draw
  simp only [drawOk, allR_eq, Bool.and_eq_true] at hdraw
  obtain ⟨⟨⟨d1, d2⟩, d3⟩, d4⟩ := hdraw
  have hmask : LRel φ (maskL c.o c.T) (maskL c.o a.tmps.toList) := by
    refine mask_rel (by rw [rc.len, I.tsize]) fun t ht v v' hv hv' => ?_
    exact reg_reads R I hc hoff he ((List.all_eq_true.1 d1) t ht) hv hv'
  have hgd : ∀ b, wantedS ops c.T c.o = some b → Region.wanted c.o (yielded ops a.tmps) = b := by
    intro b hb
    refine wantedS_rel (φ := φ) hb fun j want p d v hg hp hd hv => ?_
    simp only [guardOk, hg, getR_arr, hp, Bool.and_eq_true] at d2
    have hjd := edgesIn_spec rc.edges d2.1
    obtain ⟨x, hx, hxi⟩ := R.done c hc j hjd
    have hxo : x.o = p := by have := (R.all x hx).op; rw [hxi, hp] at this; cases this; rfl
    have hlt : d < T.length := by have := (List.getElem?_eq_some_iff.1 hv).1; rw [rc.len] at this; exact this
    have e1 := (R.at_ c hc).1 x hx (show x.i ∈ c.done by rw [hxi]; exact hjd) d (by rw [hxo]; exact hd) hlt
    rw [hv] at e1; cases e1
    have hlt' : d < a.tmps.size := by rw [← I.tsize]; exact hlt
    refine ⟨a.tmps[d], Array.getElem?_eq_getElem hlt', (I.tmp d _ (Array.getElem?_eq_getElem hlt')).1 x hx (show On listed x.i by rw [hxi]; exact he j d2.1) (by rw [hxo]; exact hd)⟩
  have hns : ∀ cs b, c.o.op ≠ .select cs b := by intro cs b e; rw [e] at d4; simp [notSelect] at d4
  refine opRes_wp (T2 := maskL c.o c.T) (a2 := { a with tmps := (maskL c.o a.tmps.toList).toArray }) hcl hfl rc.op hr inv (by simpa using hmask) (evOp_congr mask_opd)
    (execOp_congr c.o hns mask_eval) hgd hf ?_
  intro v' ψ w' hv hg hs
  have hci : c.i < listed.size := by rw [I.size]; exact (Array.getElem?_eq_some_iff.1 rc.op).1
  have hon : ∀ j, On (listed.setIfInBounds c.i true) j ↔ j = c.i ∨ On listed j := fun j => on_set hci
  refine hK (a.put c.o.dst v') ψ w' ⟨by simpa using I.size, fun d hd hdo j hj => ?_, by rw [put_size]; exact I.tsize, by rw [put_defers]; exact I.defers, fun t u hu => ?_⟩ hg hs
  · rcases (hon d.i).1 hdo with h | h
    · have : d = c := R.same hd hc h
      subst this
      exact (hon j).2 (.inr (he j hj))
    · exact (hon j).2 (.inr (I.closed d hd h j hj))
  · by_cases hdst : c.o.dst = some t
    · have huv : u = v' := by
        have ht : t < a.tmps.size := by have := (Array.getElem?_eq_some_iff.1 hu).1; rwa [put_size] at this
        rw [hdst] at hu
        simp [Act.put, ht] at hu
        exact hu.symm
      subst huv
      refine ⟨fun d hd hdo hdd => ?_, fun hall => ?_⟩
      · have : d = c := R.same hd hc (soleDst_spec (drawOk_sole rc.draw) hdst (R.all d hd).op hdd)
        subst this
        exact hv
      · exact absurd hdst (hall c hc ((hon c.i).2 (.inl rfl)))
    · rw [put_get a v' hdst] at hu
      obtain ⟨i1, i2⟩ := I.tmp t u hu
      refine ⟨fun d hd hdo hdd => ?_, fun hall v hv => ?_⟩
      · rcases (hon d.i).1 hdo with h | h
        · have : d = c := R.same hd hc h
          subst this
          exact absurd hdd hdst
        · exact (i1 d hd h hdd).mono hs.ext
      · exact (i2 (fun d hd hdo => hall d hd ((hon d.i).2 (.inr hdo))) v hv).mono hs.ext

/-- The heaps of the second part, one behind the other. -/
def Heaps (P : Program) (gl : Nat) (cl : Caller) (fl : Nat) (md : Region.Mode) (ops : Array Oper) : List (Nat × Nat) → List Blk → List Rec → List Blk → Prop
  | _, S, [], Sf => S = Sf
  | B, S, c :: l, Sf => c.S = S ∧ opRes P gl cl fl ops c.o c.T S = some (c.v, c.S') ∧ (∀ p ∈ openAt md c.o B, c.S'[p.2]? = S[p.2]?) ∧ Heaps P gl cl fl md ops (openAt md c.o B) c.S' l Sf

theorem tail_recs {gl : Nat} {cl : Caller} {fl : Nat} : ∀ (l : List Nat) (B : List (Nat × Nat)) (done : List Nat) (R0 : List Rec) (Tm Tf : List Value) (S Sf : List Blk), (∀ x, x ∈ done ↔ ∃ d ∈ R0, d.i = x) → (∀ c ∈ R0, ops[c.i]? = some c.o) →
    Holds R0 (fun _ => True) T Tm → Tm.length = T.length → preOk md ops done l = true → evTailF P gl cl fl md ops l B Tm S = some (Tf, Sf) →
    ∃ recs : List Rec, recs.map (·.i) = l ∧ Tf.length = T.length ∧ (∀ c ∈ recs, RegRec md ops T c) ∧ recs.Pairwise (fun c d => c.i ∈ d.done ∧ ∀ x ∈ c.done, x ∈ d.done) ∧ (∀ c ∈ recs, ∀ x ∈ done, x ∈ c.done) ∧
      (∀ c ∈ recs, ∀ x ∈ c.done, x ∈ done ∨ ∃ d ∈ recs, d.i = x) ∧ (∀ c ∈ recs, Holds (R0 ++ recs) (fun d => d.i ∈ c.done) T c.T) ∧ Holds (R0 ++ recs) (fun _ => True) T Tf ∧ Heaps P gl cl fl md ops B S recs Sf := by
  intro l
  induction l with
  | nil =>
    intro B done R0 Tm Tf S Sf _ _ hh hl _ h
    cases h
    exact ⟨[], rfl, hl, by simp, by simp, by simp, by simp, by simp, by simpa using hh, rfl⟩
  | cons i l ih =>
    intro B done R0 Tm Tf S Sf hdone hops hh hl hok h
    simp only [evTailF, putK_eq, forceK_eq] at h
    simp only [preOk] at hok
    split at h
    · rename_i o ho
      rw [ho] at hok
      rw [getR_arr] at ho
      simp only [Bool.and_eq_true] at hok
      obtain ⟨⟨⟨c1, c2⟩, c3⟩, c4⟩ := hok
      split at h
      · rename_i hq
        split at h
        · rename_i v S1 hr
          have hnd : i ∉ done := fun e => by rw [anyR_mem.2 e] at c3; cases c3
          let c0 : Rec := ⟨i, o, Tm, S, v, S1, done⟩
          have hsole := drawOk_sole c1
          have h1 : Holds (R0 ++ [c0]) (fun _ => True) T (putL Tm o.dst v) := by
            refine ⟨fun c hc _ t hdst ht => ?_, fun t hall => ?_⟩
            · rcases List.mem_append.1 hc with hc | hc
              · rw [putL_get Tm v fun e => hnd ((hdone i).2 ⟨c, hc, soleDst_spec hsole e (hops c hc) hdst⟩)]
                exact hh.1 c hc trivial t hdst ht
              · simp only [List.mem_singleton] at hc
                subst hc
                have hdst' : o.dst = some t := hdst
                simp only [hdst', putL]
                rw [List.getElem?_set_self (by rw [hl]; exact ht)]
            · rw [putL_get Tm v (hall c0 (by simp) trivial)]
              exact hh.2 t fun c hc hdc => hall c (List.mem_append_left _ hc) hdc
          obtain ⟨recs, r1, r2, r3, r4, r5, r6, r7, r8, r9⟩ := ih (openAt md o B) (i :: done) (R0 ++ [c0]) (putL Tm o.dst v) Tf S1 Sf
            (fun x => by
              simp only [List.mem_cons, List.mem_append, hdone]
              constructor
              · rintro (rfl | ⟨d, h1, h2⟩)
                · exact ⟨c0, by simp, rfl⟩
                · exact ⟨d, .inl h1, h2⟩
              · rintro ⟨d, h1 | h1, h2⟩
                · exact .inr ⟨d, h1, h2⟩
                · simp only [List.not_mem_nil, or_false] at h1
                  subst h1
                  exact .inl h2.symm)
            (fun c hc => by
              rcases List.mem_append.1 hc with hc | hc
              · exact hops c hc
              · simp only [List.mem_singleton] at hc; subst hc; exact ho)
            h1 (by rw [putL_len, hl]) c4 h
          refine ⟨c0 :: recs, by simp [r1, c0], r2, ?_, ?_, ?_, ?_, ?_, by simpa using r8, rfl, hr, quiet_keeps hq hr, r9⟩
          · intro c hc
            cases hc with
            | head => exact ⟨ho, c1, c2, hnd, hl⟩
            | tail _ hm => exact r3 c hm
          · exact List.Pairwise.cons (fun d hd => ⟨r5 d hd i (by simp), fun x hx => r5 d hd x (List.mem_cons_of_mem _ hx)⟩) r4
          · intro c hc x hx
            cases hc with
            | head => exact hx
            | tail _ hm => exact r5 c hm x (List.mem_cons_of_mem _ hx)
          · intro c hc x hx
            cases hc with
            | head => exact .inl hx
            | tail _ hm =>
              rcases r6 c hm x hx with h1 | ⟨d, h1, h2⟩
              · cases h1 with
                | head => exact .inr ⟨c0, by simp, rfl⟩
                | tail _ h1 => exact .inl h1
              · exact .inr ⟨d, List.mem_cons_of_mem _ h1, h2⟩
          · intro c hc
            cases hc with
            | head =>
              refine ⟨fun d hd hdd t hdst ht => ?_, fun t hall => ?_⟩
              · rcases List.mem_append.1 hd with hd | hd
                · exact hh.1 d hd trivial t hdst ht
                · exfalso
                  cases hd with
                  | head => exact hnd hdd
                  | tail _ hm => exact (r3 d hm).new (r5 d hm d.i (List.mem_cons_of_mem _ hdd))
              · exact hh.2 t fun d hd _ => hall d (List.mem_append_left _ hd) ((hdone d.i).2 ⟨d, hd, rfl⟩)
            | tail _ hm => simpa using r7 c hm
        · cases h
      · cases h
    · cases h
end
end Go.Proofs.XX.Vm
