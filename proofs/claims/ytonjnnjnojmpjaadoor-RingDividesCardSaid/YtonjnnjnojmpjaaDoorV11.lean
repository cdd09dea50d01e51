/- A small evaluator over a shadow heap, part 11: the operations of a region that write to no block there is, in every order. -/
import Derived.Test.YtonjnnjnojmpjaaDoorV10
namespace Go.Proofs.XX.Vm
open Go Go.RowKit
section
variable {P : Program} {ro : Option Nat}

/-- Where the region stands, some of its operations having been carried out. -/
structure PreInv (md : Region.Mode) (ops : Array Oper) (recs : List Rec) (T : List Value) (S Sm : List Blk) (φ0 : Ren) (a0 : Act) (w0 : World) (listed : Array Bool) (a : Act) (φ : Ren) (w : World) : Prop where
  size : listed.size = ops.size
  sub : ∀ i, On listed i → ∃ c ∈ recs, c.i = i
  closed : ∀ c ∈ recs, On listed c.i → EdgesOn md listed c.o
  good : Good φ Sm w
  ext : ∀ b r, φ0 b = some r → φ b = some r
  dom : ∀ b r, φ b = some r → φ0 b = some r ∨ ∃ c ∈ recs, On listed c.i ∧ c.S.length ≤ b ∧ b < c.S'.length ∧ w0.heap.size ≤ r
  hsize : w0.heap.size ≤ w.heap.size
  frame : ∀ r, r < w0.heap.size → w.heap[r]? = w0.heap[r]?
  os : w.os = w0.os
  tape : w.tape = w0.tape
  output : w.output = w0.output
  tsize : T.length = a.tmps.size
  defers : a.defers = a0.defers
  tmp : ∀ t v', a.tmps[t]? = some v' → (∀ c ∈ recs, On listed c.i → c.o.dst = some t → VRel φ c.v v') ∧ ((∀ c ∈ recs, On listed c.i → c.o.dst ≠ some t) → ∀ v, T[t]? = some v → VRel φ v v')

theorem put_get (a : Act) {d : Option Tmp} {t : Nat} (v : Value) (h : d ≠ some t) : (a.put d v).tmps[t]? = a.tmps[t]? := by
  cases d with
  | none => rfl
  | some d => simp only [Act.put]; rw [Array.getElem?_setIfInBounds_ne (fun e => h (by rw [e]))]
theorem put_size (a : Act) (d : Option Tmp) (v : Value) : (a.put d v).tmps.size = a.tmps.size := by cases d <;> simp [Act.put]

structure Recs (P : Program) (Sg : List Blk) (cl : Caller) (md : Region.Mode) (ops : Array Oper) (T Tm : List Value) (S Sm : List Blk) (recs : List Rec) : Prop where
  pre : Ext S.length S Sm
  len : Tm.length = T.length
  all : ∀ c ∈ recs, RecOk P Sg cl md ops T S Sm c
  pair : recs.Pairwise fun c d => c.S'.length ≤ d.S.length ∧ c.i ∈ d.done ∧ ∀ x ∈ c.done, x ∈ d.done
  done : ∀ c ∈ recs, ∀ x ∈ c.done, ∃ d ∈ recs, d.i = x
  at_ : ∀ c ∈ recs, Holds recs (fun d => d.i ∈ c.done) T c.T
  end_ : Holds recs (fun _ => True) T Tm

theorem Recs.two {Sg : List Blk} {cl : Caller} {md : Region.Mode} {ops : Array Oper} {T Tm : List Value} {S Sm : List Blk} {recs : List Rec} (h : Recs P Sg cl md ops T Tm S Sm recs) {c d : Rec} (hc : c ∈ recs) (hd : d ∈ recs)
    (hne : c.i ≠ d.i) : (c.S'.length ≤ d.S.length ∧ c.i ∈ d.done ∧ d.i ∉ c.done) ∨ (d.S'.length ≤ c.S.length ∧ d.i ∈ c.done ∧ c.i ∉ d.done) := by
  have key : ∀ (l : List Rec), (∀ c ∈ l, c ∈ recs) → l.Pairwise (fun c d => c.S'.length ≤ d.S.length ∧ c.i ∈ d.done ∧ ∀ x ∈ c.done, x ∈ d.done) → c ∈ l → d ∈ l →
      (c.S'.length ≤ d.S.length ∧ c.i ∈ d.done ∧ d.i ∉ c.done) ∨ (d.S'.length ≤ c.S.length ∧ d.i ∈ c.done ∧ c.i ∉ d.done) := by
    intro l
    induction l with
    | nil => intro _ _ hc; cases hc
    | cons x l ih =>
      intro hsub hp hc hd
      rw [List.pairwise_cons] at hp
      cases hc with
      | head =>
        cases hd with
        | head => exact absurd rfl hne
        | tail _ hd' =>
          obtain ⟨p1, p2, p3⟩ := hp.1 d hd'
          exact .inl ⟨p1, p2, fun e => (h.all d hd).new (p3 _ e)⟩
      | tail _ hc' =>
        cases hd with
        | head =>
          obtain ⟨p1, p2, p3⟩ := hp.1 c hc'
          exact .inr ⟨p1, p2, fun e => (h.all c hc).new (p3 _ e)⟩
        | tail _ hd' => exact ih (fun y hy => hsub y (List.mem_cons_of_mem _ hy)) hp.2 hc' hd'
  exact key recs (fun _ h => h) h.pair hc hd

theorem Recs.same {Sg : List Blk} {cl : Caller} {md : Region.Mode} {ops : Array Oper} {T Tm : List Value} {S Sm : List Blk} {recs : List Rec} (h : Recs P Sg cl md ops T Tm S Sm recs) {c d : Rec} (hc : c ∈ recs) (hd : d ∈ recs)
    (he : c.i = d.i) : c = d := by
  have key : ∀ (l : List Rec), (∀ c ∈ l, c ∈ recs) → l.Pairwise (fun c d => c.S'.length ≤ d.S.length ∧ c.i ∈ d.done ∧ ∀ x ∈ c.done, x ∈ d.done) → c ∈ l → d ∈ l → c = d := by
    intro l
    induction l with
    | nil => intro _ _ hc; cases hc
    | cons x l ih =>
      intro hsub hp hc hd
      rw [List.pairwise_cons] at hp
      cases hc with
      | head =>
        cases hd with
        | head => rfl
        | tail _ hd' =>
          obtain ⟨_, p2, _⟩ := hp.1 d hd'
          exact absurd (he ▸ p2) (h.all d hd).new
      | tail _ hc' =>
        cases hd with
        | head =>
          obtain ⟨_, p2, _⟩ := hp.1 c hc'
          exact absurd (he ▸ p2) (h.all c hc).new
        | tail _ hd' => exact ih (fun y hy => hsub y (List.mem_cons_of_mem _ hy)) hp.2 hc' hd'
  exact key recs (fun _ h => h) h.pair hc hd

/-- What an operation of the region reads is there. -/
theorem pre_reads {Sg : List Blk} {cl : Caller} {md : Region.Mode} {ops : Array Oper} {T Tm : List Value} {S Sm : List Blk} {recs : List Rec} (R : Recs P Sg cl md ops T Tm S Sm recs)
    {φ0 φ : Ren} {a0 a : Act} {w0 w : World} {listed : Array Bool} (I : PreInv md ops recs T S Sm φ0 a0 w0 listed a φ w) {c : Rec} (hc : c ∈ recs) (hoff : ¬ On listed c.i) (he : EdgesOn md listed c.o)
    {t : Nat} (ht : apartFrom md ops c.o c.i t = true) {v v' : Value} (hv : c.T[t]? = some v) (hv' : a.tmps[t]? = some v') : VRel φ v v' := by
  have rc := R.all c hc
  have hlt : t < T.length := by have := (List.getElem?_eq_some_iff.1 hv).1; rw [rc.len] at this; exact this
  obtain ⟨i1, i2⟩ := I.tmp t v' hv'
  by_cases hex : ∃ d ∈ recs, d.o.dst = some t
  · obtain ⟨d, hd, hdst⟩ := hex
    have rd := R.all d hd
    have hap : d.i = c.i ∨ beforeM md c.o d.i = true ∨ beforeM md d.o c.i = true := by
      have := writersR_spec _ _ ht d.i d.o (by simpa using rd.op) hdst
      simp only [Nat.zero_add, Bool.or_eq_true] at this
      rcases this with (h1 | h1) | h1
      · exact .inl (by simpa using h1)
      · exact .inr (.inl h1)
      · exact .inr (.inr h1)
    have only : ∀ x ∈ recs, x.o.dst = some t → x = d := fun x hx hxd => R.same hx hd (soleDst_spec (drawOk_sole rd.draw) hdst (R.all x hx).op hxd)
    have later : d.i ∉ c.done → ¬ On listed d.i → VRel φ v v' := by
      intro h1 h2
      have e1 : c.T[t]? = T[t]? := (R.at_ c hc).2 t fun x hx hxd e => by rw [only x hx e] at hxd; exact h1 hxd
      exact i2 (fun x hx hxo e => by rw [only x hx e] at hxo; exact h2 hxo) v (e1 ▸ hv)
    rcases hap with h1 | h1 | h1
    · have : d = c := R.same hd hc h1
      subst this
      exact later rd.new hoff
    · have hdon := he d.i h1
      have hdd := edgesIn_spec rc.edges h1
      have e1 := (R.at_ c hc).1 d hd hdd t hdst hlt
      rw [hv] at e1; cases e1
      exact i1 d hd hdon hdst
    · have hcd := edgesIn_spec rd.edges h1
      by_cases hne : c.i = d.i
      · have : c = d := R.same hc hd hne
        subst this
        exact later rc.new hoff
      · refine later ?_ fun hon => hoff (I.closed d hd hon c.i h1)
        rcases R.two hc hd hne with ⟨_, _, h3⟩ | ⟨_, _, h3⟩
        · exact h3
        · exact absurd hcd h3
  · have hno : ∀ d ∈ recs, d.o.dst ≠ some t := fun d hd e => hex ⟨d, hd, e⟩
    have e1 : c.T[t]? = T[t]? := (R.at_ c hc).2 t fun x hx _ => hno x hx
    exact i2 (fun x hx _ => hno x hx) v (e1 ▸ hv)

/-- One more operation of the region. -/
theorem pre_step {Sg : List Blk} {cl : Caller} (hcl : ClOk P Sg cl) {md : Region.Mode} {ops : Array Oper} {T Tm : List Value} {S Sm Sf : List Blk} {recs : List Rec} (R : Recs P Sg cl md ops T Tm S Sm recs)
    {φ0 φ : Ren} {a0 a : Act} {w0 w : World} {listed : Array Bool} (inv0 : Inv Sg φ0 S w0) (hf : Fresh φ0 S.length Sf.length) (hSf : Sm.length ≤ Sf.length)
    (I : PreInv md ops recs T S Sm φ0 a0 w0 listed a φ w) {c : Rec} (hc : c ∈ recs) (hoff : ¬ On listed c.i) (he : EdgesOn md listed c.o) {Q : Exit → Act → World → Prop} {K : Act → World → Prop}
    (hK : ∀ (a' : Act) (ψ : Ren) (w' : World), PreInv md ops recs T S Sm φ0 a0 w0 (listed.setIfInBounds c.i true) a' ψ w' → K a' w') : wpOpIn (wideAt ro) 0 P ops Q c.i K a w := by
  have rc := R.all c hc
  have hdraw := rc.draw
  simp only [drawOk, allR_eq, Bool.and_eq_true] at hdraw
  obtain ⟨⟨⟨d1, d2⟩, d3⟩, d4⟩ := hdraw
  have hlow : ∀ g, g < Sg.length → g < S.length := fun g hg => Nat.lt_of_lt_of_le hg inv0.len
  have hcm : ∀ b, b < c.S'.length → Sm[b]? = c.S'[b]? := fun b hb => rc.hi.2 b hb hb
  have hcs : ∀ b, b < c.S.length → Sm[b]? = c.S[b]? := fun b hb => by rw [hcm b (Nat.lt_of_lt_of_le hb rc.mid.1), rc.mid.2 b hb hb]
  have invc : Inv Sg φ c.S w := by
    refine ⟨⟨⟨fun b k r hk hr => I.good.blk b k r ?_ hr, I.good.low, I.good.inj⟩, fun g hg => I.ext _ _ (inv0.ok.glob g hg)⟩, fun g hg => ?_, Nat.le_trans inv0.len rc.lo.1⟩
    · rw [hcs b (List.getElem?_eq_some_iff.1 hk).1]; exact hk
    · rw [rc.lo.2 g (hlow g hg) (hlow g hg), inv0.base g hg]
  have hfc : Fresh φ c.S.length c.S'.length := by
    intro b h1 h2
    cases hb : φ b with
    | none => rfl
    | some r =>
      exfalso
      rcases I.dom b r hb with h3 | ⟨d, hd, h3, h4, h5, _⟩
      · have := hf b (Nat.le_trans rc.lo.1 h1) (Nat.lt_of_lt_of_le h2 (Nat.le_trans rc.hi.1 hSf)); rw [this] at h3; cases h3
      · have hne : c.i ≠ d.i := fun e => hoff (e ▸ h3)
        rcases R.two hc hd hne with ⟨h6, _⟩ | ⟨h6, _⟩ <;> omega
  have hmask : LRel φ (maskL c.o c.T) (maskL c.o a.tmps.toList) := by
    refine mask_rel (by rw [rc.len, I.tsize]) fun t ht v v' hv hv' => ?_
    exact pre_reads R I hc hoff he ((List.all_eq_true.1 d1) t ht) hv hv'
  have hgd : ∀ b, wantedS ops c.T c.o = some b → Region.wanted c.o (yielded ops a.tmps) = b := by
    intro b hb
    refine wantedS_rel (φ := φ) hb fun j want p d v hg hp hd hv => ?_
    simp only [guardOk, hg, getR_arr, hp, Bool.and_eq_true] at d2
    have hjd := edgesIn_spec rc.edges d2.1
    obtain ⟨x, hx, hxi⟩ := R.done c hc j hjd
    have hxo : x.o = p := by have := (R.all x hx).op; rw [hxi, hp] at this; cases this; rfl
    have hlt : d < T.length := by have := (List.getElem?_eq_some_iff.1 hv).1; rw [rc.len] at this; exact this
    have e1 := (R.at_ c hc).1 x hx (show x.i ∈ c.done by rw [hxi]; exact hjd) d (by rw [hxo]; exact hd) hlt
    rw [hv] at e1; cases e1
    have hlt' : d < a.tmps.size := by rw [← I.tsize]; exact hlt
    refine ⟨a.tmps[d], Array.getElem?_eq_getElem hlt', (I.tmp d _ (Array.getElem?_eq_getElem hlt')).1 x hx (show On listed x.i by rw [hxi]; exact he j d2.1) (by rw [hxo]; exact hd)⟩
  have hns : ∀ cs b, c.o.op ≠ .select cs b := by intro cs b e; rw [e] at d4; simp [notSelect] at d4
  refine opRes_wp (T2 := maskL c.o c.T) (a2 := { a with tmps := (maskL c.o a.tmps.toList).toArray }) hcl invc.len rc.op rc.res invc (by simpa using hmask) (evOp_congr mask_opd)
    (execOp_congr c.o hns mask_eval) hgd hfc ?_
  intro v' ψ w' hv hg hs
  have hfr : ∀ r, r < w.heap.size → w'.heap[r]? = w.heap[r]? := fun r hr => hs.frame r hr fun b h1 h2 => by omega
  have hci : c.i < listed.size := by rw [I.size]; exact (Array.getElem?_eq_some_iff.1 rc.op).1
  have hon : ∀ j, On (listed.setIfInBounds c.i true) j ↔ j = c.i ∨ On listed j := fun j => on_set hci
  refine hK (a.put c.o.dst v') ψ w' ⟨by simpa using I.size, fun i hi => ?_, fun d hd hdo j hj => ?_, ⟨fun b k r hk hr => ?_, hg.low, hg.inj⟩, fun b r hb => hs.ext b r (I.ext b r hb), fun b r hb => ?_,
    Nat.le_trans I.hsize hs.size, fun r hr => by rw [hfr r (Nat.lt_of_lt_of_le hr I.hsize), I.frame r hr], hs.os.trans I.os, hs.tape.trans I.tape, hs.output.trans I.output, by rw [put_size]; exact I.tsize, by rw [put_defers]; exact I.defers,
    fun t u hu => ?_⟩
  · rcases (hon i).1 hi with rfl | h
    · exact ⟨c, hc, rfl⟩
    · exact I.sub i h
  · rcases (hon d.i).1 hdo with h | h
    · have : d = c := R.same hd hc h
      subst this
      exact (hon j).2 (.inr (he j hj))
    · exact (hon j).2 (.inr (I.closed d hd h j hj))
  · by_cases hb : b < c.S'.length
    · exact hg.blk b k r (by rw [← hcm b hb]; exact hk) hr
    · have hφ : φ b = some r := by
        rcases hs.dom b r hr with h | ⟨_, h, _⟩
        · exact h
        · omega
      obtain ⟨o2, g1, g2⟩ := I.good.blk b k r hk hφ
      exact ⟨o2, by rw [hfr r (I.good.low b r hφ)]; exact g1, g2.mono hs.ext⟩
  · rcases hs.dom b r hb with h | ⟨h1, h2, h3⟩
    · rcases I.dom b r h with h | ⟨d, hd, e1, e2⟩
      · exact .inl h
      · exact .inr ⟨d, hd, (hon d.i).2 (.inr e1), e2⟩
    · exact .inr ⟨c, hc, (hon c.i).2 (.inl rfl), h1, h2, Nat.le_trans I.hsize h3⟩
  · by_cases hdst : c.o.dst = some t
    · have huv : u = v' := by
        have ht : t < a.tmps.size := by have := (Array.getElem?_eq_some_iff.1 hu).1; rwa [put_size] at this
        rw [hdst] at hu
        simp [Act.put, ht] at hu
        exact hu.symm
      subst huv
      refine ⟨fun d hd hdo hdd => ?_, fun hall => ?_⟩
      · have : d = c := R.same hd hc (soleDst_spec (drawOk_sole rc.draw) hdst (R.all d hd).op hdd)
        subst this
        exact hv
      · exact absurd hdst (hall c hc ((hon c.i).2 (.inl rfl)))
    · rw [put_get a v' hdst] at hu
      obtain ⟨i1, i2⟩ := I.tmp t u hu
      refine ⟨fun d hd hdo hdd => ?_, fun hall v hv => ?_⟩
      · rcases (hon d.i).1 hdo with h | h
        · have : d = c := R.same hd hc h
          subst this
          exact absurd hdd hdst
        · exact (i1 d hd h hdd).mono hs.ext
      · exact (i2 (fun d hd hdo => hall d hd ((hon d.i).2 (.inr hdo))) v hv).mono hs.ext
end
end Go.Proofs.XX.Vm
