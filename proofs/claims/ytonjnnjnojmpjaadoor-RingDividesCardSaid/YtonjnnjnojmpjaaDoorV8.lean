/- A small evaluator over a shadow heap, part 8: a region that draws its order: the operations that write to no block there is. -/
import Derived.Test.YtonjnnjnojmpjaaDoorV7
namespace Go.Proofs.XX.Vm
open Go Go.RowKit

/-- One operation of the region, as it was evaluated. -/
structure Rec where
  i : Nat
  o : Oper
  T : List Value
  S : List Blk
  v : Value
  S' : List Blk
  done : List Nat

section
variable {P : Program}

structure RecOk (P : Program) (Sg : List Blk) (cl : Caller) (md : Region.Mode) (ops : Array Oper) (T : List Value) (S Sm : List Blk) (c : Rec) : Prop where
  op : ops[c.i]? = some c.o
  draw : drawOk md ops c.o c.i = true
  edges : edgesIn md c.o c.done = true
  new : c.i ∉ c.done
  res : opRes P Sg.length cl c.S.length ops c.o c.T c.S = some (c.v, c.S')
  lo : Ext S.length S c.S
  mid : Ext c.S.length c.S c.S'
  hi : Ext c.S'.length c.S' Sm
  len : c.T.length = T.length

/-- What stands in a list of temporaries when the operations of 'recs' for which 'd' holds have been carried out. -/
def Holds (recs : List Rec) (d : Rec → Prop) (T T' : List Value) : Prop :=
  (∀ c ∈ recs, d c → ∀ t, c.o.dst = some t → t < T.length → T'[t]? = some c.v) ∧
  (∀ t, (∀ c ∈ recs, d c → c.o.dst ≠ some t) → T'[t]? = T[t]?)

theorem putL_len (T : List Value) (d : Option Tmp) (v : Value) : (putL T d v).length = T.length := by cases d <;> simp [putL]
theorem putL_get (T : List Value) {d : Option Tmp} {t : Nat} (v : Value) (h : d ≠ some t) : (putL T d v)[t]? = T[t]? := by
  cases d with
  | none => rfl
  | some d => simp only [putL]; rw [List.getElem?_set_ne (fun e => h (by rw [e]))]

theorem writersR_spec {p : Oper → Nat → Bool} {t : Tmp} : ∀ (l : List Oper) (n : Nat), writersR p t l n = true → ∀ j o, l[j]? = some o → o.dst = some t → p o (n + j) = true := by
  intro l
  induction l with
  | nil => intro n _ j o hj; simp at hj
  | cons x l ih =>
    intro n h j o hj hd
    have h' : (match x.dst with
      | some d => (match Nat.beq d t with
        | true => p x n && writersR p t l (n + 1)
        | false => writersR p t l (n + 1))
      | none => writersR p t l (n + 1)) = true := h
    cases j with
    | zero =>
      simp at hj; subst hj
      rw [hd] at h'
      have hb : Nat.beq t t = true := by simp
      simp only [hb, Bool.and_eq_true] at h'
      exact h'.1
    | succ j =>
      have hr : writersR p t l (n + 1) = true := by
        split at h'
        · split at h'
          · simp only [Bool.and_eq_true] at h'; exact h'.2
          · exact h'
        · exact h'
      have := ih (n + 1) hr j o (by simpa using hj) hd
      rw [show n + (j + 1) = n + 1 + j by omega]; exact this
theorem soleDst_spec {ops : Array Oper} {o : Oper} {i : Nat} (h : soleDst ops o i = true) {t : Nat} (hd : o.dst = some t) {j : Nat} {p : Oper} (hp : ops[j]? = some p) (hpd : p.dst = some t) : j = i := by
  unfold soleDst at h
  simp only [hd] at h
  have := writersR_spec _ _ h j p (by simpa using hp) hpd
  simpa using this
theorem beforeM_eq (md : Region.Mode) (o : Oper) (j : Nat) : beforeM md o j = o.after.toList.any fun e => e.on == j && Region.binds md e := by
  simp only [beforeM, anyR_eq]
  congr 1
  funext e
  rw [show Nat.beq e.on j = (e.on == j) from by rw [Bool.eq_iff_iff]; simp]
theorem getR_arr {ops : Array Oper} {i : Nat} : getR ops.toList i = ops[i]? := by rw [getR_eq]; simp
theorem anyR_mem {i : Nat} {l : List Nat} : anyR (Nat.beq i) l = true ↔ i ∈ l := by
  rw [anyR_eq]; simp

theorem drawOk_sole {md : Region.Mode} {ops : Array Oper} {o : Oper} {i : Nat} (h : drawOk md ops o i = true) : soleDst ops o i = true := by
  simp only [drawOk, Bool.and_eq_true] at h; exact h.1.2

theorem evPre_recs {Sg : List Blk} {cl : Caller} (hcl : ClOk P Sg cl) {md : Region.Mode} {ops : Array Oper} : ∀ (l done : List Nat) (T Tm : List Value) (S Sm : List Blk), Sg.length ≤ S.length → preOk md ops done l = true →
    evPre P Sg.length cl ops l T S = some (Tm, Sm) →
    ∃ recs : List Rec, recs.map (·.i) = l ∧ Ext S.length S Sm ∧ Tm.length = T.length ∧ (∀ c ∈ recs, RecOk P Sg cl md ops T S Sm c) ∧
      recs.Pairwise (fun c d => c.S'.length ≤ d.S.length ∧ c.i ∈ d.done ∧ ∀ x ∈ c.done, x ∈ d.done) ∧ (∀ c ∈ recs, ∀ x ∈ done, x ∈ c.done) ∧
      (∀ c ∈ recs, ∀ x ∈ c.done, x ∈ done ∨ ∃ d ∈ recs, d.i = x) ∧
      (∀ c ∈ recs, Holds recs (fun d => d.i ∈ c.done) T c.T) ∧ Holds recs (fun _ => True) T Tm := by
  intro l
  induction l with
  | nil =>
    intro done T Tm S Sm _ _ h
    cases h
    exact ⟨[], rfl, Ext.refl _ _, rfl, by simp, by simp, by simp, by simp, by simp, by simp [Holds]⟩
  | cons i l ih =>
    intro done T Tm S Sm hS hok h
    simp only [evPre, putK_eq] at h
    simp only [preOk] at hok
    split at h
    · rename_i o ho
      rw [ho] at hok
      rw [getR_arr] at ho
      · have hc := hok
        simp only [Bool.and_eq_true] at hc
        obtain ⟨⟨⟨c1, c2⟩, c3⟩, c4⟩ := hc
        split at h
        · rename_i v S1 hr
          have hx := opRes_ext hcl hS hS hr
          obtain ⟨recs, r1, r2, r3, r4, r5, r6, r7, r8, r9⟩ := ih (i :: done) (putL T o.dst v) Tm S1 Sm (Nat.le_trans hS hx.1) c4 h
          have hS1 : Ext S.length S Sm := ⟨Nat.le_trans hx.1 r2.1, fun b e1 e2 => by rw [r2.2 b (Nat.lt_of_lt_of_le e2 hx.1) (Nat.lt_of_lt_of_le e2 hx.1), hx.2 b e1 e2]⟩
          have hnd : i ∉ done := fun e => by rw [anyR_mem.2 e] at c3; cases c3
          let c0 : Rec := ⟨i, o, T, S, v, S1, done⟩
          have hsole := drawOk_sole c1
          have hne : ∀ c ∈ recs, c.i ≠ i := fun c hc e => (r4 c hc).new (by rw [e]; exact r6 c hc i (by simp))
          have lift : ∀ (d : Rec → Prop) (T' : List Value), d c0 → Holds recs d (putL T o.dst v) T' → Holds (c0 :: recs) d T T' := by
            intro d T' hd0 hh
            refine ⟨fun c hc hdc t hdst ht => ?_, fun t hall => ?_⟩
            · cases hc with
              | head =>
                have hother : ∀ c ∈ recs, d c → c.o.dst ≠ some t := fun c hc _ e => hne c hc (soleDst_spec hsole (show o.dst = some t from hdst) (r4 c hc).op e)
                rw [hh.2 t hother]
                have hdst' : o.dst = some t := hdst
                simp only [hdst', putL]
                rw [List.getElem?_set_self ht]
              | tail _ hm => exact hh.1 c hm hdc t hdst (by rw [putL_len]; exact ht)
            · rw [hh.2 t fun c hc hdc => hall c (List.mem_cons_of_mem _ hc) hdc, putL_get _ _ (hall c0 (List.mem_cons_self ..) hd0)]
          refine ⟨c0 :: recs, by simp [r1, c0], hS1, by rw [r3, putL_len], ?_, ?_, ?_, ?_, ?_, ?_⟩
          · intro c hc
            cases hc with
            | head => exact ⟨ho, c1, c2, hnd, hr, Ext.refl _ _, hx, r2, rfl⟩
            | tail _ hm =>
              have k := r4 c hm
              exact ⟨k.op, k.draw, k.edges, k.new, k.res, ⟨Nat.le_trans hx.1 k.lo.1, fun b e1 e2 => by rw [k.lo.2 b (Nat.lt_of_lt_of_le e2 hx.1) (Nat.lt_of_lt_of_le e2 hx.1), hx.2 b e1 e2]⟩, k.mid, k.hi, by rw [k.len, putL_len]⟩
          · refine List.Pairwise.cons (fun d hd => ⟨(r4 d hd).lo.1, r6 d hd i (by simp), fun x hx => r6 d hd x (List.mem_cons_of_mem _ hx)⟩) r5
          · intro c hc x hx
            cases hc with
            | head => exact hx
            | tail _ hm => exact r6 c hm x (List.mem_cons_of_mem _ hx)
          · intro c hc x hx
            cases hc with
            | head => exact .inl hx
            | tail _ hm =>
              rcases r7 c hm x hx with h1 | ⟨d, h1, h2⟩
              · cases h1 with
                | head => exact .inr ⟨c0, by simp, rfl⟩
                | tail _ h1 => exact .inl h1
              · exact .inr ⟨d, List.mem_cons_of_mem _ h1, h2⟩
          · intro c hc
            cases hc with
            | head =>
              refine ⟨fun d hd hdd t _ _ => ?_, fun t _ => rfl⟩
              exfalso
              cases hd with
              | head => exact hnd hdd
              | tail _ hm => exact (r4 d hm).new (r6 d hm d.i (List.mem_cons_of_mem _ hdd))
            | tail _ hm => exact lift _ _ (r6 c hm i (by simp)) (r8 c hm)
          · exact lift _ _ trivial r9
        · cases h
    · cases h
end
end Go.Proofs.XX.Vm
