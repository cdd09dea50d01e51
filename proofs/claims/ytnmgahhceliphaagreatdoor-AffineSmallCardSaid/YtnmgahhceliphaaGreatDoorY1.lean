/- Contracts of calls whose arguments are integers and lists of integers that are all known: proven by one evaluation in a small heap, they hold wherever the lists lie. -/
import Derived.Test.YtnmgahhceliphaaGreatDoorW4
namespace Go.Proofs.XX.Vm
open Go Go.RowKit

theorem ren2_flat {σ : Nat → Nat} {v : Value} (h : flat v = true) : ren2 σ v = v := by
  by_cases ha : ∃ x, v = .agg x
  · obtain ⟨x, rfl⟩ := ha
    simp only [flat] at h
    show Value.agg (x.map (renS σ)) = Value.agg x
    congr 1
    apply Array.toList_inj.1
    rw [Array.toList_map]
    exact (List.map_congr_left fun v hv => scalar_ren ((List.all_eq_true.1 h) v hv)).trans (List.map_id' _)
  · rw [ren2_of fun x e => ha ⟨x, e⟩]
    exact scalar_ren (by unfold flat at h; split at h; exact absurd rfl (fun e => ha ⟨_, e⟩); exact h)
theorem ren3_plain {σ : Nat → Nat} {v : Value} (h : plain v = true) : ren3 σ v = v := by
  by_cases ha : ∃ x, v = .tuple x
  · obtain ⟨x, rfl⟩ := ha
    simp only [plain] at h
    show Value.tuple (x.map (ren2 σ)) = Value.tuple x
    congr 1
    apply Array.toList_inj.1
    rw [Array.toList_map]
    exact (List.map_congr_left fun v hv => ren2_flat ((List.all_eq_true.1 h) v hv)).trans (List.map_id' _)
  · rw [ren3_of fun x e => ha ⟨x, e⟩]
    exact ren2_flat (by unfold plain at h; split at h; exact absurd rfl (fun e => ha ⟨_, e⟩); exact h)
theorem plain_sh {v : Value} (h : plain v = true) (n : Nat) : sh3 n v = true := by
  have s2 : ∀ u : Value, flat u = true → sh2 n u = true := by
    intro u hu
    by_cases ha : ∃ x, u = .agg x
    · obtain ⟨x, rfl⟩ := ha
      simp only [flat, List.all_eq_true] at hu
      simp only [sh2, List.all_eq_true]
      exact fun w hw => scalar_sh (hu w hw) n
    · rw [sh2_of fun x e => ha ⟨x, e⟩]
      exact scalar_sh (by unfold flat at hu; split at hu; exact absurd rfl (fun e => ha ⟨_, e⟩); exact hu) n
  by_cases ha : ∃ x, v = .tuple x
  · obtain ⟨x, rfl⟩ := ha
    simp only [plain, List.all_eq_true] at h
    simp only [sh3, List.all_eq_true]
    exact fun w hw => s2 w (h w hw)
  · rw [sh3_of fun x e => ha ⟨x, e⟩]
    exact s2 v (by unfold plain at h; split at h; exact absurd rfl (fun e => ha ⟨_, e⟩); exact h)

/-- A block without addresses that is not dead. -/
def flatB (k : Blk) : Bool := k.cells.all scalar && (match k.obj with
  | none => true
  | some (.buf _ _ _) => true
  | some (.bufc _) => true
  | _ => false)
theorem flatB_ren {σ : Nat → Nat} {k : Blk} (h : flatB k = true) : renB σ k = k := by
  obtain ⟨cs, e, ro, ob⟩ := k
  simp only [flatB, Bool.and_eq_true] at h
  simp only [renB, Blk.mk.injEq, and_true]
  exact (List.map_congr_left fun v hv => scalar_ren ((List.all_eq_true.1 h.1) v hv)).trans (List.map_id' _)
theorem flatB_sh {k : Blk} (h : flatB k = true) (n : Nat) : shB n k = true := by
  obtain ⟨cs, e, ro, ob⟩ := k
  simp only [flatB, Bool.and_eq_true] at h
  simp only [shB, Bool.and_eq_true, List.all_eq_true]
  refine ⟨fun v hv => scalar_sh ((List.all_eq_true.1 h.1) v hv) n, ?_⟩
  have := h.2
  split at this <;> first | rfl | cases this
theorem flatB_live {k : Blk} (h : flatB k = true) : k.obj ≠ some .dead := by
  simp only [flatB, Bool.and_eq_true] at h
  intro e
  rw [e] at h
  cases h.2
theorem sg_flat {Sg : List Blk} (hsg : SgOk Sg) {g : Nat} {k : Blk} (h : Sg[g]? = some k) : flatB k = true := by
  have := (List.all_eq_true.1 hsg) k (List.mem_of_getElem? h)
  simp only [Bool.and_eq_true, Option.isNone_iff_eq_none] at this
  simp only [flatB, this.1, this.2, Bool.and_self]

/-- The small heap's blocks behind the variables lie at these. -/
def sigF (g : Nat) (bs : List Nat) (n i : Nat) : Nat := if i < g then i else match bs[i - g]? with
  | some b => b
  | none => n + (i - (g + bs.length))
theorem callAt_flat {P : Program} {Sg : List Blk} (hsg : SgOk Sg) {fl : Nat} {bs : List Nat} {S K N : List Blk} {f : FuncId} {args0 : List Value} {v0 : Value}
    (h : CallAt P Sg Sg.length f args0 (Sg ++ K) v0 (Sg ++ K ++ N)) (hl : bs.length = K.length) (hS : Sg.length ≤ S.length)
    (hK : ∀ (i : Nat) k, K[i]? = some k → flatB k = true) (hN : ∀ (i : Nat) k, N[i]? = some k → flatB k = true)
    (hp : ∀ (i b : Nat), bs[i]? = some b → S[b]? = K[i]? ∧ Sg.length ≤ b ∧ fl ≤ b) (hd : bs.Nodup)
    (ha : args0.all (sh2 (Sg.length + K.length)) = true) (hv : sh3 (Sg.length + K.length + N.length) v0 = true) :
    CallAt P Sg fl f (args0.map (ren2 (sigF Sg.length bs S.length))) S (ren3 (sigF Sg.length bs S.length) v0) (S ++ N) := by
  have l0 : (Sg ++ K).length = Sg.length + K.length := by simp
  have l1 : (Sg ++ K ++ N).length = Sg.length + K.length + N.length := by simp [Nat.add_assoc]
  have sglo : ∀ i, i < Sg.length → sigF Sg.length bs S.length i = i := fun i hi => by simp only [sigF, hi, if_true]
  have sgmi : ∀ i, Sg.length ≤ i → i < Sg.length + K.length → ∃ b, bs[i - Sg.length]? = some b ∧ sigF Sg.length bs S.length i = b := by
    intro i h1 h2
    have h3 : i - Sg.length < bs.length := by omega
    refine ⟨bs[i - Sg.length], List.getElem?_eq_getElem h3, ?_⟩
    simp only [sigF, show ¬ i < Sg.length by omega, if_false, List.getElem?_eq_getElem h3]
  have sgnew : ∀ j, sigF Sg.length bs S.length (Sg.length + K.length + j) = S.length + j := by
    intro j
    have h3 : bs[Sg.length + K.length + j - Sg.length]? = none := List.getElem?_eq_none (by omega)
    simp only [sigF, show ¬ Sg.length + K.length + j < Sg.length by omega, if_false, h3]
    omega
  have at0 : ∀ (i : Nat) (y : Blk), (Sg ++ K)[i]? = some y → (i < Sg.length ∧ Sg[i]? = some y) ∨ (Sg.length ≤ i ∧ K[i - Sg.length]? = some y) := by
    intro i y hy
    by_cases h1 : i < Sg.length
    · rw [List.getElem?_append_left h1] at hy; exact .inl ⟨h1, hy⟩
    · rw [List.getElem?_append_right (by omega)] at hy; exact .inr ⟨by omega, hy⟩
  have fl0 : ∀ (i : Nat) (y : Blk), (Sg ++ K)[i]? = some y → flatB y = true := by
    intro i y hy
    rcases at0 i y hy with ⟨_, h2⟩ | ⟨_, h2⟩
    · exact sg_flat hsg h2
    · exact hK _ _ h2
  have fl1 : ∀ (i : Nat) (y : Blk), (Sg ++ K ++ N)[i]? = some y → flatB y = true := by
    intro i y hy
    by_cases h1 : i < (Sg ++ K).length
    · rw [List.getElem?_append_left h1] at hy; exact fl0 i y hy
    · rw [List.getElem?_append_right (by omega)] at hy; exact hN _ _ hy
  have inS : ∀ (b i : Nat), bs[i]? = some b → b < S.length := by
    intro b i hb
    have h1 := (hp i b hb).1
    have h2 : i < K.length := by rw [← hl]; exact (List.getElem?_eq_some_iff.1 hb).1
    rw [List.getElem?_eq_getElem h2] at h1
    exact (List.getElem?_eq_some_iff.1 h1).1
  refine callAt_of h ⟨sglo, fun g hg => by rw [List.getElem?_append_left hg], fun j => by rw [l0]; exact sgnew j, fun i hi => ?_, fun i j hi hj e => ?_, fun i h1 h2 => ?_, Nat.le_refl _, by rw [l0]; omega, by rw [l0]; omega, fun g k hk => flatB_ren (sg_flat hsg hk), fun i k h1 hk => ?_, fun i k hk => flatB_sh (fl0 i k hk) _, fun i k hk => flatB_sh (fl1 i k hk) _, by rw [l0, l1]; omega, by rw [l0, l1]; simp, fun i k h1 hk => ?_, fun x hx _ => List.getElem?_append_left hx⟩ (by rw [l0]; exact ha) (by rw [l1]; exact hv)
  · rw [l0] at hi
    by_cases h1 : i < Sg.length
    · rw [sglo i h1]; omega
    · obtain ⟨b, hb, e⟩ := sgmi i (by omega) hi
      rw [e]; exact inS b _ hb
  · rw [l0] at hi hj
    by_cases h1 : i < Sg.length
    · rw [sglo i h1] at e
      by_cases h2 : j < Sg.length
      · rw [sglo j h2] at e; exact e
      · obtain ⟨b, hb, e2⟩ := sgmi j (by omega) hj
        have := (hp _ b hb).2.1
        omega
    · obtain ⟨b, hb, e1⟩ := sgmi i (by omega) hi
      by_cases h2 : j < Sg.length
      · rw [sglo j h2] at e
        have := (hp _ b hb).2.1
        omega
      · obtain ⟨c, hc, e2⟩ := sgmi j (by omega) hj
        have hbc : b = c := by omega
        subst hbc
        have := (List.getElem?_inj (by omega) hd).1 (hb.trans hc.symm)
        omega
  · rw [l0] at h2
    obtain ⟨b, hb, e⟩ := sgmi i h1 h2
    rw [e]; exact (hp _ b hb).2.2
  · rcases at0 i k hk with ⟨h2, _⟩ | ⟨_, h2⟩
    · omega
    · have h3 : i - Sg.length < K.length := (List.getElem?_eq_some_iff.1 h2).1
      obtain ⟨b, hb, e⟩ := sgmi i h1 (by omega)
      rw [e, (hp _ b hb).1, h2, flatB_ren (hK _ _ h2)]
  · by_cases h2 : i < (Sg ++ K).length
    · rw [List.getElem?_append_left h2] at hk
      rcases at0 i k hk with ⟨h3, _⟩ | ⟨_, h3⟩
      · omega
      · have h4 : i - Sg.length < K.length := (List.getElem?_eq_some_iff.1 h3).1
        obtain ⟨b, hb, e⟩ := sgmi i h1 (by omega)
        rw [e, List.getElem?_append_left (inS b _ hb), (hp _ b hb).1, h3, flatB_ren (hK _ _ h3)]
    · rw [List.getElem?_append_right (by omega)] at hk
      rw [l0] at hk h2
      have e : sigF Sg.length bs S.length i = S.length + (i - (Sg.length + K.length)) := by
        have := sgnew (i - (Sg.length + K.length))
        rwa [show Sg.length + K.length + (i - (Sg.length + K.length)) = i by omega] at this
      rw [e, List.getElem?_append_right (by omega), Nat.add_sub_cancel_left, hk, flatB_ren (hN _ _ hk)]

/-- Known arguments. -/
inductive Arg where
  | l (L : List Int)
  | i (n : Int)
def intB (t : TypeId) (L : List Int) : Blk := ⟨L.map (Value.int .i64), t, false, none⟩
def argV : Nat → List Arg → List Value
  | _, [] => []
  | j, .l L :: as => .slice (some ⟨j, 0, none⟩) L.length L.length :: argV (j + 1) as
  | j, .i n :: as => .int .i64 n :: argV j as
def argK (t : TypeId) : List Arg → List Blk
  | [] => []
  | .l L :: as => intB t L :: argK t as
  | .i _ :: as => argK t as
def eqInts : List Value → List Int → Bool
  | [], [] => true
  | .int .i64 a :: cs, b :: L => a == b && eqInts cs L
  | _, _ => false
theorem eqInts_eq : ∀ {cs : List Value} {L : List Int}, eqInts cs L = true → cs = L.map (Value.int .i64) := by
  intro cs
  induction cs with
  | nil => intro L h; cases L with
    | nil => rfl
    | cons _ _ => cases h
  | cons v cs ih => intro L h; cases L with
    | nil => simp [eqInts] at h
    | cons b L =>
      unfold eqInts at h
      split at h
      · rename_i e1 _; cases e1
      · rename_i a cs2 b2 L2 e1 e2
        cases e1; cases e2
        simp only [Bool.and_eq_true, beq_iff_eq] at h
        rw [h.1, ih h.2]; rfl
      · cases h
noncomputable def isInts (t : TypeId) (S : List Blk) (b : Nat) (L : List Int) : Bool :=
  match getR S b with
  | some ⟨cs, e, false, none⟩ => Nat.beq e t && eqInts cs L
  | _ => false
theorem isInts_eq {t : TypeId} {S : List Blk} {b : Nat} {L : List Int} (h : isInts t S b L = true) : S[b]? = some (intB t L) := by
  unfold isInts at h
  rw [getR_eq] at h
  split at h
  · rename_i cs e hb
    simp only [Bool.and_eq_true, Nat.beq_eq] at h
    obtain ⟨rfl, h2⟩ := h
    rw [hb, eqInts_eq h2]; rfl
  · cases h
/-- Where the lists lie, if the arguments are these. -/
noncomputable def matchA (t : TypeId) (g fl : Nat) (S : List Blk) : List Arg → List Value → Option (List Nat)
  | [], [] => some []
  | .l L :: as, .slice (some ⟨b, 0, none⟩) n c :: vs => match isInts t S b L && (Nat.beq n L.length && (Nat.beq c L.length && (Nat.ble fl b && Nat.ble g b))) with
    | true => match matchA t g fl S as vs with
      | some bs => match allR (fun x => !Nat.beq x b) bs with
        | true => some (b :: bs)
        | false => none
      | none => none
    | false => none
  | .i n :: as, .int .i64 m :: vs => match n == m with
    | true => matchA t g fl S as vs
    | false => none
  | _, _ => none
theorem matchA_spec {t : TypeId} {g fl : Nat} {S : List Blk} : ∀ {as : List Arg} {vs : List Value} {bs : List Nat}, matchA t g fl S as vs = some bs →
    bs.length = (argK t as).length ∧ (∀ (i b : Nat), bs[i]? = some b → S[b]? = (argK t as)[i]? ∧ g ≤ b ∧ fl ≤ b) ∧ bs.Nodup ∧
    ∀ (j : Nat) (σ : Nat → Nat), (∀ (i b : Nat), bs[i]? = some b → σ (j + i) = b) → vs = (argV j as).map (ren2 σ) := by
  intro as
  induction as with
  | nil =>
    intro vs bs h
    cases vs with
    | nil => cases h; exact ⟨rfl, fun i b hb => (by cases hb), List.nodup_nil, fun _ _ _ => rfl⟩
    | cons _ _ => cases h
  | cons a as ih =>
    intro vs bs h
    unfold matchA at h
    split at h
    · rename_i e1; cases e1
    · rename_i L as2 b n c vs2 e1
      cases e1
      split at h
      · rename_i hc
        split at h
        · rename_i bs2 hm
          split at h
          · rename_i hd
            cases h
            simp only [Bool.and_eq_true, Nat.beq_eq, Nat.ble_eq] at hc
            obtain ⟨h1, rfl, rfl, h2, h3⟩ := hc
            obtain ⟨i1, i2, i3, i4⟩ := ih hm
            refine ⟨by simp [argK, i1], fun i x hx => ?_, List.nodup_cons.2 ⟨fun hmem => ?_, i3⟩, fun j σ hσ => ?_⟩
            · cases i with
              | zero => cases hx; exact ⟨isInts_eq h1, h3, h2⟩
              | succ i => exact i2 i x hx
            · rw [allR_eq, List.all_eq_true] at hd
              have := hd b hmem
              simp at this
            · have e : σ j = b := by simpa using hσ 0 b rfl
              rw [i4 (j + 1) σ fun i x hx => by rw [show j + 1 + i = j + (i + 1) by omega]; exact hσ (i + 1) x hx]
              simp only [argV, List.map_cons, ren2, renS, e]
          · cases h
        · cases h
      · cases h
    · rename_i n as2 m vs2 e1
      cases e1
      split at h
      · rename_i hc
        rw [beq_iff_eq] at hc
        subst hc
        obtain ⟨i1, i2, i3, i4⟩ := ih h
        exact ⟨i1, i2, i3, fun j σ hσ => by rw [i4 j σ hσ]; rfl⟩
      · cases h
    · cases h
theorem argK_flat {t : TypeId} : ∀ (as : List Arg) (i : Nat) (k : Blk), (argK t as)[i]? = some k → flatB k = true := by
  intro as
  induction as with
  | nil => intro i k h; cases h
  | cons a as ih =>
    intro i k h
    cases a with
    | l L =>
      cases i with
      | zero =>
        cases h
        simp only [intB, flatB, Bool.and_true, List.all_eq_true, List.mem_map]
        rintro v ⟨n, _, rfl⟩
        rfl
      | succ i => exact ih i k h
    | i n => exact ih i k h
theorem argV_sh {t : TypeId} : ∀ (as : List Arg) (j n : Nat), j + (argK t as).length ≤ n → (argV j as).all (sh2 n) = true := by
  intro as
  induction as with
  | nil => intro j n _; rfl
  | cons a as ih =>
    intro j n h
    cases a with
    | l L =>
      simp only [argK, List.length_cons] at h
      simp only [argV, List.all_cons, Bool.and_eq_true]
      exact ⟨by simp only [sh2, sh1, Nat.blt_eq]; omega, ih (j + 1) n (by omega)⟩
    | i m => simp only [argV, List.all_cons, Bool.and_eq_true]; exact ⟨rfl, ih j n h⟩

/-- What comes out: a value without addresses; or a list that is new, and an error. -/
inductive Res where
  | v (x : Value)
  | l (n c : Nat) (k : Blk) (e : Int)
noncomputable def caseD (t : TypeId) (g : Nat) (as : List Arg) (r : Res) (fl : Nat) (args : List Value) (S : List Blk) : Option OTM :=
  match matchA t g fl S as args with
  | some _ => match r with
    | .v x => some (.val x S)
    | .l n c k e => newK S k fun b S' => some (.val (.tuple #[.slice (some ⟨b, 0, none⟩) n c, .int .i64 e]) S')
  | none => none
/-- What is looked at behind the evaluation. -/
noncomputable def seeL (n : Nat) (u : Value) (U : List Blk) : Option (Bool × Nat × Nat × Value × List Blk × Option Blk) :=
  match u with
  | .tuple x => match x.toList with
    | [.slice (some ⟨m, 0, none⟩) ln cp, e] => some (Nat.ble n m, ln, cp, e, takeR U n, getR U m)
    | _ => none
  | _ => none
def resOk (P : Program) (orc : Orc) (Sg : List Blk) (t : TypeId) (f : FuncId) (as : List Arg) : Res → Prop
  | .v x => plain x = true ∧ ∃ m, callInK P (evCodeK P orc Sg m) Sg.length f (argV Sg.length as) (Sg ++ argK t as) (fun u U => some (u, takeR U (Sg ++ argK t as).length)) = some (x, Sg ++ argK t as)
  | .l n c k e => flatB k = true ∧ ∃ m, callInK P (evCodeK P orc Sg m) Sg.length f (argV Sg.length as) (Sg ++ argK t as) (seeL (Sg ++ argK t as).length) = some (true, n, c, .int .i64 e, Sg ++ argK t as, some k)
theorem case_ok {P : Program} {orc : Orc} {Sg : List Blk} (hsg : SgOk Sg) (horc : OrcOk P Sg (orcOf orc)) {t : TypeId} {f : FuncId} {as : List Arg} {r : Res} (h : resOk P orc Sg t f as r)
    {fl : Nat} {args : List Value} {S S' : List Blk} {q : OTM} {v : Value} (hq : caseD t Sg.length as r fl args S = some q) (hv : q.get = some (v, S')) (hS : Sg.length ≤ S.length) : CallAt P Sg fl f args S v S' := by
  unfold caseD at hq
  split at hq
  case h_2 => cases hq
  rename_i bs hm
  obtain ⟨i1, i2, i3, i4⟩ := matchA_spec hm
  have hargs := i4 Sg.length (sigF Sg.length bs S.length) fun i b hb => by
    simp only [sigF, show ¬ Sg.length + i < Sg.length by omega, if_false, Nat.add_sub_cancel_left, hb]
  have l0 : (Sg ++ argK t as).length = Sg.length + (argK t as).length := by simp
  have hall : ∀ (b : Nat) k, (Sg ++ argK t as)[b]? = some k → flatB k = true := by
    intro b k hk
    by_cases h1 : b < Sg.length
    · rw [List.getElem?_append_left h1] at hk; exact sg_flat hsg hk
    · rw [List.getElem?_append_right (by omega)] at hk; exact argK_flat as _ _ hk
  have hash : (argV Sg.length as).all (sh2 (Sg ++ argK t as).length) = true := argV_sh (t := t) as _ _ (by rw [l0]; exact Nat.le_refl _)
  cases r with
  | v x =>
    cases hq
    simp only [OTM.get, Option.some.injEq, Prod.mk.injEq] at hv
    obtain ⟨rfl, rfl⟩ := hv
    obtain ⟨hx, m, e⟩ := h
    obtain ⟨v1, U, e1, hU⟩ := callInK_see (fl := Sg.length) hsg horc e (Nat.le_refl _) (by rw [l0]; omega)
    simp only [Option.some.injEq, Prod.mk.injEq, takeR_eq] at e1
    obtain ⟨rfl, e2⟩ := e1
    have e3 : U = (Sg ++ argK t as) ++ U.drop (Sg ++ argK t as).length := by
      have := (List.take_append_drop (Sg ++ argK t as).length U).symm
      rwa [e2] at this
    rw [e3] at hU
    have hd := callAt_drop hU rfl hash (plain_sh hx _) (fun b k hk => flatB_sh (hall b k hk) _) (fun b k hk => flatB_sh (hall b k hk) _)
    have := callAt_flat (N := []) hsg (fl := fl) (bs := bs) (S := S) (by rw [List.append_nil]; exact hd) i1 hS (argK_flat as) (fun i k hk => by cases hk) i2 i3 (by rw [← l0]; exact hash) (plain_sh hx _)
    rw [ren3_plain hx, List.append_nil, ← hargs] at this
    exact this
  | l n c kb e =>
    simp only [newK_eq, Option.some.injEq] at hq
    subst hq
    simp only [OTM.get, Option.some.injEq, Prod.mk.injEq] at hv
    obtain ⟨rfl, rfl⟩ := hv
    obtain ⟨hk, m, e1⟩ := h
    obtain ⟨v1, U, e2, hU⟩ := callInK_see (fl := Sg.length) hsg horc e1 (Nat.le_refl _) (by rw [l0]; omega)
    unfold seeL at e2
    split at e2
    case h_2 => cases e2
    rename_i x
    split at e2
    case h_2 => cases e2
    rename_i m2 ln cp ee hxl
    simp only [Option.some.injEq, Prod.mk.injEq, takeR_eq, getR_eq, Nat.ble_eq] at e2
    obtain ⟨hm2, rfl, rfl, rfl, e3, e4⟩ := e2
    have hlen : (Sg ++ argK t as).length ≤ U.length := by
      have := (List.getElem?_eq_some_iff.1 e4).1
      omega
    have hsmall := callAt_keep (S' := Sg ++ argK t as) (m := m2) (kb := kb) (v1 := .tuple #[.slice (some ⟨(Sg ++ argK t as).length, 0, none⟩) ln cp, .int .i64 e]) hU rfl
      (fun b hb => by
        have := List.getElem?_take_of_lt (l := U) hb
        rw [← this, e3]) hm2 (by rw [flatB_ren hk]; exact e4) (flatB_live hk) (by
        obtain ⟨l⟩ := x
        simp only at hxl
        subst hxl
        simp [ren3, ren2, renS, sigK]) hash (by simp [sh3, sh2, sh1, Nat.blt_eq]) (fun b k hk => flatB_sh (hall b k hk) _) (fun b k hk => flatB_sh (hall b k hk) _) (flatB_sh hk _)
    have := callAt_flat (N := [kb]) hsg (fl := fl) (bs := bs) (S := S) hsmall i1 hS (argK_flat as) (fun i k hk2 => by
        cases i with
        | zero => cases hk2; exact hk
        | succ i => cases hk2) i2 i3 (by rw [← l0]; exact hash) (by simp [sh3, sh2, sh1, Nat.blt_eq])
    rw [← hargs] at this
    have e5 : ren3 (sigF Sg.length bs S.length) (.tuple #[.slice (some ⟨(Sg ++ argK t as).length, 0, none⟩) ln cp, .int .i64 e]) = .tuple #[.slice (some ⟨S.length, 0, none⟩) ln cp, .int .i64 e] := by
      have : sigF Sg.length bs S.length (Sg ++ argK t as).length = S.length := by
        have h3 : bs[(Sg ++ argK t as).length - Sg.length]? = none := List.getElem?_eq_none (by rw [l0]; omega)
        simp only [sigF, show ¬ (Sg ++ argK t as).length < Sg.length by rw [l0]; omega, if_false, h3]
        rw [l0]; omega
      simp only [ren3]
      simp only [List.map_toArray, List.map_cons, List.map_nil, ren2, renS, this]
    rw [e5] at this
    exact this
end Go.Proofs.XX.Vm
