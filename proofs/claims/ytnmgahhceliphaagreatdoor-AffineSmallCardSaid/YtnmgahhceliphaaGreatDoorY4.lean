/- Contracts of closed calls: known arguments, new blocks as results. -/
import Derived.Test.YtnmgahhceliphaaGreatDoorY3
namespace Go.Proofs.XX.Vm
open Go Go.RowKit

theorem callAt_small {P : Program} {Sg : List Blk} (hsg : SgOk Sg) {fl : Nat} {bs : List Nat} {S K KS : List Blk} {f : FuncId} {args0 : List Value} {v0 : Value}
    (h : CallAt P Sg (Sg.length + K.length) f args0 (Sg ++ K) v0 (Sg ++ K ++ KS)) (hl : bs.length = K.length) (hS : Sg.length ≤ S.length)
    (hK : ∀ (i : Nat) k, K[i]? = some k → flatB k = true) (hKS : ∀ k ∈ KS, shB (Sg.length + K.length + KS.length) k = true)
    (hp : ∀ (i b : Nat), bs[i]? = some b → S[b]? = K[i]? ∧ Sg.length ≤ b) (hd : bs.Nodup)
    (ha : args0.all (sh2 (Sg.length + K.length)) = true) (hv : sh3 (Sg.length + K.length + KS.length) v0 = true) :
    CallAt P Sg fl f (args0.map (ren2 (sigF Sg.length bs S.length))) S (ren3 (sigF Sg.length bs S.length) v0) (S ++ KS.map (renB (sigF Sg.length bs S.length))) := by
  have l0 : (Sg ++ K).length = Sg.length + K.length := by simp
  have l1 : (Sg ++ K ++ KS).length = Sg.length + K.length + KS.length := by simp [Nat.add_assoc]
  have sglo : ∀ i, i < Sg.length → sigF Sg.length bs S.length i = i := fun i hi => by simp only [sigF, hi, if_true]
  have sgmi : ∀ i, Sg.length ≤ i → i < Sg.length + K.length → ∃ b, bs[i - Sg.length]? = some b ∧ sigF Sg.length bs S.length i = b := by
    intro i h1 h2
    have h3 : i - Sg.length < bs.length := by omega
    refine ⟨bs[i - Sg.length], List.getElem?_eq_getElem h3, ?_⟩
    simp only [sigF, show ¬ i < Sg.length by omega, if_false, List.getElem?_eq_getElem h3]
  have sgnew : ∀ j, sigF Sg.length bs S.length (Sg.length + K.length + j) = S.length + j := by
    intro j
    have h3 : bs[Sg.length + K.length + j - Sg.length]? = none := List.getElem?_eq_none (by omega)
    simp only [sigF, show ¬ Sg.length + K.length + j < Sg.length by omega, if_false, h3]
    omega
  have at0 : ∀ (i : Nat) (y : Blk), (Sg ++ K)[i]? = some y → (i < Sg.length ∧ Sg[i]? = some y) ∨ (Sg.length ≤ i ∧ K[i - Sg.length]? = some y) := by
    intro i y hy
    by_cases h1 : i < Sg.length
    · rw [List.getElem?_append_left h1] at hy; exact .inl ⟨h1, hy⟩
    · rw [List.getElem?_append_right (by omega)] at hy; exact .inr ⟨by omega, hy⟩
  have fl0 : ∀ (i : Nat) (y : Blk), (Sg ++ K)[i]? = some y → flatB y = true := by
    intro i y hy
    rcases at0 i y hy with ⟨_, h2⟩ | ⟨_, h2⟩
    · exact sg_flat hsg h2
    · exact hK _ _ h2
  have inS : ∀ (b i : Nat), bs[i]? = some b → b < S.length := by
    intro b i hb
    have h1 := (hp i b hb).1
    have h2 : i < K.length := by rw [← hl]; exact (List.getElem?_eq_some_iff.1 hb).1
    rw [List.getElem?_eq_getElem h2] at h1
    exact (List.getElem?_eq_some_iff.1 h1).1
  refine callAt_of h ⟨sglo, fun g hg => by rw [List.getElem?_append_left hg], fun j => by rw [l0]; exact sgnew j, fun i hi => ?_, fun i j hi hj e => ?_, fun i h1 h2 => by rw [l0] at h2; omega, by omega, by rw [l0]; omega, by rw [l0]; exact Nat.le_refl _, fun g k hk => flatB_ren (sg_flat hsg hk), fun i k h1 hk => ?_, fun i k hk => flatB_sh (fl0 i k hk) _, fun i k hk => ?_, by rw [l0, l1]; omega, by rw [l0, l1]; simp, fun i k h1 hk => ?_, fun x hx _ => List.getElem?_append_left hx⟩ (by rw [l0]; exact ha) (by rw [l1]; exact hv)
  · rw [l0] at hi
    by_cases h1 : i < Sg.length
    · rw [sglo i h1]; omega
    · obtain ⟨b, hb, e⟩ := sgmi i (by omega) hi
      rw [e]; exact inS b _ hb
  · rw [l0] at hi hj
    by_cases h1 : i < Sg.length
    · rw [sglo i h1] at e
      by_cases h2 : j < Sg.length
      · rw [sglo j h2] at e; exact e
      · obtain ⟨b, hb, e2⟩ := sgmi j (by omega) hj
        have := (hp _ b hb).2
        omega
    · obtain ⟨b, hb, e1⟩ := sgmi i (by omega) hi
      by_cases h2 : j < Sg.length
      · rw [sglo j h2] at e
        have := (hp _ b hb).2
        omega
      · obtain ⟨c, hc, e2⟩ := sgmi j (by omega) hj
        have hbc : b = c := by omega
        subst hbc
        have := (List.getElem?_inj (by omega) hd).1 (hb.trans hc.symm)
        omega
  · rcases at0 i k hk with ⟨h2, _⟩ | ⟨_, h2⟩
    · omega
    · have h3 : i - Sg.length < K.length := (List.getElem?_eq_some_iff.1 h2).1
      obtain ⟨b, hb, e⟩ := sgmi i h1 (by omega)
      rw [e, (hp _ b hb).1, h2, flatB_ren (hK _ _ h2)]
  · rw [l1]
    by_cases h1 : i < (Sg ++ K).length
    · rw [List.getElem?_append_left h1] at hk
      exact flatB_sh (fl0 i k hk) _
    · rw [List.getElem?_append_right (by omega)] at hk
      exact hKS k (List.mem_of_getElem? hk)
  · have h2 : ¬ i < (Sg ++ K).length := by rw [l0]; omega
    rw [List.getElem?_append_right (by omega)] at hk
    rw [l0] at hk
    have e : sigF Sg.length bs S.length i = S.length + (i - (Sg.length + K.length)) := by
      have := sgnew (i - (Sg.length + K.length))
      rwa [show Sg.length + K.length + (i - (Sg.length + K.length)) = i by omega] at this
    rw [e, List.getElem?_append_right (by omega), Nat.add_sub_cancel_left, List.getElem?_map, hk]
    rfl

/-- Where the lists of the arguments lie. -/
def bindC (p a : Value) : List Nat := match p with
  | .slice (some _) _ _ => match a with
    | .slice (some ⟨b, _, _⟩) _ _ => [b]
    | _ => []
  | _ => []
def bindL (p a : List Value) : List Nat := match p, a with
  | v :: l, u :: m => bindC v u ++ bindL l m
  | _, _ => []
def bindV (p a : Value) : List Nat := match p with
  | .agg x => match a with
    | .agg y => bindL x.toList y.toList
    | _ => []
  | _ => bindC p a
def bindA (p a : List Value) : List Nat := match p, a with
  | v :: l, u :: m => bindV v u ++ bindA l m
  | _, _ => []
abbrev KL := List (TypeId × List Int)
def blkK (l : KL) : List Blk := l.map fun p => intB p.1 p.2
noncomputable def thereK (S : List Blk) (g : Nat) : List Nat → KL → Bool
  | [], [] => true
  | b :: bs, p :: l => isInts p.1 S b p.2 && (Nat.ble g b && (allR (fun x => !Nat.beq x b) bs && thereK S g bs l))
  | _, _ => false
theorem thereK_spec {S : List Blk} {g : Nat} : ∀ {bs : List Nat} {l : KL}, thereK S g bs l = true → bs.length = (blkK l).length ∧ (∀ (i b : Nat), bs[i]? = some b → S[b]? = (blkK l)[i]? ∧ g ≤ b) ∧ bs.Nodup
  | [], [], _ => ⟨rfl, fun i b h => (by cases h), List.nodup_nil⟩
  | b :: bs, p :: l, h => by
    simp only [thereK, Bool.and_eq_true, Nat.ble_eq] at h
    obtain ⟨h1, h2, h3, h4⟩ := h
    obtain ⟨i1, i2, i3⟩ := thereK_spec h4
    refine ⟨by simp [blkK] at i1 ⊢; exact i1, fun i x hx => ?_, List.nodup_cons.2 ⟨fun hm => ?_, i3⟩⟩
    · cases i with
      | zero => cases hx; exact ⟨isInts_eq h1, h2⟩
      | succ i => exact i2 i x hx
    · rw [allR_eq, List.all_eq_true] at h3
      have := h3 b hm
      simp at this
  | [], _ :: _, h => by cases h
  | _ :: _, [], h => by cases h
theorem blkK_flat (l : KL) (i : Nat) (k : Blk) (h : (blkK l)[i]? = some k) : flatB k = true := by
  simp only [blkK, List.getElem?_map, Option.map_eq_some_iff] at h
  obtain ⟨p, _, rfl⟩ := h
  simp only [intB, flatB, Bool.and_true, List.all_eq_true, List.mem_map]
  rintro v ⟨n, _, rfl⟩
  rfl
/-- What a closed call comes to. -/
structure Closed where
  args : List Value
  lists : KL
  val : Value
  news : List Blk
noncomputable def closedD (c : Closed) (g : Nat) (args : List Value) (S : List Blk) : Option OTM :=
  (fun bs => bif thereK S g bs c.lists then (bif leq seq2 (c.args.map (ren2 (sigF g bs (lenR S)))) args then
    appG S (c.news.map (renB (sigF g bs (lenR S)))) fun S' => some (.val (ren3 (sigF g bs (lenR S)) c.val) S') else none) else none) (bindA c.args args)
/-- What is looked at behind the evaluation. -/
noncomputable def seeN (n : Nat) (ms : List Nat) (u : Value) (U : List Blk) : Option (Value × List Blk × List (Option Blk)) := some (u, takeR U n, ms.map (getR U))
/-- The evaluation of a closed call in a small heap, some of the new blocks being kept. -/
def ClosedOk (P : Program) (orc : Orc) (Sg : List Blk) (f : FuncId) (c : Closed) : Prop :=
  ∃ (m : Nat) (ms : List Nat), callInK P (evCodeC P orc Sg m false) (Sg ++ blkK c.lists).length f c.args (Sg ++ blkK c.lists) (seeN (Sg ++ blkK c.lists).length ms) = some (ren3 (sigM (Sg ++ blkK c.lists).length ms) c.val, Sg ++ blkK c.lists, c.news.map fun k => some (renB (sigM (Sg ++ blkK c.lists).length ms) k)) ∧
    (allR (Nat.ble (Sg ++ blkK c.lists).length) ms = true ∧ ms.Nodup) ∧ (c.news.all (fun k => match k.obj with | some .dead => false | _ => true) = true ∧ c.args.all (sh2 (Sg.length + (blkK c.lists).length)) = true) ∧
    (sh3 (Sg.length + (blkK c.lists).length + c.news.length) c.val = true ∧ c.news.all (shB (Sg.length + (blkK c.lists).length + c.news.length)) = true)
theorem callInC_see {P : Program} {orc : Orc} {Sg : List Blk} {α : Type} (hsg : SgOk Sg) (horc : OrcOk P Sg (orcOf orc)) {fl m : Nat} {f : FuncId} {args : List Value} {S : List Blk} {g : Value → List Blk → Option α} {a : α}
    (h : callInK P (evCodeC P orc Sg m false) fl f args S g = some a) (hfl : Sg.length ≤ fl) (hS : Sg.length ≤ S.length) : ∃ v U, g v U = some a ∧ CallAt P Sg fl f args S v U := by
  obtain ⟨v1, U1, h1, h2⟩ := callInK_ok (P := P) (evCodeC_ok m false) _ _ _ _ _ _ h
  exact ⟨v1, U1, h2, callIn_ok (evCode_ok hsg horc m).1 h1 hfl hS⟩
theorem closed_ok {P : Program} {orc : Orc} {Sg : List Blk} (hsg : SgOk Sg) (horc : OrcOk P Sg (orcOf orc)) {f : FuncId} {c : Closed} (h : ClosedOk P orc Sg f c)
    {fl : Nat} {args : List Value} {S S' : List Blk} {q : OTM} {v : Value} (hq : closedD c Sg.length args S = some q) (hv : q.get = some (v, S')) (hS : Sg.length ≤ S.length) : CallAt P Sg fl f args S v S' := by
  unfold closedD at hq
  simp only at hq
  cases ht : thereK S Sg.length (bindA c.args args) c.lists with
  | false => rw [ht] at hq; cases hq
  | true =>
    rw [ht] at hq
    simp only [cond_true] at hq
    cases he : leq seq2 (c.args.map (ren2 (sigF Sg.length (bindA c.args args) (lenR S)))) args with
    | false => rw [he] at hq; cases hq
    | true =>
      rw [he] at hq
      simp only [cond_true, appG_eq, Option.some.injEq] at hq
      subst hq
      simp only [OTM.get, Option.some.injEq, Prod.mk.injEq] at hv
      obtain ⟨rfl, rfl⟩ := hv
      have hargs := leq_eq (fun a b => seq2_eq) he
      obtain ⟨i1, i2, i3⟩ := thereK_spec ht
      obtain ⟨m, ms, e, ⟨hms, hnd⟩, ⟨hlive, hash⟩, hvsh, hnsh⟩ := h
      have l0 : (Sg ++ blkK c.lists).length = Sg.length + (blkK c.lists).length := by simp
      have hall : ∀ (b : Nat) k, (Sg ++ blkK c.lists)[b]? = some k → flatB k = true := by
        intro b k hk
        by_cases h1 : b < Sg.length
        · rw [List.getElem?_append_left h1] at hk; exact sg_flat hsg hk
        · rw [List.getElem?_append_right (by omega)] at hk; exact blkK_flat _ _ _ hk
      obtain ⟨v1, U, e1, hU⟩ := callInC_see (fl := (Sg ++ blkK c.lists).length) hsg horc e (by rw [l0]; omega) (by rw [l0]; omega)
      unfold seeN at e1
      simp only [Option.some.injEq, Prod.mk.injEq, takeR_eq] at e1
      obtain ⟨e2, e3, e4⟩ := e1
      have hlen : ms.length = c.news.length := by have := congrArg List.length e4; simpa using this
      have hkeep := callAt_keepN (KS := c.news) (ms := ms) (v1 := c.val) hU
        (fun b hb => by
          have := List.getElem?_take_of_lt (l := U) hb
          rw [← this, e3]) hlen (fun x hx => by
          rw [allR_eq, List.all_eq_true] at hms
          exact Nat.le_of_ble_eq_true (hms x hx)) hnd (fun j x k hj hk => by
          have h1 : (ms.map (getR U))[j]? = some (getR U x) := by rw [List.getElem?_map, hj]; rfl
          rw [e4, List.getElem?_map, hk] at h1
          simp only [Option.map_some, Option.some.injEq] at h1
          rw [getR_eq] at h1
          refine ⟨h1.symm, fun hd => ?_⟩
          have := (List.all_eq_true.1 hlive) k (List.mem_of_getElem? hk)
          rw [hd] at this
          cases this) e2 (by rw [l0]; exact hash) (by rw [l0]; exact hvsh) (fun b k hk => flatB_sh (hall b k hk) _) (fun k hk => by rw [l0]; exact (List.all_eq_true.1 hnsh) k hk)
      have := callAt_small (fl := fl) (bs := bindA c.args args) (S := S) (K := blkK c.lists) (KS := c.news) hsg (by rw [← l0]; exact hkeep) i1 hS (blkK_flat _) (fun k hk => (List.all_eq_true.1 hnsh) k hk) i2 i3 hash hvsh
      rw [lenR_eq] at hargs ⊢
      rw [hargs] at this
      exact this
noncomputable def closedM (g : Nat) (f : FuncId) : List Closed → MCon
  | [] => ⟨f, fun _ _ _ => none⟩
  | c :: l => ⟨f, fun fl args S => match closedD c g args S with
    | some q => some q
    | none => (closedM g f l).dom fl args S⟩
theorem closedM_f (g : Nat) (f : FuncId) (l : List Closed) : (closedM g f l).f = f := by cases l <;> rfl
theorem closedM_ok {P : Program} {orc : Orc} {Sg : List Blk} (hsg : SgOk Sg) (horc : OrcOk P Sg (orcOf orc)) {f : FuncId} : ∀ {l : List Closed}, (∀ c ∈ l, ClosedOk P orc Sg f c) → MConOk P Sg (closedM Sg.length f l)
  | [], _ => fun fl args S t v S' ht => by cases ht
  | c :: l, h => by
    intro fl args S t v S' ht hg h1 h2
    rw [closedM_f]
    simp only [closedM] at ht
    split at ht
    · rename_i q hq
      cases ht
      exact closed_ok hsg horc (h c (by simp)) hq hg h2
    · have := closedM_ok hsg horc (l := l) (fun d hd => h d (by simp [hd])) fl args S t v S' ht hg h1 h2
      rwa [closedM_f] at this
/-- A call whose arguments bear no address, though they are not all plain (a func with what it has taken in). -/
theorem callAt_pl {P : Program} {orc : Orc} {Sg : List Blk} (hsg : SgOk Sg) (horc : OrcOk P Sg (orcOf orc)) {fl m : Nat} {f : FuncId} {args : List Value} {S : List Blk} {v : Value}
    (h : callInK P (evCodeK P orc Sg m) Sg.length f args Sg (fun u U => some (u, takeR U Sg.length)) = some (v, Sg)) (ha : args.all (sh2 0) = true) (hv : plain v = true) (hS : Sg.length ≤ S.length) : CallAt P Sg fl f args S v S := by
  obtain ⟨v1, U, e1, hU⟩ := callInK_see (fl := Sg.length) hsg horc h (Nat.le_refl _) (Nat.le_refl _)
  simp only [Option.some.injEq, Prod.mk.injEq, takeR_eq] at e1
  obtain ⟨rfl, e2⟩ := e1
  have e3 : U = Sg ++ U.drop Sg.length := by
    have := (List.take_append_drop Sg.length U).symm
    rwa [e2] at this
  rw [e3] at hU
  have ha2 : ∀ n, args.all (sh2 n) = true := fun n => by
    rw [List.all_eq_true] at ha ⊢
    exact fun u hu => sh2_mono (Nat.zero_le n) (ha u hu)
  have hall : ∀ (b : Nat) k, Sg[b]? = some k → flatB k = true := fun b k hk => sg_flat hsg hk
  have hd := callAt_drop hU rfl (ha2 _) (plain_sh hv _) (fun b k hk => flatB_sh (hall b k hk) _) (fun b k hk => flatB_sh (hall b k hk) _)
  have := callAt_flat (N := []) (K := []) hsg (fl := fl) (bs := []) (S := S) (by rw [List.append_nil, List.append_nil]; exact hd) rfl hS (fun i k hk => by cases hk) (fun i k hk => by cases hk) (fun i b hb => by cases hb) List.nodup_nil (ha2 _) (plain_sh hv _)
  rw [ren3_plain hv, List.append_nil] at this
  have e4 : args.map (ren2 (sigF Sg.length [] S.length)) = args := by
    refine (List.map_congr_left fun u hu => ?_).trans (List.map_id' _)
    exact ren2_fix (n := 0) (fun i hi => absurd hi (Nat.not_lt_zero i)) ((List.all_eq_true.1 ha) u hu)
  rw [e4] at this
  exact this
end Go.Proofs.XX.Vm
