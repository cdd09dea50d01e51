/- A small evaluator over a shadow heap, operations in the world. -/
import Derived.Test.YtnmgahhceliphaaGreatDoorWa
/- A small evaluator over a shadow heap, part 4: an operation that is evaluated is run so. -/
namespace Go.Proofs.XX.Vm
open Go Go.RowKit

section
variable {P : Program} {w : World}

theorem VRel.cells {φ : Ren} {v v' : Value} (h : VRel φ v v') (hj : isJ v = false) : LRel φ v.cells.toList v'.cells.toList := by
  cases h
  case agg hx ex => exact ⟨hx, ex⟩
  case junk => cases hj
  all_goals exact LRel.cons (by constructor <;> assumption) (LRel.nil φ)

/-- Optional operands that say the same. -/
def ORel (φ : Ren) : Option Value → Option Value → Prop
  | none, none => True
  | some v, some v' => VRel φ v v'
  | _, _ => False
theorem bound_rel {φ : Ren} {d : Nat} {lo lo' : Option Value} {q : Bool × Nat} (h : ORel φ lo lo') (hb : bound d lo = some q) : lo' = lo := by
  cases lo with
  | none => cases lo' with
    | none => rfl
    | some _ => exact h.elim
  | some v =>
    cases lo' with
    | none => exact h.elim
    | some v' =>
      cases v <;> simp only [bound] at hb <;> first | (cases hb; done) | skip
      have h' : VRel φ _ v' := h
      cases h'
      rfl
theorem run_bound {v : Value} {d i y : Nat} {c : BoundsCode} (h : bound d (some v) = some (true, i)) (hy : i ≤ y) : (Instr.sliceBound v y c).run P w = .ok i w := by
  cases v <;> simp only [bound] at h <;> first | (cases h; done) | skip
  rename_i k n
  simp only [Option.some.injEq, Prod.mk.injEq, decide_eq_true_eq] at h
  obtain ⟨h1, rfl⟩ := h
  have : 0 ≤ n ∧ n ≤ (y : Int) := ⟨h1, by omega⟩
  simp [Instr.sliceBound, asIntOf, this]
theorem run_sliceE {φ : Ren} {t e : TypeId} {sz b off c : Nat} {v : Value} {lo hi mx lo' hi' mx' : Option Value} {a' : Addr} (hu : P.underlying t = some (.slice e)) (hz : sizeT P e = some sz) (hlo : ORel φ lo lo') (hhi : ORel φ hi hi') (hmx : ORel φ mx mx') (hcu : c ≠ unk)
    (h : sliceW sz b off 0 c lo hi mx = some (true, v)) :
    ∃ v', (Instr.sliceAt t (.slice (some a') 0 c) lo' hi' mx').run P w = .ok v' w ∧ VRel φ v v' := by
  unfold sliceW at h
  split at h
  · rename_i t1 l h1
    rw [bound_rel hlo h1]
    split at h
    · rename_i t2 hh h2
      rw [bound_rel hhi h2]
      have lorun : ∀ code, t1 = true → l = 0 → hh = 0 → (match lo with
          | some v => Instr.sliceBound v hh code
          | none => pure 0 : Sem Nat).run P w = .ok 0 w := by
        intro code ht hl hhz
        subst ht hl hhz
        cases lo with
        | none => rfl
        | some v => exact run_bound h1 (Nat.le_refl _)
      split at h
      · have em : mx' = none := by
          cases mx' with
          | none => rfl
          | some _ => exact hmx.elim
        rw [em]
        simp only [Option.some.injEq, Prod.mk.injEq, Bool.and_eq_true, Nat.ble_eq, Bool.or_eq_true, Nat.beq_eq, Nat.blt_eq] at h
        obtain ⟨⟨⟨⟨⟨rfl, rfl⟩, g1⟩, g2⟩, g3⟩, rfl⟩ := h
        have l0 : l = 0 := by omega
        have h0 : hh = 0 := by omega
        subst l0 h0
        have hrun : (Instr.sliceBounds true 0 c lo hi none).run P w = .ok (0, 0, c) w := by
          cases hi with
          | none =>
            cases lo with
            | none => rfl
            | some v => simp [Instr.sliceBounds, run_bound h1 (Nat.le_refl _)]
          | some hv =>
            have e2 := run_bound (P := P) (w := w) (y := c) (c := .sliceAcap) h2 (by omega)
            cases lo with
            | none => simp [Instr.sliceBounds, e2]
            | some v => simp [Instr.sliceBounds, e2, run_bound h1 (Nat.le_refl _)]
        refine ⟨.slice (some a') 0 c, ?_, ?_⟩
        · simp only [Instr.sliceAt, Instr.slice, Sem.run_bind, run_underlying hu, Result.andThen_ok, hrun, run_sizeT hz, Sem.run_pure]
          simp [Addr.add]
        · have : (bif Nat.beq c unk then unk else c - 0) = c := by
            cases hq : Nat.beq c unk with
            | true => exact (Nat.eq_of_beq_eq_true hq).symm
            | false => rfl
          rw [this]
          exact .empty _ _ _ hcu
      · rename_i mv
        split at h
        · rename_i t3 m h3
          rw [bound_rel hmx h3]
          split at h
          · cases h
          · rename_i hv
            simp only [Option.some.injEq, Prod.mk.injEq, Bool.and_eq_true, Nat.ble_eq, Bool.or_eq_true, Nat.beq_eq, Nat.blt_eq] at h
            obtain ⟨⟨⟨⟨⟨⟨⟨rfl, rfl⟩, rfl⟩, g1⟩, g2⟩, g3⟩, g4⟩, rfl⟩ := h
            have l0 : l = 0 := by omega
            have h0 : hh = 0 := by omega
            have m0 : m = 0 := by omega
            subst l0 h0 m0
            have e3 := run_bound (P := P) (w := w) (y := c) (c := .slice3Acap) h3 (by omega)
            have e2 := run_bound (P := P) (w := w) (y := 0) (c := .slice3B) h2 (by omega)
            have hrun : (Instr.sliceBounds true 0 c lo (some hv) (some mv)).run P w = .ok (0, 0, 0) w := by
              cases lo with
              | none => simp [Instr.sliceBounds, e2, e3]
              | some v => simp [Instr.sliceBounds, e2, e3, run_bound h1 (Nat.le_refl _)]
            refine ⟨.slice (some a') 0 0, ?_, .empty _ _ _ (by decide)⟩
            simp only [Instr.sliceAt, Instr.slice, Sem.run_bind, run_underlying hu, Result.andThen_ok, hrun, run_sizeT hz, Sem.run_pure]
            simp
        · cases h
    · cases h
  · cases h
theorem run_sliceC {φ : Ren} {t : TypeId} {x x' v : Value} {lo hi mx lo' hi' mx' : Option Value} (hx : VRel φ x x') (hlo : ORel φ lo lo') (hhi : ORel φ hi hi') (hmx : ORel φ mx mx') (h : sliceC P t x lo hi mx = some (true, v)) :
    ∃ v', (Instr.sliceAt t x' lo' hi' mx').run P w = .ok v' w ∧ VRel φ v v' := by
  unfold sliceC at h
  split at h
  · rename_i e hu
    split at h
    · rename_i sz hz
      split at h
      case isFalse => cases h
      rename_i hsz1
      rw [Nat.ble_eq] at hsz1
      split at h
      · rename_i b off n c
        have hxc : (∃ (r c' : Nat), x' = .slice (some ⟨r, off, none⟩) n c' ∧ φ b = some r ∧ (c' = c ∨ c = unk) ∧ n ≤ c' ∧ CapOk φ r off c c') ∨ (∃ a' : Addr, c ≠ unk ∧ n = 0 ∧ x' = .slice (some a') 0 c) := by
          cases hx with
          | slice hb hc hn hk => exact .inl ⟨_, _, rfl, hb, hc, hn, hk⟩
          | empty a a' c hcu => exact .inr ⟨_, hcu, rfl, rfl⟩
        rcases hxc with ⟨r, c', rfl, hb, hc, hn, hk⟩ | ⟨a', hcu, rfl, rfl⟩
        case inr => exact run_sliceE hu hz hlo hhi hmx hcu h
        case inl =>
          unfold sliceW at h
          split at h
          · rename_i t1 l h1
            rw [bound_rel hlo h1]
            split at h
            · rename_i t2 hh h2
              rw [bound_rel hhi h2]
              have lowrun : ∀ (tt : Bool) (code : BoundsCode), t1 = true → l ≤ hh → (match lo with
                  | some v => Instr.sliceBound v hh code
                  | none => pure 0 : Sem Nat).run P w = .ok l w := by
                intro tt code ht hl
                subst ht
                cases lo with
                | none => simp only [bound, Option.some.injEq, Prod.mk.injEq, true_and] at h1; subst h1; rfl
                | some v => exact run_bound h1 hl
              split at h
              · have em : mx' = none := by
                  cases mx' with
                  | none => rfl
                  | some _ => exact hmx.elim
                rw [em]
                simp only [Option.some.injEq, Prod.mk.injEq, Bool.and_eq_true, Nat.ble_eq, Bool.or_eq_true, Nat.beq_eq, Nat.blt_eq] at h
                obtain ⟨⟨⟨⟨⟨rfl, rfl⟩, g1⟩, g2⟩, g3⟩, rfl⟩ := h
                have hrun : (Instr.sliceBounds true n c' lo hi none).run P w = .ok (l, hh, c') w := by
                  cases hi with
                  | none =>
                    simp only [bound, Option.some.injEq, Prod.mk.injEq, true_and] at h2
                    subst h2
                    simp only [Instr.sliceBounds, Sem.run_bind, Sem.run_pure, Result.andThen_ok]
                    have := lowrun true .sliceB rfl g1
                    cases lo with
                    | none => simp only [bound, Option.some.injEq, Prod.mk.injEq, true_and] at h1; subst h1; rfl
                    | some v => simp [run_bound h1 g1]
                  | some hv =>
                    have e2 := run_bound (P := P) (w := w) (y := c') (c := .sliceAcap) h2 (by omega)
                    cases lo with
                    | none => simp only [bound, Option.some.injEq, Prod.mk.injEq, true_and] at h1; subst h1; simp [Instr.sliceBounds, e2]
                    | some v => simp [Instr.sliceBounds, e2, run_bound h1 g1]
                refine ⟨.slice (some ⟨r, off + l * sz, none⟩) (hh - l) (c' - l), ?_, .slice hb ?_ (by omega) ?_⟩
                · simp only [Instr.sliceAt, Instr.slice, Sem.run_bind, run_underlying hu, Result.andThen_ok, hrun, run_sizeT hz, Sem.run_pure]
                  by_cases hm : c' = l
                  · have : l = 0 := by omega
                    subst this
                    simp [hm]
                  · simp [hm, Addr.add]
                · rcases hc with h4 | h4
                  · subst h4
                    cases hq : Nat.beq c' unk with
                    | true => exact .inr rfl
                    | false => exact .inl rfl
                  · subst h4; exact .inr rfl
                · intro hne
                  obtain ⟨k1, k3⟩ := hk hne
                  refine ⟨by omega, fun e1 e2 => ?_⟩
                  have hl0 : l = 0 := by
                    rcases Nat.mul_eq_zero.1 (show l * sz = 0 by omega) with h | h
                    · exact h
                    · omega
                  subst hl0
                  have hcu : c = unk := by
                    cases hq : Nat.beq c unk with
                    | true => exact Nat.eq_of_beq_eq_true hq
                    | false =>
                      rw [hq] at e1
                      rcases hc with h5 | h5
                      · have e1' : c - 0 = unk := e1
                        omega
                      · exact h5
                  exact k3 hcu (by omega)
              · rename_i mv
                split at h
                · rename_i t3 m h3
                  rw [bound_rel hmx h3]
                  split at h
                  · cases h
                  · rename_i hv
                    simp only [Option.some.injEq, Prod.mk.injEq, Bool.and_eq_true, Nat.ble_eq, Bool.or_eq_true, Nat.beq_eq, Nat.blt_eq] at h
                    obtain ⟨⟨⟨⟨⟨⟨⟨rfl, rfl⟩, rfl⟩, g1⟩, g2⟩, g3⟩, g4⟩, rfl⟩ := h
                    have e3 := run_bound (P := P) (w := w) (y := c') (c := .slice3Acap) h3 (by omega)
                    have e2 := run_bound (P := P) (w := w) (y := m) (c := .slice3B) h2 g2
                    have hrun : (Instr.sliceBounds true n c' lo (some hv) (some mv)).run P w = .ok (l, hh, m) w := by
                      cases lo with
                      | none => simp only [bound, Option.some.injEq, Prod.mk.injEq, true_and] at h1; subst h1; simp [Instr.sliceBounds, e2, e3]
                      | some v => simp [Instr.sliceBounds, e2, e3, run_bound h1 g1]
                    refine ⟨.slice (some ⟨r, off + l * sz, none⟩) (hh - l) (m - l), ?_, .slice hb (.inl rfl) (by omega) (fun hne => by obtain ⟨k1, _⟩ := hk hne; exact ⟨by omega, fun e1 _ => by omega⟩)⟩
                    simp only [Instr.sliceAt, Instr.slice, Sem.run_bind, run_underlying hu, Result.andThen_ok, hrun, run_sizeT hz, Sem.run_pure]
                    by_cases hm : m = l
                    · have : l = 0 := by omega
                      subst this
                      simp [hm]
                    · simp [hm, Addr.add]
                · cases h
            · cases h
          · cases h
      · cases h
    · cases h
  · cases h

theorem intsOf_get {kd : IntKind} : ∀ {l : List Value} {L : List Int}, intsOf kd l = some L → ∀ (i : Nat) (n : Int), L[i]? = some n → l[i]? = some (.int kd n)
  | [], L, h, i, n, hn => by cases h; cases hn
  | v :: l, L, h, i, n, hn => by
    unfold intsOf at h
    split at h
    · rename_i e; cases e
    · rename_i k m l' e
      cases e
      split at h
      · rename_i hk
        subst hk
        split at h
        · rename_i L' hL
          cases h
          cases i with
          | zero => simp at hn; subst hn; rfl
          | succ i => exact intsOf_get hL i n (by simpa using hn)
        · cases h
      · cases h
    · cases h
theorem sliceInts_world {φ : Ren} {S : List Blk} (good : Good φ S w) {sz b off n c r : Nat} {kd : IntKind} {L : List Int} (h : sliceInts S sz (.slice (some ⟨b, off, none⟩) n c) = some (true, kd, L)) (hb : φ b = some r) :
    L.length = n * sz ∧ ∀ j u, (L.map (Value.int kd))[j]? = some u → w.cell? ((⟨r, off, none⟩ : Addr).add j) = some u := by
  have fin : ∀ (lo : Nat) (L0 : List Int) (cw : Array Value) (e0 : TypeId) (fz : Nat × Nat), w.heap[r]? = some (.cells cw e0 fz) → (∀ (i : Nat) (n : Int), L0[i]? = some n → cw.toList[lo + i]? = some (.int kd n)) → insideI lo L0 off (n * sz) = true → L = (L0.drop (off - lo)).take (n * sz) →
      L.length = n * sz ∧ ∀ j u, (L.map (Value.int kd))[j]? = some u → w.cell? ((⟨r, off, none⟩ : Addr).add j) = some u := by
    intro lo L0 cw e0 fz w1 w2 hin hL
    subst hL
    obtain ⟨i1, i2⟩ := insideI_spec hin
    refine ⟨by simp only [List.length_take, List.length_drop]; omega, fun j u hj => ?_⟩
    rw [List.getElem?_map] at hj
    cases hq : ((L0.drop (off - lo)).take (n * sz))[j]? with
    | none => rw [hq] at hj; cases hj
    | some m =>
      rw [hq] at hj
      cases hj
      have hq2 := take_get hq
      rw [List.getElem?_drop] at hq2
      have := w2 _ _ hq2
      rw [Addr.add_lit, cell_of_heap w1]
      rw [show lo + (off - lo + j) = off + j by omega] at this
      simpa using this
  simp only [sliceInts_eqO, sliceIntsO] at h
  split at h
  · rename_i cs0 e0 ro kd0 lo L0 hk
    simp only [Option.some.injEq, Prod.mk.injEq] at h
    obtain ⟨hin, rfl, hL⟩ := h
    obtain ⟨cw, fz, w1, w2, _⟩ := good.ints hk hb
    exact fin lo L0 cw e0 fz w1 w2 hin hL.symm
  · rename_i cs0 e0 ro kd0 sz0 L0 hk
    simp only [Option.some.injEq, Prod.mk.injEq] at h
    obtain ⟨hin, rfl, hL⟩ := h
    obtain ⟨cw, w1, w2, _⟩ := good.buf hk hb
    exact fin 0 L0 cw e0 (0, 0) w1 w2 hin hL.symm
  · rename_i cs e0 ro hk
    split at h
    · rename_i L0 hi
      simp only [Option.some.injEq, Prod.mk.injEq] at h
      obtain ⟨hin, rfl, hL⟩ := h
      obtain ⟨cw, fz, w1, w2, _⟩ := good.cells hk hb
      refine fin 0 L0 cw e0 fz w1 (fun i m hm => ?_) hin hL.symm
      have h1 := intsOf_get hi i m hm
      obtain ⟨v', h2, h3⟩ := w2.get h1
      cases h3
      rw [Nat.zero_add]
      exact take_get h2
    · cases h
  · cases h
theorem run_sliceQ {φ : Ren} {t : TypeId} {x x' v : Value} {lo hi mx : Option Value} {lo' hi' mx' : Option Value} (hx : VRel φ x x') (hlo : ORel φ lo lo') (hhi : ORel φ hi hi') (hmx : ORel φ mx mx') (h : sliceQ P t x (some lo) (some hi) (some mx) = some v) :
    ∃ v', (Instr.sliceAt t x' lo' hi' mx').run P w = .ok v' w ∧ VRel φ v v' := by
  unfold sliceQ at h
  split at h
  · rename_i kd l e1 e2 e3
    cases e1; cases e2; cases e3
    have m1 : hi' = none := by cases hi' with
      | none => rfl
      | some _ => exact hhi.elim
    have m2 : mx' = none := by cases mx' with
      | none => rfl
      | some _ => exact hmx.elim
    have m3 : lo' = some (.int kd l) := by cases lo' with
      | none => exact hlo.elim
      | some u => have hlo : VRel φ (.int kd l) u := hlo; cases hlo; rfl
    subst m1 m2 m3
    split at h
    · rename_i e hu
      split at h
      · rename_i sz hz
        have key : ∀ (a' : Addr) (n c' : Nat), 0 ≤ l → l.toNat ≤ n → n ≤ c' → (Instr.sliceAt t (.slice (some a') n c') (some (.int kd l)) none none).run P w = .ok (.slice (some (if c' = l.toNat then a' else a'.add (l.toNat * sz))) (n - l.toNat) (c' - l.toNat)) w := by
          intro a' n c' h0 h1 h2
          have hb : (Instr.sliceBound (.int kd l) n .sliceB).run P w = .ok l.toNat w := run_bound (d := 0) (i := l.toNat) (by simp [bound, h0]) h1
          have hrun : (Instr.sliceBounds true n c' (some (.int kd l)) none none).run P w = .ok (l.toNat, n, c') w := by
            simp [Instr.sliceBounds, hb]
          simp only [Instr.sliceAt, Instr.slice, Sem.run_bind, run_underlying hu, Result.andThen_ok, hrun, run_sizeT hz, Sem.run_pure]
          by_cases hm : c' = l.toNat <;> simp [hm]
        split at h
        · rename_i b n c
          split at h
          · rename_i hc
            simp only [Bool.and_eq_true, Nat.ble_eq, Nat.beq_eq, decide_eq_true_eq, Nat.blt_eq] at hc
            obtain ⟨⟨⟨k1, rfl⟩, k3⟩, k4⟩ := hc
            cases h
            cases hx with
            | empty a1 a2 c1 hcu => exact absurd rfl hcu
            | slice hb hcc hn hk =>
              rename_i r c'
              refine ⟨_, key _ _ _ (by omega) (by omega) hn, ?_⟩
              have hne : ¬ c' = l.toNat := by omega
              rw [if_neg hne, Addr.add_lit, Nat.zero_add]
              by_cases h0 : φ.cap r = 0
              · have := VRel.qs (φ := φ) (o := l.toNat * sz) (n := n - l.toNat) (c' := c' - l.toNat) (sz := sz) hb (by rw [h0]; simp) (by omega) (fun h => absurd h0 h)
                rwa [show φ.cap r / unk = 0 by rw [h0]; rfl, Nat.sub_zero] at this
              · obtain ⟨q1, q2⟩ := hk h0
                have q3 := q2 rfl rfl
                have q4 : φ.cap r / unk = 0 := Nat.div_eq_of_lt (by omega)
                have q5 : φ.cap r % unk = c' := by rw [Nat.mod_eq_of_lt (by omega)]; exact q3.symm
                have := VRel.qs (φ := φ) (o := l.toNat * sz) (n := n - l.toNat) (c' := c' - l.toNat) (sz := sz) hb (by omega) (by omega) (fun _ => ⟨by omega, by
                  rw [q4, q5, Nat.sub_zero, ← Nat.add_mul]
                  exact Nat.mul_le_mul_right _ (by omega)⟩)
                rwa [q4, Nat.sub_zero] at this
          · cases h
        · rename_i z b o n c
          split at h
          · rename_i hc
            simp only [Bool.and_eq_true, Nat.ble_eq, Nat.beq_eq, decide_eq_true_eq] at hc
            obtain ⟨⟨⟨rfl, rfl⟩, k3⟩, k4⟩ := hc
            cases h
            cases hx with
            | qs hb hso hn hr =>
              rename_i r c'
              refine ⟨_, key _ _ _ k3 k4 hn, ?_⟩
              cases hq : Nat.beq l.toNat n with
              | true =>
                have : l.toNat = n := Nat.eq_of_beq_eq_true hq
                rw [cond_true, this, Nat.sub_self]
                exact .emptyS _ _ _ _
              | false =>
                have hne1 : l.toNat ≠ n := fun e => by rw [e, Nat.beq_refl] at hq; cases hq
                have hne : ¬ c' = l.toNat := by omega
                rw [cond_false, if_neg hne, Addr.add_lit]
                have := VRel.qs (φ := φ) (o := o + l.toNat * z) (n := n - l.toNat) (c' := c' - l.toNat) (sz := z) hb (by omega) (by omega) (fun h0 => ⟨by have := (hr h0).1; omega, by
                  have h1 := (hr h0).2
                  have h2 : (c' - l.toNat) * z + l.toNat * z = c' * z := by rw [← Nat.add_mul]; congr 1; omega
                  omega⟩)
                rwa [show o + l.toNat * z - φ.cap r / unk = o - φ.cap r / unk + l.toNat * z by omega] at this
          · cases h
        · cases h
      · cases h
    · cases h
  · cases h
theorem run_sliceZ {φ : Ren} {t : TypeId} {a : Addr} {n c : Nat} {x' v : Value} {lo hi mx lo' hi' mx' : Option Value} (hx : VRel φ (.slice (some a) n c) x') (hlo : ORel φ lo lo') (hhi : ORel φ hi hi') (hmx : ORel φ mx mx') (h : sliceZ P t n c lo hi mx = some (true, v)) :
    ∃ v', (Instr.sliceAt t x' lo' hi' mx').run P w = .ok v' w ∧ VRel φ v v' := by
  unfold sliceZ at h
  split at h
  · rename_i e hu
    split at h
    · rename_i sz hz
      split at h
      · have em : mx' = none := by
          cases mx' with
          | none => rfl
          | some _ => exact hmx.elim
        subst em
        split at h
        · rename_i t1 l h1
          split at h
          · rename_i t2 hh h2
            rw [bound_rel hlo h1, bound_rel hhi h2]
            simp only [Option.some.injEq, Prod.mk.injEq, Bool.and_eq_true, Nat.beq_eq, Nat.ble_eq] at h
            obtain ⟨⟨⟨⟨⟨rfl, rfl⟩, rfl⟩, rfl⟩, hcu⟩, rfl⟩ := h
            have key : ∀ (a' : Addr) (c' : Nat), hh ≤ c' → ∃ b', (Instr.sliceAt t (.slice (some a') hh c') lo hi none).run P w = .ok (.slice (some b') 0 (c' - hh)) w := by
              intro a' c' hc
              have hrun : (Instr.sliceBounds true hh c' lo hi none).run P w = .ok (hh, hh, c') w := by
                cases hi with
                | none =>
                  cases lo with
                  | none => simp only [bound, Option.some.injEq, Prod.mk.injEq, true_and] at h1; subst h1; rfl
                  | some v => simp [Instr.sliceBounds, run_bound h1 (Nat.le_refl _)]
                | some hv =>
                  have e2 := run_bound (P := P) (w := w) (y := c') (c := .sliceAcap) h2 hc
                  cases lo with
                  | none => simp only [bound, Option.some.injEq, Prod.mk.injEq, true_and] at h1; subst h1; simp [Instr.sliceBounds, e2]
                  | some v => simp [Instr.sliceBounds, e2, run_bound h1 (Nat.le_refl _)]
              refine ⟨if c' = hh then a' else a'.add (hh * sz), ?_⟩
              simp only [Instr.sliceAt, Instr.slice, Sem.run_bind, run_underlying hu, Result.andThen_ok, hrun, run_sizeT hz, Sem.run_pure, Nat.sub_self]
              by_cases hm : c' = hh <;> simp [hm]
            have rel : ∀ (b' : Addr) (c' : Nat), (c' = c ∨ c = unk) → VRel φ (emptyV hh c) (.slice (some b') 0 (c' - hh)) := by
              intro b' c' hc
              unfold emptyV
              cases hq : Nat.beq c unk with
              | true => exact .emptyS _ _ _ _
              | false =>
                have hne : c ≠ unk := fun e => by rw [e, Nat.beq_refl] at hq; cases hq
                rcases hc with rfl | hc
                · exact .empty _ _ _ (by omega)
                · exact absurd hc hne
            cases hx with
            | slice hb hc hn hk => obtain ⟨b', r1⟩ := key _ _ hn; exact ⟨_, r1, rel _ _ hc⟩
            | empty a1 a2 c1 h3 => obtain ⟨b', r1⟩ := key _ _ (Nat.zero_le _); exact ⟨_, r1, rel _ _ (.inl rfl)⟩
            | emptyS b0 o0 a2 c2 => obtain ⟨b', r1⟩ := key _ _ (Nat.zero_le _); exact ⟨_, r1, rel _ _ (.inr rfl)⟩
          · cases h
        · cases h
      · cases h
    · cases h
  · cases h
theorem run_appendP {φ : Ren} {fl : Nat} {S S' : List Blk} (good : Good φ S w) (hf : Fresh φ S.length S'.length) {argTypes : Array TypeId} {ty : TypeId} {d d' s s' v : Value} (hd : VRel φ d d') (hs : VRel φ s s') (h : appendP P S argTypes.toList d s = some (v, S')) :
    ∃ v' w' ψ, (Builtin.append_ argTypes ty #[d', s']).run P w = .ok v' w' ∧ VRel ψ v v' ∧ Good ψ S' w' ∧ Step fl φ S w ψ S' w' := by
  rw [appendP_eqO] at h; unfold appendPO at h
  simp only [forceK_eq] at h
  split at h
  · rename_i dv nv k hc
    rw [appendC_eqO] at hc; unfold appendCO at hc
    split at hc
    · rename_i t t2 hat
      split at hc
      · rename_i htt
        subst htt
        have hat' : argTypes = #[t, t] := Array.toList_inj.1 hat
        subst hat'
        split at hc
        · rename_i e hu
          split at hc
          · rename_i i hi
            split at hc
            · rename_i z hz
              split at hc
              · rename_i hcond
                simp only [Bool.and_eq_true, Nat.beq_eq, Nat.ble_eq] at hcond
                obtain ⟨⟨c1, c2⟩, c3⟩ := hcond
                split at hc
                · rename_i d0
                  split at hc
                  · rename_i t1 kd L hsl
                    split at hc
                    · rename_i s0 n c
                      simp only [Option.some.injEq, Prod.mk.injEq, Bool.and_eq_true, Nat.ble_eq] at hc
                      obtain ⟨⟨rfl, c4⟩, rfl, rfl, rfl⟩ := hc
                      have hsv : (s0 = none ∧ n = 0) ∨ ∃ b off, s0 = some ⟨b, off, none⟩ := by
                        rw [sliceInts_eqO] at hsl; unfold sliceIntsO at hsl
                        split at hsl
                        · rename_i heq; cases heq; exact .inl ⟨rfl, rfl⟩
                        · rename_i b off n' c' heq; cases heq; exact .inr ⟨_, _, rfl⟩
                        · cases hsl
                      rcases hsv with ⟨rfl, rfl⟩ | ⟨b, off, rfl⟩
                      · cases hs with
                        | nilSlice =>
                          simp only [lenV, ↓reduceIte] at h
                          cases h
                          refine ⟨d', w, φ, ?_, hd, good, Step.refl _ _ _ _⟩
                          cases hd with
                          | nilSlice => simp [Builtin.append_, run_underlying hu, sizeOf, typeInfo, hi, Builtin.lenOf, Builtin.firstCells]
                          | empty b1 b2 d1 => simp [Builtin.append_, run_underlying hu, sizeOf, typeInfo, hi, Builtin.lenOf, Builtin.firstCells, loadCells, loadCellsFrom, storeCells]
                          | slice hdb hdc hdn hdk =>
                            rename_i rd od sd cd
                            have hcd : cd = 0 := by rcases hdc with rfl | h; rfl; cases h
                            subst hcd
                            simp [Builtin.append_, run_underlying hu, sizeOf, typeInfo, hi, Builtin.lenOf, Builtin.firstCells, loadCells, loadCellsFrom, storeCells]
                      cases hs with
                      | empty a1 a2 c1 =>
                        simp only [lenV, ↓reduceIte] at h
                        cases h
                        refine ⟨d', w, φ, ?_, hd, good, Step.refl _ _ _ _⟩
                        cases hd with
                        | nilSlice => simp [Builtin.append_, run_underlying hu, sizeOf, typeInfo, hi, Builtin.lenOf, Builtin.firstCells, loadCells, loadCellsFrom]
                        | empty b1 b2 d1 => simp [Builtin.append_, run_underlying hu, sizeOf, typeInfo, hi, Builtin.lenOf, Builtin.firstCells, loadCells, loadCellsFrom, storeCells]
                        | slice hdb hdc hdn hdk =>
                          rename_i rd od sd cd
                          have hcd : cd = 0 := by rcases hdc with rfl | h; rfl; cases h
                          subst hcd
                          simp [Builtin.append_, run_underlying hu, sizeOf, typeInfo, hi, Builtin.lenOf, Builtin.firstCells, loadCells, loadCellsFrom, storeCells]
                      | slice hb hcs hns hks =>
                            rename_i r cc
                            obtain ⟨hlen, hnews⟩ := sliceInts_world good hsl hb
                            simp only [lenV] at h
                            by_cases h0 : n = 0
                            · subst h0
                              simp only [↓reduceIte] at h
                              cases h
                              refine ⟨d', w, φ, ?_, hd, good, Step.refl _ _ _ _⟩
                              cases hd with
                              | nilSlice => simp [Builtin.append_, run_underlying hu, sizeOf, typeInfo, hi, Builtin.lenOf, Builtin.firstCells, loadCells, loadCellsFrom]
                              | empty b1 b2 d1 => simp [Builtin.append_, run_underlying hu, sizeOf, typeInfo, hi, Builtin.lenOf, Builtin.firstCells, loadCells, loadCellsFrom, storeCells]
                              | slice hdb hdc hdn hdk =>
                                rename_i rd od sd cd
                                have hcd : cd = 0 := by rcases hdc with rfl | h; rfl; cases h
                                subst hcd
                                simp [Builtin.append_, run_underlying hu, sizeOf, typeInfo, hi, Builtin.lenOf, Builtin.firstCells, loadCells, loadCellsFrom, storeCells]
                            · simp only [h0, ↓reduceIte] at h
                              cases h
                              have hgood : Good φ S w.drew := ⟨good.blk, good.low, good.inj, good.zero, good.room⟩
                              have hnn : φ S.length = none := hf _ (Nat.le_refl _) (by simp)
                              have h63 : ((0 + n : Nat) : Int) ≤ 9223372036854775807 := by omega
                              have hfit0 : n * i.bytes ≤ 140737488355328 := by
                                have := Nat.mul_le_mul c4 c3
                                omega
                              have hz0 : ∀ k, (Builtin.zeroCells z.cells k).size = k * i.size := fun k => by rw [size_zeroCells, c1]
                              have fin : ∀ cells : Array Value, (∃ rest : Array Value, cells = (L.map (Value.int kd)).toArray ++ rest) → ∀ cap, n ≤ cap → cap < unk → cells.size = cap * i.size →
                                  ∃ ψ, VRel ψ (.slice (some ⟨S.length, 0, none⟩) n unk) (.slice (some ⟨w.heap.size, 0, none⟩) n cap) ∧ Good ψ (S ++ [⟨[], e, false, some (.buf kd i.size L)⟩]) (w.drew.alloc (.cells cells e)) ∧
                                    Step fl φ S w ψ (S ++ [⟨[], e, false, some (.buf kd i.size L)⟩]) (w.drew.alloc (.cells cells e)) := by
                                rintro cells ⟨rest, rfl⟩ cap hcap hlt hcs
                                obtain ⟨g1, g2⟩ := hgood.newBuf fl hnn (k := ⟨[], e, false, some (.buf kd i.size L)⟩) (c := cap) (cells := (L.map (Value.int kd)).toArray ++ rest) rfl (by omega) hcs ⟨_, rfl, fun j m hj => by
                                  rw [Array.toList_append, List.getElem?_append_left (by
                                    have := (List.getElem?_eq_some_iff.1 hj).1
                                    simpa using this)]
                                  rw [List.toList_toArray, List.getElem?_map, hj]; rfl, c2⟩
                                have hcp : (bufRen φ S.length w.drew.heap.size cap).cap w.heap.size = cap := by unfold bufRen; simp
                                exact ⟨_, .slice (by unfold bufRen; simp) (.inr rfl) hcap (fun _ => ⟨hlt, fun _ _ => hcp.symm⟩), g1, ⟨g2.ext, g2.caps, g2.dom, g2.len, g2.dead, g2.keep, g2.frame, g2.size, g2.os, g2.tape, g2.output⟩⟩
                              have hmax : ∀ c, grownCap w n c e < unk := fun c => Nat.lt_of_le_of_lt (grownCap_le_maxLen w n c e (by unfold maxLen; omega)) (by decide)
                              have hsz1 : ((L.map (Value.int kd)).toArray ++ Builtin.zeroCells z.cells (grownCap w n 0 e - n)).size = grownCap w n 0 e * i.size := by
                                have := grownCap_ge w n 0 e
                                rw [Array.size_append, hz0, List.size_toArray, List.length_map, hlen, ← Nat.add_mul, show n + (grownCap w n 0 e - n) = grownCap w n 0 e by omega]
                              cases hd with
                              | nilSlice =>
                                have hr := run_append_nil (P := P) w t ty e i z hu hi hz ⟨r, off, none⟩ n cc _ (by simpa using hlen) hnews (by omega) (by omega) (by omega)
                                obtain ⟨ψ, f1, f2, f3⟩ := fin _ ⟨Builtin.zeroCells z.cells (grownCap w n 0 e - n), rfl⟩ _ (grownCap_ge w n 0 e) (hmax 0) hsz1
                                exact ⟨_, _, ψ, hr, f1, f2, f3⟩
                              | empty b1 b2 d1 =>
                                have hr := run_append_grow (P := P) w t ty e i z hu hi hz b2 0 0 [] (by simp) (by simp) ⟨r, off, none⟩ n cc _ (by simpa using hlen) hnews (by omega) h63 (growslice_fits (by omega) (by simpa using hfit0))
                                rw [Nat.zero_add] at hr
                                obtain ⟨ψ, f1, f2, f3⟩ := fin ([].toArray ++ (L.map (Value.int kd)).toArray ++ Builtin.zeroCells z.cells (grownCap w n 0 e - n)) ⟨Builtin.zeroCells z.cells (grownCap w n 0 e - n), by simp⟩ (grownCap w n 0 e) (grownCap_ge w n 0 e) (hmax 0) (by simpa using hsz1)
                                exact ⟨_, _, ψ, hr, f1, f2, f3⟩
                              | slice hdb hdc hdn hdk =>
                                rename_i rd od sd cd
                                have hcd : cd = 0 := by rcases hdc with rfl | h; rfl; cases h
                                subst hcd
                                have hr := run_append_grow (P := P) w t ty e i z hu hi hz ⟨rd, od, sd⟩ 0 0 [] (by simp) (by simp) ⟨r, off, none⟩ n cc _ (by simpa using hlen) hnews (by omega) h63 (growslice_fits (by omega) (by simpa using hfit0))
                                rw [Nat.zero_add] at hr
                                obtain ⟨ψ, f1, f2, f3⟩ := fin ([].toArray ++ (L.map (Value.int kd)).toArray ++ Builtin.zeroCells z.cells (grownCap w n 0 e - n)) ⟨Builtin.zeroCells z.cells (grownCap w n 0 e - n), by simp⟩ (grownCap w n 0 e) (grownCap_ge w n 0 e) (hmax 0) (by simpa using hsz1)
                                exact ⟨_, _, ψ, hr, f1, f2, f3⟩
                    · cases hc
                  · cases hc
                · cases hc
              · cases hc
            · cases hc
          · cases hc
        · cases hc
      · cases hc
    · cases hc
  · cases h
theorem oneCell_ints {kd : IntKind} {L : List Int} : ∀ u ∈ L.map (Value.int kd), u.oneCell' = true := by
  intro u hu
  obtain ⟨n, _, rfl⟩ := List.mem_map.1 hu
  rfl
theorem run_appendD {φ : Ren} {fl : Nat} {S S' : List Blk} (good : Good φ S w) (hf : Fresh φ S.length S'.length) {argTypes : Array TypeId} {ty : TypeId} {d d' s s' v : Value} (hd : VRel φ d d') (hs : VRel φ s s') (h : appendD P fl S argTypes.toList d s = some (v, S')) :
    ∃ v' w' ψ, (Builtin.append_ argTypes ty #[d', s']).run P w = .ok v' w' ∧ VRel ψ v v' ∧ Good ψ S' w' ∧ Step fl φ S w ψ S' w' := by
  rw [appendD_eqO] at h; unfold appendDO at h
  simp only [forceK_eq] at h
  split at h
  case h_2 => cases h
  rename_i t t2 hat
  split at h
  case isFalse => cases h
  rename_i htt
  subst htt
  have hat' : argTypes = #[t, t] := Array.toList_inj.1 hat
  subst hat'
  split at h
  case h_2 => cases h
  rename_i e hu
  split at h
  case h_2 => cases h
  rename_i i hi
  split at h
  case h_2 => cases h
  rename_i z hz
  split at h
  case isFalse => cases h
  rename_i hcond
  simp only [Bool.and_eq_true, Nat.beq_eq, Nat.ble_eq] at hcond
  obtain ⟨⟨c1, c2⟩, c3⟩ := hcond
  split at h
  case h_2 => cases h
  rename_i b n c
  split at h
  case h_2 => cases h
  rename_i cs0 e2 ro kd sz L hk
  split at h
  case h_2 => cases h
  rename_i kd2 Ls hsl
  split at h
  case h_3 => cases h
  case h_2 =>
    rename_i sa sc
    cases h
    have hle : ∀ k, n ≤ k → n + 0 ≤ k := fun k hk => hk
    cases hd with
    | empty a1 a2 c1 hcu =>
      refine ⟨.slice (some a2) 0 c, w, φ, ?_, .empty _ _ _ hcu, good, Step.refl _ _ _ _⟩
      cases hs <;> simp [Builtin.append_, run_underlying hu, sizeOf, typeInfo, hi, Builtin.lenOf, Builtin.firstCells, loadCells, loadCellsFrom, storeCells]
    | slice hb hcd hnd hkd =>
      refine ⟨_, w, φ, ?_, .slice hb hcd hnd hkd, good, Step.refl _ _ _ _⟩
      cases hs <;> simp [Builtin.append_, run_underlying hu, sizeOf, typeInfo, hi, Builtin.lenOf, Builtin.firstCells, loadCells, loadCellsFrom, storeCells, hnd]
  rename_i sa m sc
  split at h
  case isFalse => cases h
  rename_i hc2
  simp only [Bool.and_eq_true, Nat.beq_eq, Nat.ble_eq, decide_eq_true_eq] at hc2
  obtain ⟨⟨⟨⟨⟨⟨rfl, hfl⟩, rfl⟩, rfl⟩, rfl⟩, hL⟩, hN⟩ := hc2
  cases h
  have hbl : b < S.length := (List.getElem?_eq_some_iff.1 hk).1
  have hn : φ S.length = none := hf _ (Nat.le_refl _) (by simp)
  have hlive : ¬ Dead S b := fun d => d.not hk (by simp)
  obtain ⟨sb, soff, rfl⟩ : ∃ sb soff, sa = ⟨sb, soff, none⟩ := by
    rw [sliceInts_eqO] at hsl; unfold sliceIntsO at hsl
    split at hsl
    · rename_i heq; cases heq
    · rename_i heq; cases heq; exact ⟨_, _, rfl⟩
    · cases hsl
  cases hd with
  | empty a1 a2 c1 hcu => exact absurd rfl hcu
  | slice hb hcd hnd hkd =>
    rename_i r c'
    cases hs with
    | slice hb2 hc2 hn2 hk2 =>
      rename_i r2 cc
      obtain ⟨hlen, hnews⟩ := sliceInts_world good hsl hb2
      obtain ⟨cw, w1, w2, w3, w4⟩ := good.buf hk hb
      obtain ⟨hcu, hcq⟩ := hkd w3
      have hc' : c' = φ.cap r := hcq rfl rfl
      let olds := (L.take (n * i.size)).map (Value.int kd2)
      have holen : olds.length = n * i.size := by simp only [olds, List.length_map, List.length_take]; omega
      have holds : ∀ (j : Nat) (u : Value), olds[j]? = some u → cw.toList[j]? = some u := by
        intro j u hj
        simp only [olds, List.getElem?_map] at hj
        cases hq : (L.take (n * i.size))[j]? with
        | none => rw [hq] at hj; cases hj
        | some q =>
          rw [hq] at hj; cases hj
          have := w2 j q (take_get hq)
          rwa [Nat.zero_add] at this
      have hnl : (Ls.map (Value.int kd2)).length = (m + 1) * i.size := by rw [List.length_map]; exact hlen
      have hnew2 : ∀ (rest : Array Value), BRel φ ⟨[], e2, false, some (.buf kd2 i.size (L.take (n * i.size) ++ Ls))⟩ (.cells ((olds.toArray ++ (Ls.map (Value.int kd2)).toArray) ++ rest) e2) := by
        intro rest
        refine ⟨_, rfl, fun j q hj => ?_, c2⟩
        have hmap : (olds ++ Ls.map (Value.int kd2))[j]? = some (.int kd2 q) := by
          rw [show olds ++ Ls.map (Value.int kd2) = (L.take (n * i.size) ++ Ls).map (Value.int kd2) by simp [olds], List.getElem?_map, hj]; rfl
        rw [Array.toList_append, Array.toList_append, List.toList_toArray, List.toList_toArray, List.getElem?_append_left (List.getElem?_eq_some_iff.1 hmap).1]
        exact hmap
      have hmul : (n + (m + 1)) * i.size = n * i.size + (m + 1) * i.size := Nat.add_mul _ _ _
      by_cases hroom : n + (m + 1) ≤ c'
      · have hfit : n * i.size + (Ls.map (Value.int kd2)).length ≤ cw.size := by
          rw [hnl, ← hmul, w4, ← hc']
          exact Nat.mul_le_mul_right _ hroom
        have hr := run_append_room (P := P) w t ty e2 i hu hi r n c' cw w1 ⟨r2, soff, none⟩ (m + 1) cc _ hnl hnews oneCell_ints hroom hfit
        have htk : cw.toList.take (n * i.size) = olds := by
          refine List.ext_getElem? fun j => ?_
          by_cases hj : j < n * i.size
          · rw [List.getElem?_take, if_pos hj]
            have hq : olds[j]? = some (olds[j]'(by rw [holen]; exact hj)) := List.getElem?_eq_getElem _
            rw [hq]; exact holds j _ hq
          · rw [List.getElem?_take, if_neg hj, List.getElem?_eq_none (by rw [holen]; omega)]
        rw [htk] at hr
        generalize hcells : (olds ++ Ls.map (Value.int kd2) ++ cw.toList.drop (n * i.size + (Ls.map (Value.int kd2)).length)).toArray = cells at hr
        have hce : cells = (olds.toArray ++ (Ls.map (Value.int kd2)).toArray) ++ (cw.toList.drop (n * i.size + (Ls.map (Value.int kd2)).length)).toArray := by rw [← hcells]; simp
        have hcsz : cells.size = φ.cap r * i.size := by
          rw [← w4, hce]
          simp only [Array.size_append, List.size_toArray, List.length_drop, Array.length_toList, holen]
          omega
        have hrl : r < w.heap.size := good.low b r hb
        obtain ⟨g1, g2⟩ := good.adopt (w' := w.setRow r cells) (k := ⟨[], e2, false, some (.buf kd2 i.size (L.take (n * i.size) ++ Ls))⟩) hbl hb hfl hlive hn rfl w3 hcsz (by rw [hce]; exact hnew2 _)
          (fun s => by
            by_cases hs : s = r
            · subst hs; rw [if_pos rfl]; exact setRow_heap w s cw cells e2 _ w1
            · rw [if_neg hs]; exact setRow_other w r s cells hs) (by simp) rfl rfl rfl
        refine ⟨_, _, _, hr, .slice (newRen_new _ _ _) (.inr rfl) hroom (fun _ => ⟨hcu, fun _ _ => hc'⟩), g1, g2⟩
      · have hr := run_append_grow (P := P) w t ty e2 i z hu hi hz ⟨r, 0, none⟩ n c' olds holen (fun j u hj => by
          rw [Addr.add_lit, cell_of_heap w1, Nat.zero_add]
          have := holds j u hj
          simpa using this) ⟨r2, soff, none⟩ (m + 1) cc _ hnl hnews (by omega) (by omega) (growslice_fits (by omega) (by
            have := Nat.mul_le_mul hN c3
            omega))
        have hgood : Good φ S w.drew := ⟨good.blk, good.low, good.inj, good.zero, good.room⟩
        obtain ⟨g1, s1⟩ := hgood.turn (w' := w.drew) (fl := fl) (k := deadBlk) (o := .cells cw e2) hbl hb hfl trivial hlive trivial (fun s => by
          by_cases hs : s = r
          · subst hs; rw [if_pos rfl]; exact w1
          · rw [if_neg hs]) rfl rfl rfl rfl
        have hge := grownCap_ge w (n + (m + 1)) c' e2
        have hlt : grownCap w (n + (m + 1)) c' e2 < unk := Nat.lt_of_le_of_lt (grownCap_le_maxLen w _ c' e2 (by unfold maxLen; omega)) (by decide)
        have hl1 : (S.set b deadBlk).length = S.length := by simp
        obtain ⟨g2, s2⟩ := g1.newBuf fl (by rw [hl1]; exact hn) (k := ⟨[], e2, false, some (.buf kd2 i.size (L.take (n * i.size) ++ Ls))⟩) (c := grownCap w (n + (m + 1)) c' e2)
          (cells := olds.toArray ++ (Ls.map (Value.int kd2)).toArray ++ Builtin.zeroCells z.cells (grownCap w (n + (m + 1)) c' e2 - (n + (m + 1)))) rfl (by omega) (by
            rw [Array.size_append, Array.size_append, size_zeroCells, List.size_toArray, List.size_toArray, holen, hnl, c1, ← hmul, ← Nat.add_mul]
            congr 1
            omega) (hnew2 _)
        rw [hl1] at g2 s2
        have s3 := s1.trans s2 (fun x h1 h2 => hf x h1 (by simpa using h2))
        have hcp : (bufRen φ S.length w.drew.heap.size (grownCap w (n + (m + 1)) c' e2)).cap w.heap.size = grownCap w (n + (m + 1)) c' e2 := by unfold bufRen; simp
        exact ⟨_, _, _, hr, .slice (by unfold bufRen; simp) (.inr rfl) hge (fun _ => ⟨hlt, fun _ _ => hcp.symm⟩), g2, ⟨s3.ext, s3.caps, s3.dom, s3.len, s3.dead, s3.keep, s3.frame, s3.size, s3.os, s3.tape, s3.output⟩⟩
theorem appendD_ext {fl : Nat} {S S' : List Blk} {ats : List TypeId} {d s v : Value} (h : appendD P fl S ats d s = some (v, S')) : S' = S ∨ ∃ b k, fl ≤ b ∧ S' = S.set b deadBlk ++ [k] := by
  rw [appendD_eqO] at h; unfold appendDO at h
  simp only [forceK_eq] at h
  repeat' split at h
  all_goals first
    | (cases h; done)
    | (cases h; exact .inl rfl)
    | (rename_i hc2; cases h; simp only [Bool.and_eq_true, Nat.ble_eq] at hc2; exact .inr ⟨_, _, hc2.1.1.1.1.1.2, rfl⟩)
theorem run_append_roomO (w : World) (t ty e : TypeId) (i : TypeInfo) (ht : P.underlying t = some (.slice e)) (hi : P.info? e = some i)
    (g off sLen sCap : Nat) (cur : Array Value) (hg : w.heap[g]? = some (.cells cur e (0, 0)))
    (a : Addr) (m c : Nat) (news : List Value) (hl : news.length = m * i.size) (hnews : ∀ j u, news[j]? = some u → w.cell? (a.add j) = some u) (h1 : ∀ u ∈ news, u.oneCell' = true)
    (hroom : sLen + m ≤ sCap) (hfit : off + sLen * i.size + news.length ≤ cur.size) :
    (Builtin.append_ #[t, t] ty #[.slice (some ⟨g, off, none⟩) sLen sCap, .slice (some a) m c]).run P w =
      .ok (.slice (some ⟨g, off, none⟩) (sLen + m) sCap) (w.setRow g (cur.toList.take (off + sLen * i.size) ++ news ++ cur.toList.drop (off + sLen * i.size + news.length)).toArray) := by
  have hf := run_firstCells_some (P := P) w i.size m a m c news hl hnews
  have hst := run_storeCells_at P g (off + sLen * i.size) e news 0 cur w hg (by simpa using hfit) h1
  simp only [Nat.add_zero] at hst
  simp [Builtin.append_, run_underlying ht, sizeOf, typeInfo, hi, Builtin.lenOf, hroom, hf, Addr.add_lit, hst]
theorem queAt_heap {φ : Ren} {S : List Blk} (good : Good φ S w) {b r : Nat} {e : TypeId} {kd : IntKind} {sz lo : Nat} {L : List Int} (h : queAt S b = some (e, kd, sz, lo, L)) (hb : φ b = some r) :
    b < S.length ∧ ¬ Dead S b ∧ φ.cap r ≠ 0 ∧ φ.cap r / unk ≤ lo ∧ ∃ c, w.heap[r]? = some (.cells c e (0, 0)) ∧ c.size = φ.cap r % unk * sz ∧ ∀ (i : Nat) (n : Int), L[i]? = some n → c.toList[lo - φ.cap r / unk + i]? = some (.int kd n) := by
  unfold queAt at h
  rw [getR_eq] at h
  split at h
  · rename_i cs ro kd2 sz2 L2 hk
    cases h
    have hu := good.bufU hk hb
    obtain ⟨c, h1, h2, h3, h4⟩ := good.buf hk hb
    have hz : φ.cap r / unk = 0 := Nat.div_eq_of_lt hu
    refine ⟨(List.getElem?_eq_some_iff.1 hk).1, fun d => d.not hk (by simp), h3, by omega, c, h1, by rw [Nat.mod_eq_of_lt hu]; exact h4, fun i n hi => by rw [hz]; exact h2 i n hi⟩
  · rename_i cs e0 ro sz2 hk
    split at h
    · rename_i L2 hL
      cases h
      have hu := good.bufcU hk hb
      obtain ⟨c, h1, h2, h3, h4⟩ := good.bufc hk hb
      have hz : φ.cap r / unk = 0 := Nat.div_eq_of_lt hu
      refine ⟨(List.getElem?_eq_some_iff.1 hk).1, fun d => d.not hk (by simp), h3, by omega, c, h1, by rw [Nat.mod_eq_of_lt hu]; exact h4, fun i n hi => ?_⟩
      rw [hz, Nat.sub_self, Nat.zero_add]
      have hcs : cs[i]? = some (.int (kindOf cs) n) := by
        have h9 : cs[i]? = (L.map (Value.int (kindOf cs)))[i]? := congrArg (fun l : List Value => l[i]?) (intsOf_map hL)
        rw [h9, List.getElem?_map, hi]; rfl
      obtain ⟨v', g1, g2⟩ := h2.get hcs
      cases g2
      exact take_get g1
    · cases h
  · rename_i cs ro kd2 sz2 lo2 L2 hk
    cases h
    obtain ⟨h1, h2, c, h3, h4, h5⟩ := good.room _ _ _ hk hb
    exact ⟨(List.getElem?_eq_some_iff.1 hk).1, fun d => d.not hk (by simp), h1, h2, c, h3, h4, h5⟩
  · cases h
theorem run_appendQ {φ : Ren} {fl : Nat} {S S' : List Blk} (good : Good φ S w) (hf : Fresh φ S.length S'.length) {argTypes : Array TypeId} {ty : TypeId} {d d' s s' v : Value} (hd : VRel φ d d') (hs : VRel φ s s') (h : appendQ P fl S argTypes.toList d s = some (v, S')) :
    ∃ v' w' ψ, (Builtin.append_ argTypes ty #[d', s']).run P w = .ok v' w' ∧ VRel ψ v v' ∧ Good ψ S' w' ∧ Step fl φ S w ψ S' w' := by
  unfold appendQ at h
  simp only [appG_eq, setG_eq, newK_eq, takeR_eq, dropR_eq, lenR_eq] at h
  split at h
  case h_2 => cases h
  rename_i t t2 hat
  split at h
  case isFalse => cases h
  rename_i htt
  subst htt
  have hat' : argTypes = #[t, t] := Array.toList_inj.1 hat
  subst hat'
  split at h
  case h_2 => cases h
  rename_i e hu
  split at h
  case h_2 => cases h
  rename_i i hi
  split at h
  case h_2 => cases h
  rename_i z hz
  split at h
  case isFalse => cases h
  rename_i hcond
  simp only [Bool.and_eq_true, Nat.beq_eq, Nat.ble_eq] at hcond
  obtain ⟨⟨c1, c2⟩, c3⟩ := hcond
  split at h
  case h_2 => cases h
  rename_i zz b o n c
  split at h
  case h_2 => cases h
  rename_i e2 kd sz lo L hk
  split at h
  case h_2 => cases h
  rename_i kd2 Ls hsl
  split at h
  case h_2 => cases h
  rename_i sa m sc
  split at h
  case isFalse => cases h
  rename_i hc2
  simp only [Bool.and_eq_true, Nat.beq_eq, Nat.ble_eq, decide_eq_true_eq] at hc2
  obtain ⟨⟨⟨⟨⟨⟨⟨⟨rfl, hfl⟩, rfl⟩, rfl⟩, rfl⟩, rfl⟩, hlo⟩, hL⟩, hN⟩ := hc2
  cases h
  obtain ⟨sb, soff, rfl⟩ : ∃ sb soff, sa = ⟨sb, soff, none⟩ := by
    rw [sliceInts_eqO] at hsl; unfold sliceIntsO at hsl
    split at hsl
    · rename_i heq; cases heq
    · rename_i heq; cases heq; exact ⟨_, _, rfl⟩
    · cases hsl
  have hn : φ S.length = none := hf _ (Nat.le_refl _) (by simp)
  cases hd with
  | qs hb hso hnd hroom0 =>
    rename_i r c'
    cases hs with
    | slice hb2 hc2 hn2 hk2 =>
      rename_i r2 cc
      obtain ⟨hlen, hnews⟩ := sliceInts_world good hsl hb2
      obtain ⟨hbl, hlive, w3, hsl2, cw, w1, w4, w2⟩ := queAt_heap good hk hb
      obtain ⟨hcu, hroom1⟩ := hroom0 w3
      generalize hsh : φ.cap r / unk = sh at *
      let olds := ((L.drop (o - lo)).take (n * i.size)).map (Value.int kd2)
      have holen : olds.length = n * i.size := by simp only [olds, List.length_map, List.length_take, List.length_drop]; omega
      have holds : ∀ (j : Nat) (u : Value), olds[j]? = some u → cw.toList[o - sh + j]? = some u := by
        intro j u hj
        simp only [olds, List.getElem?_map] at hj
        cases hq : ((L.drop (o - lo)).take (n * i.size))[j]? with
        | none => rw [hq] at hj; cases hj
        | some q =>
          rw [hq] at hj; cases hj
          have h5 := take_get hq
          rw [List.getElem?_drop] at h5
          have := w2 _ q h5
          rwa [show lo - sh + (o - lo + j) = o - sh + j by omega] at this
      have hnl : (Ls.map (Value.int kd2)).length = (m + 1) * i.size := by rw [List.length_map]; exact hlen
      have hmul : (n + (m + 1)) * i.size = n * i.size + (m + 1) * i.size := Nat.add_mul _ _ _
      have hmap : ∀ (j : Nat) (q : Int), ((L.drop (o - lo)).take (n * i.size) ++ Ls)[j]? = some q → (olds ++ Ls.map (Value.int kd2))[j]? = some (.int kd2 q) := by
        intro j q hj
        rw [show olds ++ Ls.map (Value.int kd2) = ((L.drop (o - lo)).take (n * i.size) ++ Ls).map (Value.int kd2) by simp [olds], List.getElem?_map, hj]; rfl
      have hl1 : (S.set b deadBlk).length = S.length := by simp
      by_cases hroom : n + (m + 1) ≤ c'
      · have hmul2 : (n + (m + 1)) * i.size ≤ c' * i.size := Nat.mul_le_mul_right _ hroom
        have hfit : o - sh + n * i.size + (Ls.map (Value.int kd2)).length ≤ cw.size := by
          rw [hnl, w4]
          omega
        have hr := run_append_roomO (P := P) w t ty e2 i hu hi r (o - sh) n c' cw w1 ⟨r2, soff, none⟩ (m + 1) cc _ hnl hnews oneCell_ints hroom hfit
        generalize hcells : (cw.toList.take (o - sh + n * i.size) ++ Ls.map (Value.int kd2) ++ cw.toList.drop (o - sh + n * i.size + (Ls.map (Value.int kd2)).length)).toArray = cells at hr
        have hcsz : cells.size = cw.size := by
          rw [← hcells]
          simp only [List.size_toArray, List.length_append, List.length_take, List.length_drop, Array.length_toList]
          omega
        have hcont : ∀ (j : Nat) (q : Int), ((L.drop (o - lo)).take (n * i.size) ++ Ls)[j]? = some q → cells.toList[o - sh + j]? = some (.int kd2 q) := by
          intro j q hj
          have hm := hmap j q hj
          rw [← hcells, List.toList_toArray]
          have htl : (cw.toList.take (o - sh + n * i.size)).length = o - sh + n * i.size := by rw [List.length_take, Array.length_toList]; omega
          by_cases hjo : j < n * i.size
          · rw [List.append_assoc, List.getElem?_append_left (by rw [htl]; omega), List.getElem?_take, if_pos (by omega)]
            rw [List.getElem?_append_left (by rw [holen]; exact hjo)] at hm
            exact holds j _ hm
          · rw [List.getElem?_append_right (by rw [holen]; omega), holen] at hm
            have hjl := (List.getElem?_eq_some_iff.1 hm).1
            rw [List.append_assoc, List.getElem?_append_right (by rw [htl]; omega), htl, List.getElem?_append_left (by omega)]
            rw [show o - sh + j - (o - sh + n * i.size) = j - n * i.size by omega]
            exact hm
        have hheap : ∀ s, (w.setRow r cells).heap[s]? = if s = r then some (.cells cells e2) else w.heap[s]? := fun s => by
          by_cases hs : s = r
          · subst hs; rw [if_pos rfl]; exact setRow_heap w s cw cells e2 _ w1
          · rw [if_neg hs]; exact setRow_other w r s cells hs
        obtain ⟨g1, g2⟩ := good.adoptQ (w' := w.setRow r cells) (k := ⟨[], e2, false, some (.que kd2 i.size o ((L.drop (o - lo)).take (n * i.size) ++ Ls))⟩) hbl hb hfl hlive hn
          ⟨w3, by rw [hsh]; exact hso, cells, by rw [hheap, if_pos rfl], by rw [hcsz, w4], fun j q hj => by rw [hsh]; exact hcont j q hj⟩ ⟨cells, rfl⟩ hheap (by simp) rfl rfl rfl
        refine ⟨_, _, _, hr, ?_, g1, g2⟩
        have := VRel.qs (φ := newRen φ S.length r) (o := o) (n := n + (m + 1)) (c' := c') (sz := i.size) (newRen_new φ S.length r) (show φ.cap r / unk ≤ o by rw [hsh]; exact hso) hroom (fun _ => ⟨hcu, by show o - φ.cap r / unk + c' * i.size ≤ φ.cap r % unk * i.size; rw [hsh]; exact hroom1⟩)
        rw [show o - (newRen φ S.length r).cap r / unk = o - sh by show o - φ.cap r / unk = _; rw [hsh]] at this
        rw [hl1]
        exact this
      · have hr := run_append_grow (P := P) w t ty e2 i z hu hi hz ⟨r, o - sh, none⟩ n c' olds holen (fun j u hj => by
          rw [Addr.add_lit, cell_of_heap w1]
          have := holds j u hj
          simpa using this) ⟨r2, soff, none⟩ (m + 1) cc _ hnl hnews (by omega) (by omega) (growslice_fits (by omega) (by
            have := Nat.mul_le_mul hN c3
            omega))
        have hgood : Good φ S w.drew := ⟨good.blk, good.low, good.inj, good.zero, good.room⟩
        obtain ⟨g1, s1⟩ := hgood.turn (w' := w.drew) (fl := fl) (k := deadBlk) (o := .cells cw e2) hbl hb hfl trivial hlive trivial (fun s => by
          by_cases hs : s = r
          · subst hs; rw [if_pos rfl]; exact w1
          · rw [if_neg hs]) rfl rfl rfl rfl
        have hge := grownCap_ge w (n + (m + 1)) c' e2
        generalize hg : grownCap w (n + (m + 1)) c' e2 = g at *
        have hlt : g < unk := by rw [← hg]; exact Nat.lt_of_le_of_lt (grownCap_le_maxLen w _ c' e2 (by unfold maxLen; omega)) (by decide)
        generalize hcells : olds.toArray ++ (Ls.map (Value.int kd2)).toArray ++ Builtin.zeroCells z.cells (g - (n + (m + 1))) = cells at *
        have hcsz : cells.size = g * i.size := by
          rw [← hcells, Array.size_append, Array.size_append, size_zeroCells, List.size_toArray, List.size_toArray, holen, hnl, c1, ← hmul, ← Nat.add_mul]
          congr 1
          omega
        have q1 : (g + unk * o) / unk = o := by
          rw [Nat.add_mul_div_left _ _ (by decide), Nat.div_eq_of_lt hlt, Nat.zero_add]
        have q2 : (g + unk * o) % unk = g := by
          rw [Nat.add_mul_mod_self_left, Nat.mod_eq_of_lt hlt]
        have hcap : (bufRen φ S.length w.drew.heap.size (g + unk * o)).cap w.drew.heap.size = g + unk * o := by unfold bufRen; simp
        obtain ⟨g2, s2⟩ := g1.newQ fl (by rw [hl1]; exact hn) (k := ⟨[], e2, false, some (.que kd2 i.size o ((L.drop (o - lo)).take (n * i.size) ++ Ls))⟩) (c := g + unk * o) (cells := cells)
          (by
            rw [hl1]
            refine ⟨by rw [hcap]; omega, by rw [hcap, q1]; exact Nat.le_refl _, cells, heap_new _ _, by rw [hcap, q2]; exact hcsz, fun j q hj => ?_⟩
            rw [hcap, q1, Nat.sub_self, Nat.zero_add]
            have hm := hmap j q hj
            rw [← hcells, Array.toList_append, Array.toList_append, List.toList_toArray, List.toList_toArray, List.getElem?_append_left (List.getElem?_eq_some_iff.1 hm).1]
            exact hm) ⟨cells, rfl⟩
        rw [hl1] at g2 s2
        have s3 := s1.trans s2 (fun x h1 h2 => hf x h1 (by simpa using h2))
        refine ⟨_, _, _, hr, ?_, g2, ⟨s3.ext, s3.caps, s3.dom, s3.len, s3.dead, s3.keep, s3.frame, s3.size, s3.os, s3.tape, s3.output⟩⟩
        have := VRel.qs (φ := bufRen φ S.length w.drew.heap.size (g + unk * o)) (o := o) (n := n + (m + 1)) (c' := g) (sz := i.size) (b := S.length) (r := w.drew.heap.size) (by unfold bufRen; simp) (by rw [hcap, q1]; exact Nat.le_refl _) hge (fun _ => ⟨hlt, by rw [hcap, q1, q2]; omega⟩)
        rw [hcap, q1, Nat.sub_self] at this
        rw [hl1]
        exact this
theorem appendQ_ext {fl : Nat} {S S' : List Blk} {ats : List TypeId} {d s v : Value} (h : appendQ P fl S ats d s = some (v, S')) : ∃ b k, fl ≤ b ∧ S' = S.set b deadBlk ++ [k] := by
  unfold appendQ at h
  simp only [appG_eq, setG_eq, newK_eq] at h
  repeat' split at h
  all_goals first
    | (cases h; done)
    | (rename_i hc2; cases h; simp only [Bool.and_eq_true, Nat.ble_eq] at hc2; exact ⟨_, _, hc2.1.1.1.1.1.1.1.2, rfl⟩)
theorem run_appendZ {φ : Ren} {fl : Nat} {S S' : List Blk} (good : Good φ S w) (hf : Fresh φ S.length S'.length) {argTypes : Array TypeId} {ty : TypeId} {d d' s s' v : Value} (hd : VRel φ d d') (hs : VRel φ s s') (h : appendZ P S argTypes.toList d s = some (v, S')) :
    ∃ v' w' ψ, (Builtin.append_ argTypes ty #[d', s']).run P w = .ok v' w' ∧ VRel ψ v v' ∧ Good ψ S' w' ∧ Step fl φ S w ψ S' w' := by
  rw [appendZ_eqO] at h; unfold appendZO at h
  simp only [forceK_eq] at h
  split at h
  case h_2 => cases h
  rename_i t tn hat
  have hat' : argTypes = #[t, tn] := Array.toList_inj.1 hat
  subst hat'
  split at h
  case h_2 => cases h
  rename_i e hu
  split at h
  case h_2 => cases h
  rename_i kn hun
  split at h
  case h_2 => cases h
  rename_i i hi
  split at h
  case h_2 => cases h
  rename_i z hz
  split at h
  case isFalse => cases h
  rename_i hcond
  simp only [Bool.and_eq_true, Nat.beq_eq, Nat.ble_eq] at hcond
  obtain ⟨⟨c1, c2⟩, c3⟩ := hcond
  split at h
  case h_2 => cases h
  split at h
  case h_2 => cases h
  rename_i kq n
  split at h
  case isFalse => cases h
  rename_i hn
  simp only [Bool.and_eq_true, decide_eq_true_eq] at hn
  obtain ⟨n1, n2⟩ := hn
  split at h
  case h_2 => cases h
  rename_i L hL
  cases h
  cases hs
  have hnn : φ S.length = none := hf _ (Nat.le_refl _) (by simp)
  have hgood : Good φ S w.drew := ⟨good.blk, good.low, good.inj, good.zero, good.room⟩
  obtain ⟨k, rfl⟩ : ∃ k : Nat, n = k := ⟨n.toNat, by omega⟩
  simp only [Int.toNat_natCast] at hL ⊢
  have h0 : 0 < k := by omega
  have hfit : k * i.bytes ≤ 65536 * 4096 := Nat.mul_le_mul (by omega) c3
  obtain ⟨base, hbase, hold⟩ : ∃ base, d' = .slice base 0 0 ∧ (Builtin.firstCells i.size 0 (.slice base 0 0)).run P w.drew = .ok [].toArray w.drew := by
    cases hd with
    | nilSlice => exact ⟨none, rfl, by simp [Builtin.firstCells]⟩
    | empty b1 b2 d1 => exact ⟨_, rfl, by simp [Builtin.firstCells, loadCells, loadCellsFrom]⟩
    | slice hdb hdc hdn hdk =>
      rename_i rd od sd cd
      have hcd : cd = 0 := by rcases hdc with rfl | h; rfl; cases h
      subst hcd
      exact ⟨_, rfl, by simp [Builtin.firstCells, loadCells, loadCellsFrom]⟩
  subst hbase
  have hr := Lib.run_append_grow_zeros (P := P) w t tn ty e i z kq kn hu hun hi hz base 0 0 [] hold k h0 (by omega) (by omega) (by omega) (by omega) (growslice_fits (by omega) (by rw [Nat.zero_add]; omega))
  rw [Nat.zero_add] at hr
  have hge := grownCap_ge w k 0 e
  have hlt : grownCap w k 0 e < unk := Nat.lt_of_le_of_lt (grownCap_le_maxLen w k 0 e (by unfold maxLen; omega)) (by decide)
  have hz0 : ∀ m, (Builtin.zeroCells z.cells m).size = m * i.size := fun m => by rw [size_zeroCells, c1]
  obtain ⟨g2, s2⟩ := hgood.newBuf fl hnn (k := ⟨[], e, false, some (.buf (kindOf z.cells.toList) i.size L)⟩) (c := grownCap w k 0 e)
    (cells := [].toArray ++ Builtin.zeroCells z.cells k ++ Builtin.zeroCells z.cells (grownCap w k 0 e - k)) rfl (by omega) (by
      rw [Array.size_append, Array.size_append, hz0, hz0, List.size_toArray, List.length_nil, Nat.zero_add, ← Nat.add_mul]
      congr 1
      omega) ⟨_, rfl, fun j q hj => by
      have h1 := intsOf_get hL j q hj
      rw [Array.toList_append, Array.toList_append, List.append_assoc, List.toList_toArray, List.nil_append, List.getElem?_append_left (List.getElem?_eq_some_iff.1 h1).1]
      exact h1, c2⟩
  have hcp : (bufRen φ S.length w.drew.heap.size (grownCap w k 0 e)).cap w.heap.size = grownCap w k 0 e := by unfold bufRen; simp
  exact ⟨_, _, _, hr, .slice (by unfold bufRen; simp) (.inr rfl) hge (fun _ => ⟨hlt, fun _ _ => hcp.symm⟩), g2, ⟨s2.ext, s2.caps, s2.dom, s2.len, s2.dead, s2.keep, s2.frame, s2.size, s2.os, s2.tape, s2.output⟩⟩
theorem appendZ_app {S S' : List Blk} {ats : List TypeId} {d s v : Value} (h : appendZ P S ats d s = some (v, S')) : ∃ k, S' = S ++ [k] := by
  rw [appendZ_eqO] at h; unfold appendZO at h
  simp only [forceK_eq] at h
  repeat' split at h
  all_goals first
    | (cases h; done)
    | (cases h; exact ⟨_, rfl⟩)
theorem cellish_one {φ : Ren} {v v' : Value} (h : cellish v = true) (r : VRel φ v v') : v'.oneCell' = true := by
  cases r <;> first | rfl | (simp [cellish] at h; done)
theorem cellsOf_world {φ : Ren} {S : List Blk} (good : Good φ S w) {sz n c : Nat} {a : Option Addr} {a' : Option Addr} {c' : Nat} {news : List Value} (h : cellsOf S sz (.slice a n c) = some news) (hr : VRel φ (.slice a n c) (.slice a' n c')) :
    ∃ (r off : Nat) (news' : List Value), a' = some ⟨r, off, none⟩ ∧ 1 ≤ n ∧ LRel φ news news' ∧ news.length = n * sz ∧ ∀ j u, news'[j]? = some u → w.cell? ((⟨r, off, none⟩ : Addr).add j) = some u := by
  unfold cellsOf at h
  split at h
  case h_2 => cases h
  rename_i b off n2 c2 heq
  cases heq
  have fin : ∀ (cs : List Value) (cw : Array Value) (e : TypeId) (fz : Nat × Nat) (r : Nat), w.heap[r]? = some (.cells cw e fz) → LRel φ cs (cw.toList.take cs.length) → (if Nat.ble (off + n * sz) (lenR cs) && Nat.ble 1 n then some (takeR (dropR cs off) (n * sz)) else none) = some news →
      1 ≤ n ∧ ∃ news' : List Value, LRel φ news news' ∧ news.length = n * sz ∧ ∀ j u, news'[j]? = some u → w.cell? ((⟨r, off, none⟩ : Addr).add j) = some u := by
    intro cs cw e fz r h1 h2 h3
    simp only [lenR_eq, takeR_eq, dropR_eq] at h3
    split at h3
    case isFalse => cases h3
    rename_i hc
    simp only [Bool.and_eq_true, Nat.ble_eq] at hc
    cases h3
    have hl := take_len h2
    have hrel := (h2.drop off).take (n * sz)
    rw [take_drop_take hc.1] at hrel
    refine ⟨hc.2, _, hrel, by rw [List.length_take, List.length_drop]; omega, fun j u hj => ?_⟩
    have := take_get hj
    rw [List.getElem?_drop] at this
    rw [Addr.add_lit, cell_of_heap h1]
    simpa using this
  rw [getR_eq] at h
  cases hr with
  | empty a1 a2 c1 hcu =>
    exfalso
    split at h
    · rename_i cs e ro hk; split at h
      · rename_i hc; simp at hc
      · cases h
    · rename_i cs e ro sz2 hk; split at h
      · rename_i hc; simp at hc
      · cases h
    · cases h
  | slice hb hc hn hk2 =>
    rename_i r
    split at h
    · rename_i cs e ro hk
      obtain ⟨cw, fz, h1, h2, _⟩ := good.cells hk hb
      obtain ⟨h3, news', h4, h5, h6⟩ := fin cs cw e fz r h1 h2 h
      exact ⟨r, off, news', rfl, h3, h4, h5, h6⟩
    · rename_i cs e ro sz2 hk
      obtain ⟨cw, h1, h2, _⟩ := good.bufc hk hb
      obtain ⟨h3, news', h4, h5, h6⟩ := fin cs cw e (0, 0) r h1 h2 h
      exact ⟨r, off, news', rfl, h3, h4, h5, h6⟩
    · cases h
theorem cellish_all {φ : Ren} : ∀ {l l' : List Value}, LRel φ l l' → l.all cellish = true → ∀ u ∈ l', u.oneCell' = true
  | [], [], _, _, u, hu => by cases hu
  | [], _ :: _, h, _, _, _ => by simp [LRel] at h
  | _ :: _, [], h, _, _, _ => by simp [LRel] at h
  | v :: l, v' :: l', h, hc, u, hu => by
    simp only [List.all_cons, Bool.and_eq_true] at hc
    rcases List.mem_cons.1 hu with rfl | hu
    · exact cellish_one hc.1 h.head
    · exact cellish_all h.tail hc.2 u hu
theorem run_appendE {φ : Ren} {fl : Nat} {S S' : List Blk} (good : Good φ S w) (hf : Fresh φ S.length S'.length) {argTypes : Array TypeId} {ty : TypeId} {d d' s s' v : Value} (hd : VRel φ d d') (hs : VRel φ s s') (h : appendE P fl S argTypes.toList d s = some (v, S')) :
    ∃ v' w' ψ, (Builtin.append_ argTypes ty #[d', s']).run P w = .ok v' w' ∧ VRel ψ v v' ∧ Good ψ S' w' ∧ Step fl φ S w ψ S' w' := by
  unfold appendE at h
  simp only [forceK_eq, newK_eq, setG_eq, appG_eq, lenR_eq, takeR_eq, allR_eq] at h
  split at h
  case h_2 => cases h
  rename_i t t2 hat
  split at h
  case isFalse => cases h
  rename_i htt
  subst htt
  have hat' : argTypes = #[t, t] := Array.toList_inj.1 hat
  subst hat'
  split at h
  case h_2 => cases h
  rename_i e hu
  split at h
  case h_2 => cases h
  rename_i i hi
  split at h
  case h_2 => cases h
  rename_i z hz
  split at h
  case isFalse => cases h
  rename_i hcond
  simp only [Bool.and_eq_true, Nat.beq_eq, Nat.ble_eq] at hcond
  obtain ⟨⟨c1, c2⟩, c3⟩ := hcond
  split at h
  case h_2 => cases h
  rename_i news hnew
  split at h
  case isFalse => cases h
  rename_i hnc
  simp only [Bool.and_eq_true, Nat.ble_eq] at hnc
  obtain ⟨hcell, hm⟩ := hnc
  have hsl : ∃ a m c a' c', s = .slice a m c ∧ s' = .slice a' m c' := by
    unfold cellsOf at hnew
    split at hnew
    case h_2 => cases hnew
    cases hs with
    | slice _ _ _ _ => exact ⟨_, _, _, _, _, rfl, rfl⟩
    | empty _ _ _ _ => exact ⟨_, _, _, _, _, rfl, rfl⟩
  obtain ⟨sa, m, sc, sa', sc', rfl, rfl⟩ := hsl
  obtain ⟨r2, soff, news', rfl, hm1, hrel, hlen, hnews⟩ := cellsOf_world good hnew hs
  have hlen' : news'.length = m * i.size := by rw [← hrel.1]; exact hlen
  have hone := cellish_all hrel hcell
  simp only [lenV] at h hm
  have hz0 : ∀ k, (Builtin.zeroCells z.cells k).size = k * i.size := fun k => by rw [size_zeroCells, c1]
  split at h
  · -- onto nothing
    rename_i d0
    cases h
    have hnn : φ S.length = none := hf _ (Nat.le_refl _) (by simp)
    have hgood : Good φ S w.drew := ⟨good.blk, good.low, good.inj, good.zero, good.room⟩
    have hfit0 : m * i.bytes ≤ 140737488355328 := by
      have := Nat.mul_le_mul hm c3
      omega
    have hge := grownCap_ge w m 0 e
    have hlt : grownCap w m 0 e < unk := Nat.lt_of_le_of_lt (grownCap_le_maxLen w m 0 e (by unfold maxLen; omega)) (by decide)
    have fin : ∀ cells : Array Value, (∃ rest : Array Value, cells = news'.toArray ++ rest) → cells.size = grownCap w m 0 e * i.size →
        ∃ ψ, VRel ψ (.slice (some ⟨S.length, 0, none⟩) m unk) (.slice (some ⟨w.heap.size, 0, none⟩) m (grownCap w m 0 e)) ∧ Good ψ (S ++ [⟨news, e, false, some (.bufc i.size)⟩]) (w.drew.alloc (.cells cells e)) ∧
          Step fl φ S w ψ (S ++ [⟨news, e, false, some (.bufc i.size)⟩]) (w.drew.alloc (.cells cells e)) := by
      rintro cells ⟨rest, rfl⟩ hcs
      obtain ⟨g1, g2⟩ := hgood.newBuf fl hnn (k := ⟨news, e, false, some (.bufc i.size)⟩) (c := grownCap w m 0 e) (cells := news'.toArray ++ rest) rfl (by omega) hcs ⟨_, rfl, by
        rw [Array.toList_append, List.toList_toArray, hrel.1, List.take_left]
        exact hrel, c2⟩
      have hcp : (bufRen φ S.length w.drew.heap.size (grownCap w m 0 e)).cap w.heap.size = grownCap w m 0 e := by unfold bufRen; simp
      exact ⟨_, .slice (by unfold bufRen; simp) (.inr rfl) hge (fun _ => ⟨hlt, fun _ _ => hcp.symm⟩), g1, ⟨g2.ext, g2.caps, g2.dom, g2.len, g2.dead, g2.keep, g2.frame, g2.size, g2.os, g2.tape, g2.output⟩⟩
    have hsz1 : (news'.toArray ++ Builtin.zeroCells z.cells (grownCap w m 0 e - m)).size = grownCap w m 0 e * i.size := by
      rw [Array.size_append, hz0, List.size_toArray, hlen', ← Nat.add_mul, show m + (grownCap w m 0 e - m) = grownCap w m 0 e by omega]
    have grow : ∀ base : Addr, ∃ v' w' ψ, (Builtin.append_ #[t, t] ty #[.slice (some base) 0 0, .slice (some ⟨r2, soff, none⟩) m sc']).run P w = .ok v' w' ∧ VRel ψ (.slice (some ⟨S.length, 0, none⟩) m unk) v' ∧ Good ψ (S ++ [⟨news, e, false, some (.bufc i.size)⟩]) w' ∧ Step fl φ S w ψ (S ++ [⟨news, e, false, some (.bufc i.size)⟩]) w' := by
      intro base
      have hr := run_append_grow (P := P) w t ty e i z hu hi hz base 0 0 [] (by simp) (by simp) ⟨r2, soff, none⟩ m sc' news' hlen' hnews (by omega) (by omega) (growslice_fits (by omega) (by simpa using hfit0))
      rw [Nat.zero_add] at hr
      obtain ⟨ψ, f1, f2, f3⟩ := fin ([].toArray ++ news'.toArray ++ Builtin.zeroCells z.cells (grownCap w m 0 e - m)) ⟨Builtin.zeroCells z.cells (grownCap w m 0 e - m), by simp⟩ (by simpa using hsz1)
      exact ⟨_, _, ψ, hr, f1, f2, f3⟩
    cases hd with
    | nilSlice =>
      have hr := run_append_nil (P := P) w t ty e i z hu hi hz ⟨r2, soff, none⟩ m sc' news' hlen' hnews (by omega) (by omega) (by omega)
      obtain ⟨ψ, f1, f2, f3⟩ := fin _ ⟨Builtin.zeroCells z.cells (grownCap w m 0 e - m), rfl⟩ hsz1
      exact ⟨_, _, ψ, hr, f1, f2, f3⟩
    | empty b1 b2 d1 => exact grow b2
    | slice hdb hdc hdn hdk =>
      rename_i rd od sd cd
      have hcd : cd = 0 := by rcases hdc with rfl | h; rfl; cases h
      subst hcd
      exact grow ⟨rd, od, sd⟩
  · -- onto what an append has made
    rename_i b n c _
    split at h
    case h_2 => cases h
    rename_i cs e2 ro sz hk
    rw [getR_eq] at hk
    simp only [Option.ite_none_right_eq_some, Bool.and_eq_true, Nat.beq_eq, Nat.ble_eq, decide_eq_true_eq, Option.some.injEq, Prod.mk.injEq] at h
    obtain ⟨⟨⟨⟨⟨⟨rfl, hfl⟩, rfl⟩, rfl⟩, hL⟩, hN⟩, rfl, rfl⟩ := h
    have hbl : b < S.length := (List.getElem?_eq_some_iff.1 hk).1
    have hl1 : (S.set b deadBlk).length = S.length := by simp
    have hn : φ S.length = none := hf _ (Nat.le_refl _) (by simp)
    have hlive : ¬ Dead S b := fun d => d.not hk (by simp)
    cases hd with
    | empty a1 a2 c1 hcu => exact absurd rfl hcu
    | slice hb hcd hnd hkd =>
      rename_i r c'
      obtain ⟨cw, w1, w2, w3, w4⟩ := good.bufc hk hb
      obtain ⟨hcu, hcq⟩ := hkd w3
      have hc' : c' = φ.cap r := hcq rfl rfl
      have hcwl := take_len w2
      have holdr : LRel φ (cs.take (n * i.size)) (cw.toList.take (n * i.size)) := by
        have := w2.take (n * i.size)
        rwa [List.take_take, Nat.min_eq_left hL] at this
      generalize holds' : cw.toList.take (n * i.size) = olds at holdr
      have holen : olds.length = n * i.size := by rw [← holds', List.length_take, Array.length_toList]; omega
      have holds : ∀ (j : Nat) (u : Value), olds[j]? = some u → cw.toList[j]? = some u := by
        intro j u hj
        rw [← holds'] at hj
        exact take_get hj
      have hrel2 := holdr.append hrel
      have hl2 : (cs.take (n * i.size) ++ news).length = (olds ++ news').length := hrel2.1
      have hnew2 : ∀ (rest : Array Value), BRel φ ⟨cs.take (n * i.size) ++ news, e2, false, some (.bufc i.size)⟩ (.cells ((olds.toArray ++ news'.toArray) ++ rest) e2) := by
        intro rest
        refine ⟨_, rfl, ?_, c2⟩
        show LRel φ (cs.take (n * i.size) ++ news) (((olds.toArray ++ news'.toArray) ++ rest).toList.take (cs.take (n * i.size) ++ news).length)
        rw [Array.toList_append, Array.toList_append, List.toList_toArray, List.toList_toArray, hl2, List.take_left]
        exact hrel2
      have hmul : (n + m) * i.size = n * i.size + m * i.size := Nat.add_mul _ _ _
      by_cases hroom : n + m ≤ c'
      · have hfit : n * i.size + news'.length ≤ cw.size := by
          rw [hlen', ← hmul, w4, ← hc']
          exact Nat.mul_le_mul_right _ hroom
        have hr := run_append_room (P := P) w t ty e2 i hu hi r n c' cw w1 ⟨r2, soff, none⟩ m sc' news' hlen' hnews hone hroom hfit
        rw [holds'] at hr
        generalize hcells : (olds ++ news' ++ cw.toList.drop (n * i.size + news'.length)).toArray = cells at hr
        have hce : cells = (olds.toArray ++ news'.toArray) ++ (cw.toList.drop (n * i.size + news'.length)).toArray := by rw [← hcells]; simp
        have hcsz : cells.size = φ.cap r * i.size := by
          rw [← w4, hce]
          simp only [Array.size_append, List.size_toArray, List.length_drop, Array.length_toList, holen]
          omega
        obtain ⟨g1, g2⟩ := good.adopt (w' := w.setRow r cells) (k := ⟨cs.take (n * i.size) ++ news, e2, false, some (.bufc i.size)⟩) hbl hb hfl hlive hn rfl w3 hcsz (by rw [hce]; exact hnew2 _)
          (fun s => by
            by_cases hs : s = r
            · subst hs; rw [if_pos rfl]; exact setRow_heap w s cw cells e2 _ w1
            · rw [if_neg hs]; exact setRow_other w r s cells hs) (by simp) rfl rfl rfl
        rw [hl1]
        refine ⟨_, _, _, hr, .slice (newRen_new _ _ _) (.inr rfl) hroom (fun _ => ⟨hcu, fun _ _ => hc'⟩), g1, g2⟩
      · have hr := run_append_grow (P := P) w t ty e2 i z hu hi hz ⟨r, 0, none⟩ n c' olds holen (fun j u hj => by
          rw [Addr.add_lit, cell_of_heap w1, Nat.zero_add]
          have := holds j u hj
          simpa using this) ⟨r2, soff, none⟩ m sc' news' hlen' hnews (by omega) (by omega) (growslice_fits (by omega) (by
            have := Nat.mul_le_mul hN c3
            omega))
        have hgood : Good φ S w.drew := ⟨good.blk, good.low, good.inj, good.zero, good.room⟩
        obtain ⟨g1, s1⟩ := hgood.turn (w' := w.drew) (fl := fl) (k := deadBlk) (o := .cells cw e2) hbl hb hfl trivial hlive trivial (fun s => by
          by_cases hs : s = r
          · subst hs; rw [if_pos rfl]; exact w1
          · rw [if_neg hs]) rfl rfl rfl rfl
        have hge := grownCap_ge w (n + m) c' e2
        have hlt : grownCap w (n + m) c' e2 < unk := Nat.lt_of_le_of_lt (grownCap_le_maxLen w _ c' e2 (by unfold maxLen; omega)) (by decide)
        obtain ⟨g2, s2⟩ := g1.newBuf fl (by rw [hl1]; exact hn) (k := ⟨cs.take (n * i.size) ++ news, e2, false, some (.bufc i.size)⟩) (c := grownCap w (n + m) c' e2)
          (cells := olds.toArray ++ news'.toArray ++ Builtin.zeroCells z.cells (grownCap w (n + m) c' e2 - (n + m))) rfl (by omega) (by
            rw [Array.size_append, Array.size_append, size_zeroCells, List.size_toArray, List.size_toArray, holen, hlen', c1, ← hmul, ← Nat.add_mul]
            congr 1
            omega) (hnew2 _)
        rw [hl1] at g2 s2
        have s3 := s1.trans s2 (fun x h1 h2 => hf x h1 (by simpa using h2))
        have hcp : (bufRen φ S.length w.drew.heap.size (grownCap w (n + m) c' e2)).cap w.heap.size = grownCap w (n + m) c' e2 := by unfold bufRen; simp
        rw [hl1]
        exact ⟨_, _, _, hr, .slice (by unfold bufRen; simp) (.inr rfl) hge (fun _ => ⟨hlt, fun _ _ => hcp.symm⟩), g2, ⟨s3.ext, s3.caps, s3.dom, s3.len, s3.dead, s3.keep, s3.frame, s3.size, s3.os, s3.tape, s3.output⟩⟩
  · cases h
theorem appendE_ext {fl : Nat} {S S' : List Blk} {ats : List TypeId} {d s v : Value} (h : appendE P fl S ats d s = some (v, S')) : (∃ k, S' = S ++ [k]) ∨ ∃ b k, fl ≤ b ∧ S' = S.set b deadBlk ++ [k] := by
  unfold appendE at h
  simp only [forceK_eq, newK_eq, setG_eq, appG_eq] at h
  repeat' split at h
  all_goals first
    | (cases h; done)
    | (cases h; exact .inl ⟨_, rfl⟩)
    | (rename_i hc2; cases h; simp only [Bool.and_eq_true, Nat.ble_eq] at hc2; exact .inr ⟨_, _, hc2.1.1.1.1.2, rfl⟩)
theorem appendP_app {S S' : List Blk} {ats : List TypeId} {d s v : Value} (h : appendP P S ats d s = some (v, S')) : S' = S ∨ ∃ k, S' = S ++ [k] := by
  rw [appendP_eqO] at h; unfold appendPO at h
  simp only [forceK_eq] at h
  split at h
  · split at h
    · cases h; exact .inl rfl
    · cases h; exact .inr ⟨_, rfl⟩
  · cases h

theorem setFold_rel {φ : Ren} {off : Nat} : ∀ (l l' : List Value) (k : Nat) (cs cs' : Array Value), LRel φ l l' → LRel φ cs.toList cs'.toList →
    LRel φ ((l.zipIdx k).foldl (fun cs (x : Value × Nat) => cs.setIfInBounds (off + x.2) x.1) cs).toList ((l'.zipIdx k).foldl (fun cs (x : Value × Nat) => cs.setIfInBounds (off + x.2) x.1) cs').toList
  | [], [], _, _, _, _, h => h
  | v :: l, v' :: l', k, cs, cs', hl, h => by
    simp only [List.zipIdx_cons, List.foldl_cons]
    exact setFold_rel l l' (k + 1) _ _ hl.tail (by simpa using h.set hl.head (off + k))
  | [], _ :: _, _, _, _, hl, _ => by simp [LRel] at hl
  | _ :: _, [], _, _, _, hl, _ => by simp [LRel] at hl
theorem fill_rel {φ : Ren} {place : Nat → Option (Nat × Nat)} : ∀ (is : List Nat) (vs vs' : List Value) (cs cs' r : Array Value), LRel φ vs vs' → vs.any isJ = false → LRel φ cs.toList cs'.toList → Instr.fill place cs (is.zip vs) = some r →
    ∃ r', Instr.fill place cs' (is.zip vs') = some r' ∧ LRel φ r.toList r'.toList
  | [], vs, vs', cs, cs', r, _, _, hc, h => by
    simp only [List.zip_nil_left, Instr.fill, Option.some.injEq] at h ⊢
    subst h
    exact ⟨_, rfl, hc⟩
  | i :: is, [], [], cs, cs', r, _, _, hc, h => by
    simp only [List.zip_nil_right, Instr.fill, Option.some.injEq] at h ⊢
    subst h
    exact ⟨_, rfl, hc⟩
  | i :: is, v :: vs, v' :: vs', cs, cs', r, hv, hj, hc, h => by
    simp only [List.any_cons, Bool.or_eq_false_iff] at hj
    simp only [List.zip_cons_cons, Instr.fill] at h ⊢
    cases hp : place i with
    | none => rw [hp] at h; cases h
    | some p =>
      obtain ⟨off, size⟩ := p
      rw [hp] at h
      simp only at h ⊢
      have hcl := VRel.cells hv.head hj.1
      have e1 : v'.cells.size = v.cells.size := by have := hcl.1; simpa using this.symm
      have e2 : cs'.size = cs.size := by have := hc.1; simpa using this.symm
      rw [e1, e2]
      split at h
      · cases h
      · rename_i hn
        rw [if_neg hn]
        refine fill_rel is vs vs' _ _ r hv.tail hj.2 ?_ h
        have key : ∀ c a : Array Value, c.zipIdx.foldl (fun cs (c, j) => cs.setIfInBounds (off + j) c) a = (c.toList.zipIdx 0).foldl (fun cs (x : Value × Nat) => cs.setIfInBounds (off + x.2) x.1) a := by
          intro c a
          rw [← Array.foldl_toList]
          simp
        rw [key, key]
        exact setFold_rel (off := off) v.cells.toList v'.cells.toList 0 cs cs' hcl hc
  | _ :: _, [], _ :: _, _, _, _, hv, _, _, _ => by simp [LRel] at hv
  | _ :: _, _ :: _, [], _, _, _, hv, _, _, _ => by simp [LRel] at hv
theorem run_places : ∀ (fs : List Field) (l : List (Nat × Nat)), placesOf P fs = some l → (fs.mapM fun f => (do pure (f.offset, ← sizeOf f.type) : Sem (Nat × Nat))).run P w = .ok l w
  | [], l, h => by cases h; rfl
  | f :: fs, l, h => by
    simp only [placesOf] at h
    split at h
    · rename_i n hn
      split at h
      · rename_i l2 hl
        cases h
        simp only [List.mapM_cons, Sem.run_bind, run_sizeT hn, Sem.run_pure, Result.andThen_ok, run_places fs l2 hl]
      · cases h
    · cases h
theorem run_buildCells {φ : Ren} {t : TypeId} {is : List Nat} {vs vs' : List Value} {cells : Array Value} (hv : LRel φ vs vs') (hj : vs.any isJ = false) (h : buildCells P t (is.zip vs) = some cells) :
    ∃ cells' : Array Value, (Instr.build t (is.zip vs').toArray).run P w = .ok (.agg cells') w ∧ LRel φ cells.toList cells'.toList := by
  unfold buildCells at h
  split at h
  · rename_i fields hu
    split at h
    · rename_i z hz
      split at h
      · rename_i places hp
        split at h
        case isFalse => cases h
        rename_i hsc
        have hzz : LRel φ z.cells.toList z.cells.toList := list_refl scalar (fun _ => scalar_refl) hsc
        obtain ⟨r', h1, h2⟩ := fill_rel is vs vs' _ z.cells cells hv hj hzz h
        refine ⟨r', ?_, h2⟩
        simp only [Instr.build, Sem.run_bind, run_zeroT hz, Result.andThen_ok, run_underlying hu]
        rw [Array.mapM_eq_mapM_toList]
        simp only [map_eq_pure_bind, Sem.run_bind, run_places _ _ hp, Result.andThen_ok, Sem.run_pure, h1]
      · cases h
    · cases h
  · cases h
/-- What an operation came to. -/
def Came (P : Program) (fl : Nat) (φ : Ren) (S : List Blk) (w : World) (s : Sem Next) (v : Value) (S' : List Blk) : Prop :=
  ∃ v' w' ψ, (s.run P w = .ok (.value v') w' ∨ (s.run P w = .ok .skip w' ∧ v' = undef)) ∧ VRel ψ v v' ∧ Good ψ S' w' ∧ Step fl φ S w ψ S' w'

theorem Came.same {fl : Nat} {φ : Ren} {S : List Blk} {s : Sem Next} {v v' : Value} (good : Good φ S w) (h : s.run P w = .ok (.value v') w) (hv : VRel φ v v') : Came P fl φ S w s v S :=
  ⟨v', w, φ, .inl h, hv, good, Step.refl _ _ _ _⟩

theorem Came.fresh {fl : Nat} {φ : Ren} {S : List Blk} {s : Sem Next} {cs : List Value} {c' : Array Value} {t : TypeId} (good : Good φ S w) (hn : φ S.length = none)
    (h : s.run P w = .ok (.value (.pointer (some ⟨w.heap.size, 0, none⟩))) (w.alloc (.cells c' t))) (hc : LRel φ cs c'.toList) :
    Came P fl φ S w s (.pointer (some ⟨S.length, 0, none⟩)) (S ++ [⟨cs, t, false, none⟩]) := by
  obtain ⟨g1, g2⟩ := good.new fl hn ⟨cs, t, false, none⟩ (.cells c' t) ⟨c', (0, 0), rfl, by rw [List.take_of_length_le (by rw [hc.1]; exact Nat.le_refl _)]; exact hc, fun _ => rfl, fun h => by cases h⟩ rfl
  exact ⟨_, _, _, .inl h, .ptr (newRen_new _ _ _), g1, g2⟩

theorem run_newVar (t : TypeId) (v : Value) : (newVar t v).run P w = .ok ⟨w.heap.size, 0, none⟩ (w.alloc (.cells v.cells t)) := by
  rfl
theorem run_newRow (t : TypeId) (c : Array Value) : (newRow t c).run P w = .ok ⟨w.heap.size, 0, none⟩ (w.alloc (.cells c t)) := rfl

theorem run_fieldP {φ : Ren} {s : TypeId} {f : Nat} {p p' v : Value} (hp : VRel φ p p') (h : fieldP P s f p = some v) : ∃ v', (Instr.fieldAt s p' f).run P w = .ok v' w ∧ VRel φ v v' := by
  unfold fieldP at h
  split at h
  · cases hp with
    | ptr hb =>
      rename_i b r o sp
      split at h
      · rename_i fs hu
        split at h
        · rename_i fd hf
          split at h
          · rename_i n hn
            cases h
            refine ⟨.pointer (some ((⟨r, o, sp⟩ : Addr).add fd.offset)), ?_, ?_⟩
            · simp [Instr.fieldAt, run_underlying hu, hf, Instr.sureAddr, fieldPlace, run_sizeT hn]
            · unfold Addr.add; split
              · exact .ptr hb
              · exact .ptr hb
          · cases h
        · cases h
      · cases h
  · cases h

theorem run_indexP {φ : Ren} {t : TypeId} {x x' ix ix' v : Value} (hx : VRel φ x x') (hi : VRel φ ix ix') (h : indexP P t x ix = some v) :
    ∃ v', (Instr.indexAt t x' ix').run P w = .ok v' w ∧ VRel φ v v' := by
  unfold indexP at h
  split at h
  · rename_i k i
    cases hi
    split at h
    · rename_i len elem a hu
      cases hx with
      | ptr hb =>
        rename_i b r o sp
        split at h
        · rename_i hc
          simp only [Bool.and_eq_true, decide_eq_true_eq] at hc
          split at h
          · rename_i n hn
            cases h
            refine ⟨.pointer (some ((⟨r, o, sp⟩ : Addr).add (i.toNat * n))), ?_, ?_⟩
            · simp [Instr.indexAt, asIntOf, run_underlying hu, Instr.sureAddr, hc, run_sizeT hn]
            · unfold Addr.add; split
              · exact .ptr hb
              · exact .ptr hb
          · cases h
        · cases h
    · rename_i elem a len cap hu
      cases hx with
      | empty a1 a2 c1 =>
        split at h
        · rename_i hc
          simp only [Bool.and_eq_true, decide_eq_true_eq] at hc
          omega
        · cases h
      | emptyS b0 o0 a2 c2 =>
        split at h
        · rename_i hc
          simp only [Bool.and_eq_true, decide_eq_true_eq] at hc
          omega
        · cases h
      | slice hb _ _ _ =>
        rename_i b r o sp cc _ _ _
        split at h
        · rename_i hc
          simp only [Bool.and_eq_true, decide_eq_true_eq] at hc
          split at h
          · rename_i n hn
            cases h
            refine ⟨.pointer (some ((⟨r, o, sp⟩ : Addr).add (i.toNat * n))), ?_, ?_⟩
            · simp [Instr.indexAt, asIntOf, run_underlying hu, hc, run_sizeT hn]
            · unfold Addr.add; split
              · exact .ptr hb
              · exact .ptr hb
          · cases h
        · cases h
    · rename_i elem sz b o len c hu
      cases hx with
      | qs hb hso hn hr =>
        rename_i r c'
        split at h
        · rename_i hc
          simp only [Bool.and_eq_true, decide_eq_true_eq] at hc
          split at h
          · rename_i n hnn
            cases h
            refine ⟨.pointer (some ⟨r, o + i.toNat * n - φ.cap r / unk, none⟩), ?_, .qp hb (by omega)⟩
            have e1 : (⟨r, o - φ.cap r / unk, none⟩ : Addr).add (i.toNat * n) = ⟨r, o + i.toNat * n - φ.cap r / unk, none⟩ := by
              rw [Addr.add_lit]; congr 1; omega
            simp [Instr.indexAt, asIntOf, run_underlying hu, hc, run_sizeT hnn, e1]
          · cases h
        · cases h
    · cases h
  · cases h

theorem run_buildSlice {t elem : TypeId} {len : Nat} {parts : Array (Nat × Value)} {cells : Array Value} (h : buildSliceCells P t len parts = some (elem, cells)) :
    (Instr.buildSlice t len parts).run P w = .ok (.slice (some ⟨w.heap.size, 0, none⟩) len len) (w.alloc (.cells cells elem)) := by
  unfold buildSliceCells at h
  split at h
  · rename_i e hu
    split at h
    · rename_i i hi
      split at h
      · cases h
      · rename_i hbig
        split at h
        · rename_i h0
          split at h
          · rename_i hp
            cases h
            simp only [Instr.buildSlice, Sem.run_bind, run_underlying hu, Result.andThen_ok, sizeOf, run_typeInfo w hi, Sem.run_pure, if_neg hbig, if_pos h0, hp, Instr.fill]
            rw [h0]
            have e0 : ∀ g : Nat → Value, Array.map g (Array.range 0) = #[] := fun g => Array.eq_empty_of_size_eq_zero (by simp)
            simp only [e0, run_newRow, Result.andThen_ok]
          · cases h
        · rename_i h0
          split at h
          · rename_i z hz
            split at h
            · rename_i cs hf
              cases h
              simp only [Instr.buildSlice, Sem.run_bind, run_underlying hu, Result.andThen_ok, sizeOf, run_typeInfo w hi, Sem.run_pure, if_neg hbig, if_neg h0, zeroValue, hz]
              simp only [Sem.run_bind, Sem.run_pure, hf]
              simp only [run_newRow, Result.andThen_ok]
            · cases h
          · cases h
    · cases h
  · cases h

theorem run_makeC {t elem : TypeId} {n c : Int} {k1 k2 : IntKind} {cells : Array Value} (h : makeC P t n c = some (elem, cells)) :
    (Instr.makeSlice t (.int k1 n) (.int k2 c)).run P w = .ok (.slice (some ⟨w.heap.size, 0, none⟩) n.toNat c.toNat) (w.alloc (.cells cells elem)) ∧ n.toNat ≤ c.toNat := by
  unfold makeC at h
  split at h
  case h_2 => cases h
  rename_i e hu
  split at h
  case h_2 => cases h
  rename_i i hi
  split at h
  case h_2 => cases h
  rename_i z hz
  split at h
  case isFalse => cases h
  rename_i hc
  simp only [Bool.and_eq_true, decide_eq_true_eq, Nat.ble_eq] at hc
  obtain ⟨⟨⟨h0, h1⟩, h2⟩, h3⟩ := hc
  cases h
  have hp : c.toNat * i.bytes ≤ 65536 * 4096 := Nat.mul_le_mul h2 h3
  have hb : (i.bytes : Int) * c ≤ 281474976710656 := by
    have h5 : (i.bytes : Int) * c = ((c.toNat * i.bytes : Nat) : Int) := by
      rw [Int.natCast_mul, Int.toNat_of_nonneg (by omega), Int.mul_comm]
    omega
  exact ⟨run_make (P := P) w t _ i z hu hi hz k1 k2 n c h0 h1 hb (by omega), by omega⟩

theorem run_partV {φ : Ren} {t : TypeId} {o : Nat} {cs : List Value} {cs' : Array Value} {v : Value} (hc : LRel φ cs cs'.toList) (h : readAt P t cs o = some v) :
    ∃ v', (part t cs' o).run P w = .ok v' w ∧ VRel φ v v' := by
  rw [readAt_eqO] at h; unfold readAtO at h
  simp only [forceK_eq] at h
  split at h
  · rename_i ha
    obtain ⟨v', g1, g2⟩ := hc.get h
    refine ⟨v', ?_, g2⟩
    have g1' : cs'[o]? = some v' := by simpa using g1
    simp [part, run_isAgg ha, g1']
  · rename_i ha
    split at h
    · rename_i n hn
      split at h
      · rename_i hle
        cases h
        have hr := (hc.drop o).take n
        refine ⟨.agg (cs'.extract o (o + n)), ?_, ?_⟩
        · simp [part, run_isAgg ha, run_sizeT hn]
        · have he : (cs'.extract o (o + n)).toList = (cs'.toList.drop o).take n := by
            simp [Array.toList_extract, List.extract_eq_take_drop, Nat.add_sub_cancel_left]
          exact .agg (by rw [he]; simpa using hr.1) (by rw [he]; simpa using hr.2)
      · cases h
    · cases h
  · cases h
theorem run_fieldV {φ : Ren} {t : TypeId} {f : Nat} {cs : List Value} {cs' : Array Value} {v : Value} (hc : LRel φ cs cs'.toList) (h : fieldV P t f cs = some v) :
    ∃ v', (Instr.field t (.agg cs') f).run P w = .ok v' w ∧ VRel φ v v' := by
  unfold fieldV at h
  split at h
  case h_2 => cases h
  rename_i fields hu
  split at h
  case h_2 => cases h
  rename_i fd hf
  obtain ⟨v', g1, g2⟩ := run_partV (P := P) (w := w) hc h
  exact ⟨v', by simp [Instr.field, run_underlying hu, hf, asAgg, g1], g2⟩
theorem run_indexV {φ : Ren} {t : TypeId} {kd : IntKind} {i : Int} {cs : List Value} {cs' : Array Value} {v : Value} (hc : LRel φ cs cs'.toList) (h : indexV P t i cs = some v) :
    ∃ v', (Instr.index t (.agg cs') (.int kd i)).run P w = .ok v' w ∧ VRel φ v v' := by
  unfold indexV at h
  split at h
  case h_2 => cases h
  rename_i n e hu
  split at h
  case isFalse => cases h
  rename_i hi
  simp only [Bool.and_eq_true, decide_eq_true_eq] at hi
  split at h
  case h_2 => cases h
  rename_i sz hz
  obtain ⟨v', g1, g2⟩ := run_partV (P := P) (w := w) hc h
  exact ⟨v', by simp [Instr.index, asIntOf, run_underlying hu, hi, run_sizeT hz, g1], g2⟩
theorem run_putC {φ : Ren} {fl : Nat} {S S' : List Blk} {b off r : Nat} {news news' : List Value} (good : Good φ S w) (hb : φ b = some r) (hr : LRel φ news news') (h : putC fl S b off news = some S') :
    ∃ w', (storeCells ⟨r, off, none⟩ news').run P w = .ok () w' ∧ Good φ S' w' ∧ Step fl φ S w φ S' w' := by
  unfold putC at h
  simp only [getR_eq, forceK_eq, setG_eq, lenR_eq, allR_eq, writeAt_eqO] at h
  split at h
  · rename_i cs e hk
    split at h
    · rename_i hc
      simp only [Bool.and_eq_true, Nat.ble_eq] at hc
      cases h
      obtain ⟨w', g1, g2, g3⟩ := store_cells (P := P) hb hc.1.1 news news' S w cs e false off 0 good hk (.inl ⟨rfl, rfl⟩) hr hc.1.2 (by simpa using hc.2)
      exact ⟨w', g1, g2, g3⟩
    · cases h
  · rename_i cs e ro sz hk
    split at h
    · rename_i hc
      simp only [Bool.and_eq_true, Nat.ble_eq] at hc
      cases h
      obtain ⟨w', g1, g2, g3⟩ := store_cells (P := P) hb hc.1.1 news news' S w cs e ro off 0 good hk (.inr ⟨sz, rfl⟩) hr hc.1.2 (by simpa using hc.2)
      exact ⟨w', g1, g2, g3⟩
    · cases h
  · cases h
theorem putC_ext {fl : Nat} {S S' : List Blk} {b off : Nat} {news : List Value} (h : putC fl S b off news = some S') : ∃ c k, fl ≤ c ∧ S' = S.set c k := by
  unfold putC at h
  simp only [forceK_eq, setG_eq] at h
  repeat' split at h
  all_goals first
    | (cases h; done)
    | (rename_i hc; cases h; simp only [Bool.and_eq_true, Nat.ble_eq] at hc; exact ⟨_, _, hc.1.1, rfl⟩)
theorem run_clearP {φ : Ren} {fl : Nat} {S S' : List Blk} (good : Good φ S w) {ty t : TypeId} {x x' : Value} (hx : VRel φ x x') (h : clearP P fl S t x = some S') :
    ∃ w', (Builtin.clear_ #[t] ty #[x']).run P w = .ok (.tuple #[]) w' ∧ Good φ S' w' ∧ Step fl φ S w φ S' w' := by
  unfold clearP at h
  split at h
  case h_2 => cases h
  rename_i e hu
  split at h
  · cases h
    refine ⟨w, ?_, good, Step.refl _ _ _ _⟩
    cases hx <;> simp [Builtin.clear_, run_underlying hu]
  · rename_i b off n c
    split at h
    case h_2 => cases h
    rename_i z hz
    simp only [forceK_eq, allR_eq] at h
    split at h
    case isFalse => cases h
    rename_i hs
    cases hx with
    | slice hb _ _ _ =>
      obtain ⟨w', g1, g2, g3⟩ := run_putC (P := P) good hb (list_refl scalar (fun _ => scalar_refl) hs) h
      exact ⟨w', by simp [Builtin.clear_, run_underlying hu, run_zeroT hz, g1], g2, g3⟩
  · cases h
theorem clearP_ext {fl : Nat} {S S' : List Blk} {t : TypeId} {x : Value} (h : clearP P fl S t x = some S') : S' = S ∨ ∃ c k, fl ≤ c ∧ S' = S.set c k := by
  unfold clearP at h
  simp only [forceK_eq] at h
  repeat' split at h
  all_goals first
    | (cases h; done)
    | (cases h; exact .inl rfl)
    | exact .inr (putC_ext h)
theorem cellsAt_world {φ : Ren} {S : List Blk} (good : Good φ S w) {b off n r : Nat} {news : List Value} (hb : φ b = some r) (h : cellsAt S b off n = some news) :
    ∃ news' : List Value, LRel φ news news' ∧ news'.length = n ∧ ∀ j u, news'[j]? = some u → w.cell? ((⟨r, off, none⟩ : Addr).add j) = some u := by
  unfold cellsAt at h
  simp only [getR_eq, lenR_eq, takeR_eq, dropR_eq] at h
  have fin : ∀ (cs : List Value) (cw : Array Value) (e : TypeId) (fz : Nat × Nat), w.heap[r]? = some (.cells cw e fz) → LRel φ cs (cw.toList.take cs.length) → off + n ≤ cs.length → news = (cs.drop off).take n →
      ∃ news' : List Value, LRel φ news news' ∧ news'.length = n ∧ ∀ j u, news'[j]? = some u → w.cell? ((⟨r, off, none⟩ : Addr).add j) = some u := by
    intro cs cw e fz h1 h2 h3 h4
    subst h4
    have hrel := (h2.drop off).take n
    rw [take_drop_take h3] at hrel
    refine ⟨_, hrel, by rw [← hrel.1, List.length_take, List.length_drop]; omega, fun j u hj => ?_⟩
    have := take_get hj
    rw [List.getElem?_drop] at this
    rw [Addr.add_lit, cell_of_heap h1]
    simpa using this
  split at h
  · rename_i cs e ro hk
    obtain ⟨cw, fz, h1, h2, _⟩ := good.cells hk hb
    split at h
    · rename_i hc; cases h; exact fin cs cw e fz h1 h2 (Nat.le_of_ble_eq_true hc) rfl
    · cases h
  · rename_i cs e ro sz hk
    obtain ⟨cw, h1, h2, _⟩ := good.bufc hk hb
    split at h
    · rename_i hc; cases h; exact fin cs cw e (0, 0) h1 h2 (Nat.le_of_ble_eq_true hc) rfl
    · cases h
  · rename_i cs e ro kd sz L hk
    obtain ⟨cw, h1, h2, _⟩ := good.buf hk hb
    split at h
    · rename_i hc
      cases h
      have hle := Nat.le_of_ble_eq_true hc
      have hr : LRel φ (L.map (Value.int kd)) (cw.toList.take (L.map (Value.int kd)).length) := by
        have e : cw.toList.take (L.map (Value.int kd)).length = L.map (Value.int kd) := by
          refine List.ext_getElem? fun j => ?_
          rw [List.getElem?_take, List.length_map]
          by_cases hj : j < L.length
          · rw [if_pos hj, List.getElem?_map, List.getElem?_eq_getElem hj]
            have := h2 j L[j] (List.getElem?_eq_getElem hj)
            rwa [Nat.zero_add] at this
          · rw [if_neg hj, List.getElem?_map, List.getElem?_eq_none (by omega)]; rfl
        rw [e]
        exact list_refl scalar (fun _ => scalar_refl) (by simp [scalar])
      exact fin (L.map (Value.int kd)) cw e (0, 0) h1 hr (by simpa using hle) (by simp [List.map_take, List.map_drop])
    · cases h
  · cases h
theorem run_copyP {φ : Ren} {fl : Nat} {S S' : List Blk} (good : Good φ S w) {ty t t2 : TypeId} {d d' s s' v : Value} (hd : VRel φ d d') (hs : VRel φ s s') (h : copyP P fl S t d s = some (v, S')) :
    plain v = true ∧ ∃ w', (Builtin.copy_ #[t, t2] ty #[d', s']).run P w = .ok v w' ∧ Good φ S' w' ∧ Step fl φ S w φ S' w' := by
  unfold copyP at h
  split at h
  case h_2 => cases h
  rename_i e hu
  split at h
  case h_2 => cases h
  rename_i sz hz
  split at h
  · rename_i b off dn dc
    split at h
    · rename_i b2 off2 sn sc
      split at h
      case h_2 => cases h
      rename_i news hn
      split at h
      case h_2 => cases h
      rename_i S2 hp
      cases h
      refine ⟨rfl, ?_⟩
      cases hd with
      | slice hb _ _ _ =>
        cases hs with
        | slice hb2 g1 g2 g3 =>
          rename_i r2 sc'
          obtain ⟨news', h1, h2, h3⟩ := cellsAt_world good hb2 hn
          obtain ⟨w', g1, g2, g3⟩ := run_putC (P := P) good hb h1 hp
          have hf := run_firstCells_some (P := P) w sz (Nat.min (sn + 1) (dn + 1)) ⟨r2, off2, none⟩ (sn + 1) sc' news' h2 h3
          refine ⟨w', ?_, g2, g3⟩
          simp only [Builtin.copy_, Array.getElem?_eq_getElem, List.size_toArray, List.length_cons, List.length_nil, Nat.zero_lt_succ, List.getElem_toArray, List.getElem_cons_zero, List.getElem_cons_succ, Nat.lt_add_one, Sem.run_bind, run_underlying hu, Result.andThen_ok, Builtin.lenOf, Sem.run_pure, run_sizeT hz, hf, g1]
    · cases h
      refine ⟨rfl, w, ?_, good, Step.refl _ _ _ _⟩
      cases hd with
      | slice hb _ _ _ => cases hs <;> simp [Builtin.copy_, run_underlying hu, Builtin.lenOf, run_sizeT hz, Builtin.firstCells, loadCells, loadCellsFrom, storeCells]
    · cases h
  · split at h
    · cases h
      refine ⟨rfl, w, ?_, good, Step.refl _ _ _ _⟩
      cases hd <;> cases hs <;> simp [Builtin.copy_, run_underlying hu, Builtin.lenOf, run_sizeT hz, Builtin.firstCells, loadCells, loadCellsFrom, storeCells]
    · cases h
  · cases h
theorem copyP_ext {fl : Nat} {S S' : List Blk} {t : TypeId} {d s v : Value} (h : copyP P fl S t d s = some (v, S')) : S' = S ∨ ∃ c k, fl ≤ c ∧ S' = S.set c k := by
  unfold copyP at h
  repeat' split at h
  all_goals first
    | (cases h; done)
    | (cases h; exact .inl rfl)
    | (rename_i hp; cases h; exact .inr (putC_ext hp))

theorem run_appendF {φ : Ren} {fl : Nat} {S S' : List Blk} (good : Good φ S w) (hf : Fresh φ S.length S'.length) {argTypes : Array TypeId} {ty : TypeId} {d d' s s' v : Value} (hd : VRel φ d d') (hs : VRel φ s s') (h : appendF P fl S argTypes.toList d s = some (v, S')) :
    ∃ v' w' ψ, (Builtin.append_ argTypes ty #[d', s']).run P w = .ok v' w' ∧ VRel ψ v v' ∧ Good ψ S' w' ∧ Step fl φ S w ψ S' w' := by
  unfold appendF at h
  simp only [newK_eq, appG_eq] at h
  split at h
  case h_2 => cases h
  rename_i t t2 hat
  split at h
  case isFalse => cases h
  rename_i htt
  subst htt
  have hat' : argTypes = #[t, t] := Array.toList_inj.1 hat
  subst hat'
  split at h
  case h_2 => cases h
  rename_i e hu
  split at h
  case h_2 => cases h
  rename_i i hi
  split at h
  case h_2 => cases h
  rename_i z hz
  split at h
  case isFalse => cases h
  rename_i hcond
  simp only [Bool.and_eq_true, Nat.beq_eq, Nat.ble_eq] at hcond
  obtain ⟨⟨c1, c2⟩, c3⟩ := hcond
  split at h
  case h_2 => cases h
  rename_i b3 off3 m c3'
  split at h
  case h_2 => cases h
  rename_i news hnew
  split at h
  case h_2 => cases h
  rename_i b off n c
  split at h
  case h_2 => cases h
  rename_i olds hold
  simp only [Option.ite_none_right_eq_some, Bool.and_eq_true, Nat.blt_eq, Nat.ble_eq, Option.some.injEq, Prod.mk.injEq] at h
  obtain ⟨⟨hc, hN⟩, rfl, rfl⟩ := h
  have hnn : φ S.length = none := hf _ (Nat.le_refl _) (by simp)
  have hgood : Good φ S w.drew := ⟨good.blk, good.low, good.inj, good.zero, good.room⟩
  cases hd with
  | slice hb hcd hnd hkd =>
    rename_i r c'
    cases hs with
    | slice hb2 hcs hns hks =>
      rename_i r2 cc
      obtain ⟨olds', o1, o2, o3⟩ := cellsAt_world good hb hold
      obtain ⟨news', n1, n2, n3⟩ := cellsAt_world good hb2 hnew
      have hc' : c' = c := by
        rcases hcd with h | h
        · exact h
        · exfalso
          have : unk < 34359738368 + 1 := by omega
          exact absurd this (by decide)
      subst hc'
      have hr := run_append_grow (P := P) w t ty e i z hu hi hz ⟨r, off, none⟩ (n + 1) c' olds' o2 o3 ⟨r2, off3, none⟩ (m + 1) cc news' n2 n3 hc (by omega) (growslice_fits (by omega) (by
        have := Nat.mul_le_mul hN c3
        omega))
      have hge := grownCap_ge w (n + 1 + (m + 1)) c' e
      have hlt : grownCap w (n + 1 + (m + 1)) c' e < unk := Nat.lt_of_le_of_lt (grownCap_le_maxLen w _ c' e (by unfold maxLen; omega)) (by decide)
      have hrel := o1.append n1
      obtain ⟨g1, g2⟩ := hgood.newBuf fl hnn (k := ⟨olds ++ news, e, false, some (.bufc i.size)⟩) (c := grownCap w (n + 1 + (m + 1)) c' e)
        (cells := olds'.toArray ++ news'.toArray ++ Builtin.zeroCells z.cells (grownCap w (n + 1 + (m + 1)) c' e - (n + 1 + (m + 1)))) rfl (by omega) (by
          rw [Array.size_append, Array.size_append, size_zeroCells, List.size_toArray, List.size_toArray, o2, n2, c1, ← Nat.add_mul, ← Nat.add_mul]
          congr 1
          omega) ⟨_, rfl, by
          show LRel φ (olds ++ news) ((olds'.toArray ++ news'.toArray ++ Builtin.zeroCells z.cells (grownCap w (n + 1 + (m + 1)) c' e - (n + 1 + (m + 1)))).toList.take (olds ++ news).length)
          rw [Array.toList_append, Array.toList_append, List.toList_toArray, List.toList_toArray, hrel.1, List.take_left]
          exact hrel, c2⟩
      have hcp : (bufRen φ S.length w.drew.heap.size (grownCap w (n + 1 + (m + 1)) c' e)).cap w.heap.size = grownCap w (n + 1 + (m + 1)) c' e := by unfold bufRen; simp
      exact ⟨_, _, _, hr, .slice (by unfold bufRen; simp) (.inr rfl) hge (fun _ => ⟨hlt, fun _ _ => hcp.symm⟩), g1, ⟨g2.ext, g2.caps, g2.dom, g2.len, g2.dead, g2.keep, g2.frame, g2.size, g2.os, g2.tape, g2.output⟩⟩
theorem appendF_app {fl : Nat} {S S' : List Blk} {ats : List TypeId} {d s v : Value} (h : appendF P fl S ats d s = some (v, S')) : ∃ k, S' = S ++ [k] := by
  unfold appendF at h
  simp only [newK_eq, appG_eq] at h
  repeat' split at h
  all_goals first
    | (cases h; done)
    | (cases h; exact ⟨_, rfl⟩)

theorem buildSlice_rel {φ : Ren} {t elem : TypeId} {len : Nat} {is : List Nat} {vs vs' : List Value} {cells : Array Value} (hv : LRel φ vs vs') (hj : vs.any isJ = false) (hz : zeroOk P t = true)
    (h : buildSliceCells P t len (is.zip vs).toArray = some (elem, cells)) : ∃ cells' : Array Value, buildSliceCells P t len (is.zip vs').toArray = some (elem, cells') ∧ LRel φ cells.toList cells'.toList := by
  unfold buildSliceCells at h ⊢
  unfold zeroOk at hz
  cases hu : P.underlying t with
  | none => simp only [hu] at h; cases h
  | some d =>
    cases d
    case slice e =>
      simp only [hu] at h hz ⊢
      cases hi : P.info? e with
      | none => simp only [hi] at h; cases h
      | some i =>
        simp only [hi] at h hz ⊢
        by_cases hbig : len * i.size > 2 ^ 24
        · rw [if_pos hbig] at h; cases h
        · rw [if_neg hbig] at h ⊢
          by_cases h0 : len * i.size = 0
          · rw [if_pos h0] at h ⊢
            split at h
            · rename_i hp
              cases h
              have hp' : is.zip vs = [] := by simpa using hp
              have hp2 : is.zip vs' = [] := by
                cases is with
                | nil => rfl
                | cons a is => cases vs with
                  | nil => cases vs' with
                    | nil => rfl
                    | cons _ _ => simp [LRel] at hv
                  | cons _ _ => simp at hp'
              exact ⟨#[], by simp [hp2], LRel.nil _⟩
            · cases h
          · rw [if_neg h0] at h ⊢
            cases hzz : i.zero with
            | none => simp only [hzz] at h; cases h
            | some z =>
              simp only [hzz, Bool.and_eq_true] at h hz ⊢
              have h1 : 1 ≤ z.cells.size := Nat.le_of_ble_eq_true hz.2
              have hs : (((Array.range (len * i.size)).map (z.cells[· % z.cells.size]!)).toList).all scalar = true := by
                simp only [Array.toList_map, List.all_eq_true, List.mem_map]
                rintro v ⟨j, _, rfl⟩
                have hlt : j % z.cells.size < z.cells.size := Nat.mod_lt _ h1
                rw [getElem!_pos z.cells _ hlt]
                exact List.all_eq_true.1 hz.1 _ (by simp)
              split at h
              · rename_i cs hf
                cases h
                obtain ⟨r', r1, r2⟩ := fill_rel is vs vs' _ _ cells hv hj (list_refl scalar (fun _ => scalar_refl) hs) (by simpa using hf)
                refine ⟨r', ?_, r2⟩
                rw [r1]
              · cases h
    all_goals (simp only [hu] at h; cases h)
theorem rel_callee {φ : Ren} {f f' : Value} {vs vs' : List Value} {g : FuncId} {args : List Value} (hf : VRel φ f f') (hvs : LRel φ vs vs') (h : callee P f vs = some (.call g args)) :
    ∃ args' : List Value, (do let d ← Deferred.ofValue f' vs'.toArray; invoke d.target d.args : Sem Next).run P w = .ok (.enter g args'.toArray) w ∧ LRel φ args args' := by
  unfold callee at h
  split at h
  · cases hf with
    | func g' hx ex hc ec =>
      rename_i x c x' c'
      split at h
      · rename_i fn hfn
        split at h
        · cases h
        · rename_i hname
          split at h
          · rename_i body hbody
            simp only [Option.some.injEq, R.call.injEq] at h
            obtain ⟨rfl, rfl⟩ := h
            refine ⟨x'.toList ++ vs' ++ c'.toList, ?_, (LRel.append (LRel.append ⟨hx, ex⟩ hvs) ⟨hc, ec⟩)⟩
            have hname' : ¬ fn.name = "runtime.NumGoroutine" := by simpa using hname
            simp [Deferred.ofValue, invoke, callFunc, program, Sem.run, hfn, hname', hbody]
          · cases h
      · cases h
  · split at h <;> cases h
  · cases h
theorem rel_round {φ : Ren} {f f' : Value} {vs vs' : List Value} {l : Nat} {args : List Value} (hf : VRel φ f f') (h : callee P f vs = some (.round l args)) :
    ∃ r, φ l = some r ∧ args = vs ∧ (do let d ← Deferred.ofValue f' vs'.toArray; invoke d.target d.args : Sem Next).run P w = (Instr.yield r vs'.toArray).run P w := by
  unfold callee at h
  split at h
  · cases hf with
    | func g' hx ex hc ec =>
      split at h
      · split at h
        · cases h
        · split at h <;> cases h
      · cases h
  · cases hf with
    | yield hl =>
      rename_i r
      split at h
      · cases h
        exact ⟨r, hl, rfl, by simp [Deferred.ofValue, invoke]⟩
      · cases h
  · cases h
theorem callee_call {f : Value} {vs : List Value} {v : Value} {S : List Blk} (h : callee P f vs = some (.val v S)) : False := by
  unfold callee at h
  repeat' split at h
  all_goals cases h
theorem mapAt_heap {φ : Ren} {S : List Blk} (good : Good φ S w) {x x' : Value} (hx : VRel φ x x') {b : Nat} {es : List MapEntry} {clock : Nat} (h : mapAt S x = some (b, es, clock)) :
    ∃ r, x' = .map (some r) ∧ φ b = some r ∧ b < S.length ∧ w.heap[r]? = some (.map es.toArray clock) := by
  rw [mapAt_eqO] at h; unfold mapAtO at h
  split at h
  · rename_i b2
    split at h
    · rename_i hk
      cases h
      cases hx with
      | map hb =>
        obtain ⟨o, h1, h2⟩ := good.blk _ _ _ hk hb
        exact ⟨_, rfl, hb, (List.getElem?_eq_some_iff.1 hk).1, by rw [h1]; exact congrArg some h2⟩
    · cases h
  · cases h
theorem mapAt_blk {S : List Blk} {x : Value} {b : Nat} {es : List MapEntry} {clock : Nat} (h : mapAt S x = some (b, es, clock)) : ∃ k, S[b]? = some k ∧ k.obj = some (.map es clock) := by
  rw [mapAt_eqO] at h; unfold mapAtO at h
  split at h
  · split at h
    · rename_i hk
      cases h
      exact ⟨_, hk, rfl⟩
    · cases h
  · cases h
theorem run_rangeP {t : TypeId} {x : Value} {s : ByteArray} (h : rangeP P t x = some s) : x = .string s ∧ (Instr.range t (.string s)).run P w = .ok (.pointer (some ⟨w.heap.size, 0, none⟩)) (w.alloc (.stringIter s 0)) := by
  unfold rangeP at h
  split at h
  · rename_i hu
    cases h
    refine ⟨rfl, ?_⟩
    simp only [Instr.range, Sem.run_bind, run_underlying hu, Result.andThen_ok, Sem.run_pure]
    rfl
  · cases h
theorem nextP_set {fl : Nat} {S S' : List Blk} {x v : Value} (h : nextP fl S x = some (v, S')) : S' = S ∨ ∃ b K, fl ≤ b ∧ S' = S.set b K := by
  rw [nextP_eqO] at h; unfold nextPO at h
  simp only [forceK_eq] at h
  split at h
  · split at h
    · split at h
      · rename_i hc
        simp only [decide_eq_true_eq] at hc
        split at h
        · cases h; exact .inr ⟨_, _, hc, rfl⟩
        · cases h; exact .inl rfl
      · cases h
    · cases h
  · cases h
theorem run_nextP {φ : Ren} {S S' : List Blk} {fl : Nat} (good : Good φ S w) {t : TypeId} {x x' v : Value} (hx : VRel φ x x') (h : nextP fl S x = some (v, S')) :
    plain v = true ∧ ∃ w', (Instr.next x' true t).run P w = .ok v w' ∧ Good φ S' w' ∧ Step fl φ S w φ S' w' := by
  rw [nextP_eqO] at h; unfold nextPO at h
  simp only [forceK_eq] at h
  split at h
  · rename_i b
    split at h
    · rename_i s pos hk
      cases hx with
      | ptr hb =>
        rename_i r
        obtain ⟨o, h1, h2⟩ := good.blk _ _ _ hk hb
        have h2' : o = .stringIter s pos := h2
        subst h2'
        have hrs : r < w.heap.size := good.low b r hb
        have hg : (getObj r).run P w = .ok (.stringIter s pos) w := by simp [getObj, Sem.run, h1]
        split at h
        · rename_i hc
          simp only [decide_eq_true_eq] at hc
          split at h
          · rename_i hp
            generalize hd : Utf8.decode s pos = d at h
            obtain ⟨c, width⟩ := d
            cases h
            have hput : (setObj r (.stringIter s (pos + width))).run P w = .ok () { w with heap := w.heap.setIfInBounds r (.stringIter s (pos + width)) } := by
              simp [setObj, Sem.run, h1]
            obtain ⟨g1, g2⟩ := good.turn (w' := { w with heap := w.heap.setIfInBounds r (.stringIter s (pos + width)) }) (fl := fl) (k := iterBlk s (pos + width)) (o := .stringIter s (pos + width)) (List.getElem?_eq_some_iff.1 hk).1 hb hc (by simp [BRel, iterBlk]) (fun d => d.not hk (by simp)) (good.room b _ r hk hb) (fun q => by
              by_cases e : q = r
              · subst e; simp [hrs]
              · rw [if_neg e]; exact Array.getElem?_setIfInBounds_ne (fun z => e z.symm)) (by simp) rfl rfl rfl
            refine ⟨by simp [plain, flat, scalar, goInt], _, ?_, g1, g2⟩
            simp only [Instr.next, Sem.run_bind, hg, Result.andThen_ok, hp, if_true, hd, hput, Sem.run_pure]
          · rename_i hp
            cases h
            refine ⟨by simp [plain, flat, scalar], w, ?_, good, Step.refl _ _ _ _⟩
            simp only [Instr.next, Sem.run_bind, hg, Result.andThen_ok, hp, if_false, Sem.run_pure]
        · cases h
    · cases h
  · cases h
theorem run_part_int {e : TypeId} {q : IntKind} (he : P.underlying e = some (.int q)) {xs : Array Value} {off : Nat} {v : Value} (h : xs.toList[off]? = some v) : (part e xs off).run P w = .ok v w := by
  have h' : xs[off]? = some v := by simpa using h
  simp [part, isAgg, run_underlying he, h', Result.andThen]
theorem run_eqIs {d : Nat} {e : TypeId} {q : IntKind} (hu : P.underlying e = some (.int q)) {xs ys : Array Value} {n : Nat} : ∀ (is : List Nat) (r : Bool), eqIs xs.toList ys.toList n is = some r → (Op.eqItems (d + 1) e n xs ys is).run P w = .ok r w := by
  intro is
  induction is with
  | nil => intro r h; cases h; simp [Op.eqItems]
  | cons i is ih =>
    intro r h
    simp only [eqIs] at h
    split at h
    · rename_i j a k b hx hy
      split at h
      · rename_i hjk
        subst hjk
        split at h
        · rename_i r' hr'
          cases h
          have e1 := ih r' hr'
          simp only [Op.eqItems, Sem.run_bind, run_part_int hu hx, run_part_int hu hy, Result.andThen_ok, run_equalIn_int w d e j q a b hu]
          cases hab : (a == b) with
          | true => simpa using e1
          | false => simp
        · cases h
      · cases h
    · cases h
theorem run_part_arr {t e : TypeId} {n : Nat} (ht : P.underlying t = some (.array n e)) (xs : Array Value) (off : Nat) :
    (part t xs off).run P w = .ok (.agg (xs.extract off (off + P.cellsOf t))) w := by
  obtain ⟨i, hi⟩ := info_of_underlying ht
  simp [part, isAgg, run_underlying ht, Result.andThen, run_sizeOf w hi]
theorem extract_list (xs : Array Value) (off n : Nat) : (xs.extract off (off + n)).toList = (xs.toList.drop off).take n := by
  simp [Array.toList_extract, List.extract]
theorem run_eqFs {d : Nat} {xs ys : Array Value} : ∀ (fs : List Field) (r : Bool), eqFs P xs.toList ys.toList fs = some r → (Op.eqFields (d + 2) xs ys fs).run P w = .ok r w := by
  intro fs
  induction fs with
  | nil => intro r h; cases h; simp [Op.eqFields]
  | cons f fs ih =>
    intro r h
    simp only [eqFs] at h
    split at h
    · cases h
    · rename_i hn
      split at h
      · rename_i q hu
        split at h
        · rename_i j a k b hx hy
          split at h
          · rename_i hjk
            subst hjk
            split at h
            · rename_i r' hr'
              cases h
              have e1 := ih r' hr'
              simp only [Op.eqFields, hn, ne_eq, not_false_eq_true, if_true, Sem.run_bind, run_part_int hu hx, run_part_int hu hy, Result.andThen_ok, run_equalIn_int w (d + 1) f.type j q a b hu]
              cases hab : (a == b) with
              | true => simpa using e1
              | false => simp
            · cases h
          · cases h
        · cases h
      · rename_i n e hu
        split at h
        · rename_i q hq
          split at h
          · rename_i r1 h1
            split at h
            · rename_i r' hr'
              cases h
              have e1 := ih r' hr'
              obtain ⟨i, hi⟩ := info_of_underlying hq
              rw [← extract_list, ← extract_list] at h1
              have e2 := (run_equalIn_array w (d + 1) (xs.extract f.offset (f.offset + P.cellsOf f.type)) (ys.extract f.offset (f.offset + P.cellsOf f.type)) hu hi).trans (run_eqIs (w := w) (d := d) hq _ _ h1)
              simp only [Op.eqFields, hn, ne_eq, not_false_eq_true, if_true, Sem.run_bind, run_part_arr hu, Result.andThen_ok, e2]
              cases r1 with
              | true => simpa using e1
              | false => simp
            · cases h
          · cases h
        · cases h
      · cases h
theorem run_eqAgg {t : TypeId} {xs ys : Array Value} {r : Bool} (h : eqAgg P t xs.toList ys.toList = some r) : P.eqGuardType P.depth t = false ∧ (Op.equal t (.agg xs) (.agg ys)).run P w = .ok r w := by
  unfold eqAgg at h
  split at h
  · cases h
  · rename_i hg
    refine ⟨by simpa using hg, ?_⟩
    split at h
    · rename_i fs hu
      split at h
      · cases h
      · rename_i hs
        have hfs : P.fieldsOf t = fs := by simp [Program.fieldsOf, hu]
        have := run_equalIn_struct w 9999 t xs ys (by rw [hfs]; exact hu) (by simpa using hs)
        rw [hfs] at this
        exact this.trans (run_eqFs (d := 9997) _ _ h)
    · rename_i n e hu
      split at h
      · rename_i q hq
        obtain ⟨i, hi⟩ := info_of_underlying hq
        exact (run_equalIn_array w 9999 xs ys hu hi).trans (run_eqIs (d := 9998) hq _ _ h)
      · cases h
    · cases h
theorem run_fastEql {op : BinOp} {t : TypeId} {x y : Operand} {xs ys : Array Value} {v : Value} (h : fastEql P op t xs.toList ys.toList = some v) :
    (do eqGuard op t x y (.agg xs) (.agg ys); binOp op t (.agg xs) (.agg ys) : Sem Value).run P w = .ok v w ∧ ∃ b, v = .bool b := by
  unfold fastEql at h
  split at h
  · split at h
    · rename_i r hr
      cases h
      obtain ⟨h1, h2⟩ := run_eqAgg (w := w) hr
      refine ⟨?_, _, rfl⟩
      simp only [eqGuard, Bool.not_true, Bool.false_eq_true, if_false, Sem.run_bind, run_program, Result.andThen_ok, h1, Bool.not_false, if_true, Sem.run_pure, binOp, h2]
    · cases h
  · split at h
    · rename_i r hr
      cases h
      obtain ⟨h1, h2⟩ := run_eqAgg (w := w) hr
      refine ⟨?_, _, rfl⟩
      simp only [eqGuard, Bool.not_true, Bool.false_eq_true, if_false, Sem.run_bind, run_program, Result.andThen_ok, h1, Bool.not_false, if_true, Sem.run_pure, binOp, h2]
    · cases h
  · cases h
theorem keyEq_run {kt : TypeId} {k k2 : Value} {b : Bool} (h : keyEq P kt k k2 = some b) : (Op.equal kt k k2).run P w = .ok b w := by
  unfold keyEq at h
  split at h
  · split at h
    · exact (run_eqAgg (w := w) h).2
    · cases h
  · split at h
    · split at h
      · rename_i hu
        split at h
        · rename_i hj
          cases h
          unfold Op.equal Op.maxDepth
          unfold Op.equalIn
          simp only [Sem.run_bind, run_underlying hu, Result.andThen_ok]
          simp [hj]
        · cases h
      · cases h
    · cases h
  · cases h
theorem findNow_int {kt : TypeId} {kd : IntKind} (hu : P.underlying kt = some (.int kd)) {k : Value} : ∀ (es : List MapEntry) (i : Nat), okKeys P kt k es = true → Instr.findNow (.int kd) k es i = some (firstK P kt k es i) := by
  intro es
  induction es with
  | nil => intro i _; rfl
  | cons e es ih =>
    intro i h
    simp only [okKeys, Bool.and_eq_true] at h
    obtain ⟨h1, h2⟩ := h
    cases hk : keyEq P kt k e.key with
    | none => rw [hk] at h1; cases h1
    | some b =>
      have hs : Instr.sameNow (.int kd) k e.key = some b := by
        unfold keyEq at hk
        split at hk
        · split at hk
          · rename_i xs _ ys _
            have : eqAgg P kt xs.toList ys.toList = none := by unfold eqAgg; rw [hu]; split <;> rfl
            rw [this] at hk; cases hk
          · cases hk
        · split at hk
          · rename_i he
            rw [hu] at hk
            simp only at hk
            rw [he]
            exact hk
          · cases hk
        · cases hk
      simp only [Instr.findNow, hs, firstK, hitK, hk]
      cases b with
      | true => rfl
      | false => exact ih (i + 1) h2
theorem findAsking_run {kt : TypeId} {k : Value} : ∀ (es : List MapEntry) (i : Nat), okKeys P kt k es = true → (Instr.findAsking kt k es i).run P w = .ok (firstK P kt k es i) w := by
  intro es
  induction es with
  | nil => intro i _; rfl
  | cons e es ih =>
    intro i h
    simp only [okKeys, Bool.and_eq_true] at h
    obtain ⟨h1, h2⟩ := h
    cases hk : keyEq P kt k e.key with
    | none => rw [hk] at h1; cases h1
    | some b =>
      simp only [Instr.findAsking, Sem.run_bind, keyEq_run (w := w) hk, Result.andThen_ok, firstK, hitK, hk]
      cases b with
      | true => rfl
      | false => exact ih (i + 1) h2
theorem findFast_run {kt : TypeId} {k : Value} {es : List MapEntry} {q : Option (Nat × Value)} (h : findFast P kt k es = some q) : (Instr.findKey kt k es).run P w = .ok q w := by
  unfold findFast at h
  cases hs : structT P kt && okKeys P kt k es with
  | false => rw [hs] at h; cases h
  | true =>
    rw [hs] at h
    simp only [Bool.and_eq_true] at hs
    obtain ⟨h1, h2⟩ := hs
    cases h
    unfold structT at h1
    split at h1
    · rename_i fs hu
      simp only [Instr.findKey, Sem.run_bind, run_underlying hu, Result.andThen_ok]
      cases es with
      | nil => rfl
      | cons e es =>
        have : Instr.findNow (.struct fs) k (e :: es) 0 = none := by
          simp only [Instr.findNow, Instr.sameNow]
        rw [this]
        exact findAsking_run _ _ h2
    · rename_i kd hu
      simp only [Instr.findKey, Sem.run_bind, run_underlying hu, Result.andThen_ok, findNow_int hu _ _ h2, Sem.run_pure]
    · cases h1
theorem findIn_run {kt : TypeId} {e : Bool} {es : List MapEntry} {k : Value} {r : Option (Nat × Value)} (h : findIn P kt e es k = some r) :
    plain k = true ∧ (∃ u : Unit, (Instr.checkKey e 10000 kt k).run P w = .ok u w) ∧ (Instr.findKey kt k es).run P w = .ok r w := by
  unfold findIn at h
  split at h
  · rename_i hp
    split at h
    · rename_i u hc
      refine ⟨hp, ⟨u, pureSem_run hc w⟩, ?_⟩
      split at h
      · rename_i q hq
        cases h
        exact findFast_run hq
      · exact pureSem_run h w
    · cases h
  · cases h
theorem plainly_eq {r v : Value} (h : plainly r = some v) : plain v = true ∧ v = r := by
  unfold plainly at h
  split at h
  · rename_i hp; cases h; exact ⟨hp, rfl⟩
  · cases h
theorem run_getMap {r : Nat} {es : Array MapEntry} {c : Nat} (hb : w.heap[r]? = some (.map es c)) : (getObj r).run P w = .ok (.map es c) w := by
  simp [getObj, Sem.run, hb]
theorem run_lookupP {φ : Ren} {S : List Blk} (good : Good φ S w) {t : TypeId} {x x' k v : Value} {ok : Bool} (hx : VRel φ x x') (h : lookupP P t S x k ok = some v) :
    plain k = true ∧ plain v = true ∧ (Instr.lookup t x' k ok).run P w = .ok v w := by
  unfold lookupP at h
  split at h
  · rename_i kt et b es clock hu hm
    obtain ⟨r, rfl, hb, _, hh⟩ := mapAt_heap good hx hm
    split at h
    · rename_i i v0 hf
      obtain ⟨h1, ⟨u, h2⟩, h3⟩ := findIn_run (w := w) hf
      obtain ⟨hp, rfl⟩ := plainly_eq h
      refine ⟨h1, hp, ?_⟩
      simp only [Instr.lookup, Sem.run_bind, run_underlying hu, Result.andThen_ok, run_getMap hh, Sem.run_pure, h2, h3]
      rfl
    · rename_i hf
      obtain ⟨h1, ⟨u, h2⟩, h3⟩ := findIn_run (w := w) hf
      split at h
      · rename_i z hz
        obtain ⟨hp, rfl⟩ := plainly_eq h
        refine ⟨h1, hp, ?_⟩
        simp only [Instr.lookup, Sem.run_bind, run_underlying hu, Result.andThen_ok, run_getMap hh, Sem.run_pure, h2, h3, run_zeroT hz]
        rfl
      · cases h
    · cases h
  · cases h
theorem run_updateP {φ : Ren} {S S' : List Blk} {fl : Nat} (good : Good φ S w) {t : TypeId} {x x' k v : Value} (hx : VRel φ x x') (h : updateP P fl t S x k v = some S') :
    plain k = true ∧ plain v = true ∧ ∃ w', (Instr.mapUpdate t x' k v).run P w = .ok () w' ∧ Good φ S' w' ∧ Step fl φ S w φ S' w' := by
  rw [updateP_eqO] at h; unfold updatePO at h
  simp only [forceK_eq] at h
  split at h
  · rename_i kt et b es clock hu hm
    obtain ⟨r, rfl, hb, hlt, hh⟩ := mapAt_heap good hx hm
    obtain ⟨kb, hkb, hkm⟩ := mapAt_blk hm
    have hlive : ¬ Dead S b := fun d => d.not hkb (by rw [hkm]; simp)
    have hroom : ∀ (es : List MapEntry) (clock : Nat) (w' : World), Room φ r (mapBlk es clock) w' := fun _ _ _ => by
      have := good.room b kb r hkb hb
      unfold Room at this
      rw [hkm] at this
      exact .none this rfl
    have hrs : r < w.heap.size := good.low b r hb
    have hput : ∀ o : Obj, (setObj r o).run P w = .ok () { w with heap := w.heap.setIfInBounds r o } := by
      intro o; simp [setObj, Sem.run, hh]
    have hget : ∀ (o : Obj) (s : Nat), ({ w with heap := w.heap.setIfInBounds r o } : World).heap[s]? = if s = r then some o else w.heap[s]? := by
      intro o s
      by_cases e : s = r
      · subst e; simp [hrs]
      · rw [if_neg e]; exact Array.getElem?_setIfInBounds_ne (fun q => e q.symm)
    split at h
    · rename_i hc
      simp only [Bool.and_eq_true, decide_eq_true_eq] at hc
      split at h
      · rename_i i v0 hf
        obtain ⟨h1, ⟨u, h2⟩, h3⟩ := findIn_run (w := w) hf
        split at h
        · rename_i key hk
          cases h
          have h4 := pureSem_run hk w
          obtain ⟨g1, g2⟩ := good.turn (fl := fl) (k := mapBlk (es.toArray.modify i fun e => { e with key := key, val := v }).toList clock) (o := .map (es.toArray.modify i fun e => { e with key := key, val := v }) clock) hlt hb hc.1 (by simp [BRel, mapBlk]) hlive (hroom _ _ _) (hget _) (by simp) rfl rfl rfl
          refine ⟨h1, hc.2, _, ?_, g1, g2⟩
          simp only [Instr.mapUpdate, Sem.run_bind, run_underlying hu, Result.andThen_ok, run_getMap hh, h2, h3, h4, hput]
        · cases h
      · rename_i hf
        obtain ⟨h1, ⟨u, h2⟩, h3⟩ := findIn_run (w := w) hf
        cases h
        obtain ⟨g1, g2⟩ := good.turn (fl := fl) (k := mapBlk (es ++ [{ key := k, val := v, born := clock }]) (clock + 1)) (o := .map (es.toArray.push { key := k, val := v, born := clock }) (clock + 1)) hlt hb hc.1 (by simp [BRel, mapBlk]) hlive (hroom _ _ _) (hget _) (by simp) rfl rfl rfl
        refine ⟨h1, hc.2, _, ?_, g1, g2⟩
        simp only [Instr.mapUpdate, Sem.run_bind, run_underlying hu, Result.andThen_ok, run_getMap hh, h2, h3, hput]
      · cases h
    · cases h
  · cases h
theorem okKeys_rel {φ : Ren} {kt : TypeId} {k : Value} : ∀ {es es' : List MapEntry}, ERel φ es es' → okKeys P kt k es' = okKeys P kt k es
  | [], [], _ => rfl
  | _ :: _, _ :: _, h => by simp only [okKeys, h.1, okKeys_rel h.2.2.2]
  | [], _ :: _, h => h.elim
  | _ :: _, [], h => h.elim
/-- What is found, in both. -/
def QRel (φ : Ren) : Option (Nat × Value) → Option (Nat × Value) → Prop
  | none, q => q = none
  | some (i, v), q => ∃ v', q = some (i, v') ∧ VRel φ v v'
theorem firstK_rel {φ : Ren} {kt : TypeId} {k : Value} : ∀ {es es' : List MapEntry} (i : Nat), ERel φ es es' → QRel φ (firstK P kt k es i) (firstK P kt k es' i)
  | [], [], _, _ => rfl
  | e :: es, e' :: es', i, h => by
    have : hitK P kt k e' = hitK P kt k e := by simp only [hitK, h.1]
    simp only [firstK, this]
    cases hitK P kt k e with
    | true => exact ⟨_, rfl, h.2.2.1⟩
    | false => exact firstK_rel (i + 1) h.2.2.2
  | [], _ :: _, _, h => h.elim
  | _ :: _, [], _, h => h.elim
theorem ERel.nil_iff {φ : Ren} {es es' : List MapEntry} (h : ERel φ es es') : es'.toArray.isEmpty = es.isEmpty := by
  cases es <;> cases es' <;> first | rfl | exact h.elim
theorem ERel.push {φ : Ren} {x : MapEntry} {v' : Value} (hv : VRel φ x.val v') : ∀ {es es' : List MapEntry}, ERel φ es es' → ERel φ (es ++ [x]) (es' ++ [{ x with val := v' }])
  | [], [], _ => ⟨rfl, rfl, hv, trivial⟩
  | _ :: _, _ :: _, h => ⟨h.1, h.2.1, h.2.2.1, ERel.push hv h.2.2.2⟩
  | [], _ :: _, h => h.elim
  | _ :: _, [], h => h.elim
theorem ERel.refl {φ : Ren} : ∀ {es : List MapEntry}, allR (fun e => plain e.val) es = true → ERel φ es es
  | [], _ => trivial
  | e :: es, h => by
    rw [allR_eq, List.all_cons, Bool.and_eq_true, ← allR_eq] at h
    exact ⟨rfl, rfl, plain_refl h.1, ERel.refl h.2⟩
theorem ERel.len {φ : Ren} : ∀ {es es' : List MapEntry}, ERel φ es es' → es'.length = es.length
  | [], [], _ => rfl
  | _ :: _, _ :: _, h => congrArg (· + 1) (ERel.len h.2.2.2)
  | [], _ :: _, h => h.elim
  | _ :: _, [], h => h.elim
theorem mapVAt_heap {φ : Ren} {S : List Blk} (good : Good φ S w) {x x' : Value} (hx : VRel φ x x') {b : Nat} {es : List MapEntry} {clock : Nat} (h : mapVAt S x = some (b, es, clock)) :
    ∃ r es', x' = .map (some r) ∧ φ b = some r ∧ b < S.length ∧ w.heap[r]? = some (.map es'.toArray clock) ∧ ERel φ es es' := by
  unfold mapVAt at h
  split at h
  · rename_i b2
    rw [getR_eq] at h
    split at h
    · rename_i hk
      split at h
      · rename_i hp
        cases h
        cases hx with
        | map hb =>
          obtain ⟨o, h1, h2⟩ := good.blk _ _ _ hk hb
          exact ⟨_, _, rfl, hb, (List.getElem?_eq_some_iff.1 hk).1, by rw [h1]; exact congrArg some h2, ERel.refl hp⟩
      · cases h
    · rename_i hk
      cases h
      cases hx with
      | map hb =>
        obtain ⟨o, h1, es', h2, h3⟩ := good.blk _ _ _ hk hb
        exact ⟨_, es', rfl, hb, (List.getElem?_eq_some_iff.1 hk).1, by rw [h1]; exact congrArg some h2, h3⟩
    · cases h
  · cases h
theorem mapVAt_blk {S : List Blk} {x : Value} {b : Nat} {es : List MapEntry} {clock : Nat} (h : mapVAt S x = some (b, es, clock)) : ∃ k, S[b]? = some k ∧ k.obj ≠ some .dead ∧ isBuf k = false := by
  unfold mapVAt at h
  split at h
  · rw [getR_eq] at h
    split at h
    · rename_i hk; split at h <;> cases h; exact ⟨_, hk, by simp, rfl⟩
    · rename_i hk; cases h; exact ⟨_, hk, by simp, rfl⟩
    · cases h
  · cases h
theorem findV_run {φ : Ren} {kt : TypeId} {e : Bool} {es es' : List MapEntry} {k : Value} {r : Option (Nat × Value)} (h : findV P kt e es k = some r) (hr : ERel φ es es') :
    plain k = true ∧ (∃ u : Unit, (Instr.checkKey e 10000 kt k).run P w = .ok u w) ∧ ∃ r', (Instr.findKey kt k es').run P w = .ok r' w ∧ QRel φ r r' := by
  unfold findV at h
  split at h
  · rename_i hp
    split at h
    · rename_i u hc
      refine ⟨hp, ⟨u, pureSem_run hc w⟩, ?_⟩
      unfold findFast at h
      cases hs : structT P kt && okKeys P kt k es with
      | false => rw [hs] at h; cases h
      | true =>
        rw [hs] at h
        cases h
        refine ⟨firstK P kt k es' 0, findFast_run ?_, firstK_rel 0 hr⟩
        unfold findFast
        rw [okKeys_rel hr, hs]
        rfl
    · cases h
  · cases h
theorem okVal_rel {φ : Ren} {v v' : Value} (h : VRel φ v v') (ok b : Bool) : VRel φ (okVal ok v b) (okVal ok v' b) := by
  cases ok with
  | false => exact h
  | true =>
    refine .tuple rfl ?_
    exact (LRel.cons h (LRel.cons (.bool b) (LRel.nil φ))).2
theorem run_lookupV {φ : Ren} {S : List Blk} (good : Good φ S w) {t : TypeId} {x x' k v : Value} {ok : Bool} (hx : VRel φ x x') (h : lookupV P t S x k ok = some v) :
    plain k = true ∧ ∃ v', VRel φ v v' ∧ (Instr.lookup t x' k ok).run P w = .ok v' w := by
  unfold lookupV at h
  split at h
  · rename_i kt et b es clock hu hm
    obtain ⟨r, es', rfl, hb, _, hh, hr⟩ := mapVAt_heap good hx hm
    split at h
    · rename_i i v0 hf
      rw [← hr.nil_iff] at hf
      obtain ⟨h1, ⟨u, h2⟩, q, h3, v1, rfl, h4⟩ := findV_run (w := w) hf hr
      cases h
      refine ⟨h1, okVal ok v1 true, okVal_rel h4 _ _, ?_⟩
      simp only [Instr.lookup, Sem.run_bind, run_underlying hu, Result.andThen_ok, run_getMap hh, Sem.run_pure, h2, h3]
      rfl
    · rename_i hf
      rw [← hr.nil_iff] at hf
      obtain ⟨h1, ⟨u, h2⟩, q, h3, rfl⟩ := findV_run (w := w) hf hr
      split at h
      · rename_i z hz
        obtain ⟨hp, rfl⟩ := plainly_eq h
        refine ⟨h1, _, plain_refl hp, ?_⟩
        simp only [Instr.lookup, Sem.run_bind, run_underlying hu, Result.andThen_ok, run_getMap hh, Sem.run_pure, h2, h3, run_zeroT hz]
        rfl
      · cases h
    · cases h
  · cases h
theorem run_updateV {φ : Ren} {S S' : List Blk} {fl : Nat} (good : Good φ S w) {t : TypeId} {x x' k v v' : Value} (hx : VRel φ x x') (hv : VRel φ v v') (h : updateV P fl t S x k v = some S') :
    plain k = true ∧ ∃ w', (Instr.mapUpdate t x' k v').run P w = .ok () w' ∧ Good φ S' w' ∧ Step fl φ S w φ S' w' := by
  unfold updateV at h
  simp only [appG_eq, setG_eq] at h
  split at h
  · rename_i kt et b es clock hu hm
    obtain ⟨r, es', rfl, hb, hlt, hh, hr⟩ := mapVAt_heap good hx hm
    obtain ⟨kb, hkb, hkm, hkn⟩ := mapVAt_blk hm
    have hlive : ¬ Dead S b := fun d => d.not hkb hkm
    have hrs : r < w.heap.size := good.low b r hb
    have hput : ∀ o : Obj, (setObj r o).run P w = .ok () { w with heap := w.heap.setIfInBounds r o } := by
      intro o; simp [setObj, Sem.run, hh]
    have hget : ∀ (o : Obj) (s : Nat), ({ w with heap := w.heap.setIfInBounds r o } : World).heap[s]? = if s = r then some o else w.heap[s]? := by
      intro o s
      by_cases e : s = r
      · subst e; simp [hrs]
      · rw [if_neg e]; exact Array.getElem?_setIfInBounds_ne (fun q => e q.symm)
    split at h
    · rename_i hc
      simp only [decide_eq_true_eq] at hc
      split at h
      · rename_i hf
        obtain ⟨h1, ⟨u, h2⟩, q, h3, rfl⟩ := findV_run (w := w) hf hr
        cases h
        have hroom : ∀ (es : List MapEntry) (clock : Nat) (w' : World), Room φ r ⟨[], 0, true, some (.mapv es clock)⟩ w' := fun _ _ _ => by
          have := good.room b kb r hkb hb
          refine .none ?_ rfl
          unfold Room at this
          unfold isBuf at hkn
          split at this <;> simp_all
        obtain ⟨g1, g2⟩ := good.turn (fl := fl) (k := ⟨[], 0, true, some (.mapv (es ++ [{ key := k, val := v, born := clock }]) (clock + 1))⟩) (o := .map (es'.toArray.push { key := k, val := v', born := clock }) (clock + 1)) hlt hb hc
          ⟨es' ++ [{ key := k, val := v', born := clock }], by simp, ERel.push (x := { key := k, val := v, born := clock }) hv hr⟩ hlive (hroom _ _ _) (hget _) (by simp) rfl rfl rfl
        refine ⟨h1, _, ?_, g1, g2⟩
        simp only [Instr.mapUpdate, Sem.run_bind, run_underlying hu, Result.andThen_ok, run_getMap hh, h2, h3, hput]
      · cases h
    · cases h
  · cases h
theorem updateV_set {fl : Nat} {t : TypeId} {S S' : List Blk} {x k v : Value} (h : updateV P fl t S x k v = some S') : ∃ b K, fl ≤ b ∧ S' = S.set b K := by
  unfold updateV at h
  simp only [appG_eq, setG_eq] at h
  split at h
  · split at h
    · rename_i hc
      simp only [decide_eq_true_eq] at hc
      split at h
      · cases h; exact ⟨_, _, hc, rfl⟩
      · cases h
    · cases h
  · cases h
theorem updateP_set {fl : Nat} {t : TypeId} {S S' : List Blk} {x k v : Value} (h : updateP P fl t S x k v = some S') : ∃ b K, fl ≤ b ∧ S' = S.set b K := by
  rw [updateP_eqO] at h; unfold updatePO at h
  simp only [forceK_eq] at h
  split at h
  · split at h
    · rename_i hc
      simp only [Bool.and_eq_true, decide_eq_true_eq] at hc
      split at h
      · split at h
        · cases h; exact ⟨_, _, hc.1, rfl⟩
        · cases h
      · cases h; exact ⟨_, _, hc.1, rfl⟩
      · cases h
    · cases h
  · cases h
end
end Go.Proofs.XX.Vm
/- A small evaluator over a shadow heap, part 5: every operation. -/
namespace Go.Proofs.XX.Vm
open Go Go.RowKit

section
variable {P : Program} {w : World}

theorem opds_get {gl : Nat} {T : List Value} : ∀ {l : List Operand} {vs : List Value}, opds gl T l = some vs → ∀ x ∈ l, ∃ v ∈ vs, opd gl T x = some v := by
  intro l
  induction l with
  | nil => intro vs _ x hx; cases hx
  | cons y l ih =>
    intro vs h x hx
    simp only [opds] at h
    split at h
    · rename_i v vs' h1 h2
      cases h
      cases hx with
      | head => exact ⟨v, by simp, h1⟩
      | tail _ hm => obtain ⟨u, g1, g2⟩ := ih h2 x hm; exact ⟨u, by simp [g1], g2⟩
    · cases h

theorem opds_map {gl : Nat} {T : List Value} : ∀ {l : List Operand} {vs : List Value}, opds gl T l = some vs → vs = l.map fun x => (opd gl T x).getD undef := by
  intro l
  induction l with
  | nil => intro vs h; simp only [opds, Option.some.injEq] at h; subst h; rfl
  | cons y l ih =>
    intro vs h
    simp only [opds] at h
    split at h
    · rename_i v vs' h1 h2
      cases h
      simp [h1, ih h2]
    · cases h

theorem pureOp_select {op : Op} (h : pureOp op = true) : ∀ cs b, op ≠ .select cs b := by
  intro cs b e; subst e; simp [pureOp] at h

theorem run_pureOp {gl : Nat} {φ : Ren} {S : List Blk} (ok : Ok gl φ S w) {T : List Value} {a : Act} (hT : LRel φ T a.tmps.toList) {o : Oper} {vs : List Value} {v : Value}
    (hvs : opds gl T o.op.operands.toList = some vs) (hp : pureOp o.op = true) (hall : vs.all plain = true)
    (h : pureSem P (execOp (fun x => (opd gl T x).getD undef) o) = some (.value v)) : (execOp a.eval o).run P w = .ok (.value v) w := by
  have : execOp a.eval o = execOp (fun x => (opd gl T x).getD undef) o := by
    refine execOp_congr o (pureOp_select hp) fun x hx => ?_
    obtain ⟨u, g1, g2⟩ := opds_get hvs x (by simpa using hx)
    rw [g2]
    exact plain_eq ((List.all_eq_true.1 hall) u g1) (opd_rel ok hT g2)
  rw [this]
  exact pureSem_run h w

theorem run_fastBin {op : BinOp} {k : IntKind} {a b : Int} {v : Value} {t : TypeId} {x y : Operand} (h : fastBin op k a b = some v) :
    (do eqGuard op t x y (.int k a) (.int k b); binOp op t (.int k a) (.int k b) : Sem Value).run P w = .ok v w ∧ plain v = true := by
  cases op <;> simp only [fastBin, Option.some.injEq, reduceCtorEq] at h <;> subst h <;> simp [eqGuard, binOp, Op.intArith, Op.intCmp, Op.intBits, plain, flat, scalar]
theorem run_sliceNil {t e : TypeId} (hu : P.underlying t = some (.slice e)) (a : Addr) (n c n2 c2 : Nat) : (Op.equal t (.slice (some a) n c) (.slice none n2 c2)).run P w = .ok false w := by
  unfold Op.equal Op.maxDepth
  unfold Op.equalIn
  simp only [Sem.run_bind, run_underlying hu, Result.andThen_ok, Sem.run_pure]
theorem run_sliceEql {t e : TypeId} (hu : P.underlying t = some (.slice e)) {a : Addr} {n c n2 c2 : Nat} {x y : Operand} :
    (do eqGuard .eql t x y (.slice (some a) n c) (.slice none n2 c2); binOp .eql t (.slice (some a) n c) (.slice none n2 c2) : Sem Value).run P w = .ok (.bool false) w := by
  show (do let r ← Op.equal t (.slice (some a) n c) (.slice none n2 c2); pure (Value.bool r) : Sem Value).run P w = _
  rw [Sem.run_bind, run_sliceNil hu]; rfl
theorem run_sliceNeq {t e : TypeId} (hu : P.underlying t = some (.slice e)) {a : Addr} {n c n2 c2 : Nat} {x y : Operand} :
    (do eqGuard .neq t x y (.slice (some a) n c) (.slice none n2 c2); binOp .neq t (.slice (some a) n c) (.slice none n2 c2) : Sem Value).run P w = .ok (.bool true) w := by
  show (do let r ← Op.equal t (.slice (some a) n c) (.slice none n2 c2); pure (Value.bool (!r)) : Sem Value).run P w = _
  rw [Sem.run_bind, run_sliceNil hu]; rfl
theorem pureTry_val {gl fl : Nat} {φ : Ren} {S S' : List Blk} (ok : Ok gl φ S w) {T : List Value} {a : Act} (hT : LRel φ T a.tmps.toList) {o : Oper} {v : Value}
    (h : pureTry P gl o T S = some (.val v S')) : Came P fl φ S w (execOp a.eval o) v S' := by
  unfold pureTry at h
  split at h
  · rename_i vs hvs
    split at h
    · rename_i hc
      simp only [Bool.and_eq_true] at hc
      split at h
      · rename_i u hu
        split at h
        · rename_i hpl
          cases h
          exact Came.same ok.good (run_pureOp ok hT hvs hc.1 hc.2 hu) (plain_refl hpl)
        · cases h
      · cases h
    · cases h
  · cases h
theorem pureTry_call {gl : Nat} {S : List Blk} {T : List Value} {o : Oper} {f : FuncId} {args : List Value} (h : pureTry P gl o T S = some (.call f args)) : False := by
  unfold pureTry at h
  repeat' split at h
  all_goals cases h
theorem int_of_rel {φ : Ren} {l l' : List Value} (h : LRel φ l l') {i : Nat} {k : IntKind} {n : Int} (hi : l[i]? = some (.int k n)) : l'[i]? = some (.int k n) := by
  obtain ⟨v', h1, h2⟩ := h.get hi
  cases h2
  exact h1
theorem eqIs_rel {φ : Ren} {xs xs' ys ys' : List Value} (hx : LRel φ xs xs') (hy : LRel φ ys ys') {n : Nat} : ∀ (is : List Nat) (r : Bool), eqIs xs ys n is = some r → eqIs xs' ys' n is = some r := by
  intro is
  induction is with
  | nil => intro r h; exact h
  | cons i is ih =>
    intro r h
    simp only [eqIs] at h ⊢
    split at h
    · rename_i j a k b h1 h2
      split at h
      · rename_i hjk
        split at h
        · rename_i r' hr'
          simp only [int_of_rel hx h1, int_of_rel hy h2, hjk, if_true, ih r' hr']
          exact h
        · cases h
      · cases h
    · cases h
theorem eqFs_rel {φ : Ren} {xs xs' ys ys' : List Value} (hx : LRel φ xs xs') (hy : LRel φ ys ys') : ∀ (fs : List Field) (r : Bool), eqFs P xs ys fs = some r → eqFs P xs' ys' fs = some r := by
  intro fs
  induction fs with
  | nil => intro r h; exact h
  | cons f fs ih =>
    intro r h
    simp only [eqFs] at h ⊢
    split at h
    · cases h
    · rename_i hn
      split at h
      · rename_i q hu
        split at h
        · rename_i j a k b h1 h2
          split at h
          · rename_i hjk
            split at h
            · rename_i r' hr'
              simp only [hn, if_false, int_of_rel hx h1, int_of_rel hy h2, hjk, if_true, ih r' hr']
              exact h
            · cases h
          · cases h
        · cases h
      · rename_i n e hu
        split at h
        · rename_i q hq
          split at h
          · rename_i r1 h1
            split at h
            · rename_i r' hr'
              have h1' := eqIs_rel ((hx.drop f.offset).take (P.cellsOf f.type)) ((hy.drop f.offset).take (P.cellsOf f.type)) _ _ h1
              simp only [hn, if_false, h1', ih r' hr']
              exact h
            · cases h
          · cases h
        · cases h
      · cases h
theorem fastEql_rel {φ : Ren} {op : BinOp} {t : TypeId} {xs xs' ys ys' : List Value} (hx : LRel φ xs xs') (hy : LRel φ ys ys') {v : Value} (h : fastEql P op t xs ys = some v) : fastEql P op t xs' ys' = some v := by
  have key : ∀ r, eqAgg P t xs ys = some r → eqAgg P t xs' ys' = some r := by
    intro r hr
    unfold eqAgg at hr ⊢
    split at hr
    · cases hr
    · rename_i hg
      rw [if_neg hg]
      split at hr
      · split at hr
        · cases hr
        · rename_i hs
          simp only [hs]
          exact eqFs_rel hx hy _ _ hr
      · split at hr
        · exact eqIs_rel hx hy _ _ hr
        · cases hr
      · cases hr
  unfold fastEql at h ⊢
  split at h
  · split at h
    · rename_i r hr; simp only [key r hr]; exact h
    · cases h
  · split at h
    · rename_i r hr; simp only [key r hr]; exact h
    · cases h
  · cases h
theorem optV_rel {gl : Nat} {φ : Ren} {S : List Blk} (ok : Ok gl φ S w) {T : List Value} {a : Act} (hT : LRel φ T a.tmps.toList) {x : Option Operand} {v : Option Value} (h : optV gl T x = some v) : ORel φ v (x.map a.eval) := by
  cases x with
  | none => cases h; trivial
  | some y =>
    simp only [optV] at h
    split at h
    · rename_i u hu; cases h; exact opd_rel ok hT hu
    · cases h
theorem evOp_val {gl fl : Nat} {φ : Ren} {S S' : List Blk} (ok : Ok gl φ S w) {T : List Value} {a : Act} (hT : LRel φ T a.tmps.toList) {o : Oper} {v : Value}
    (h : evOp P gl fl o T S = some (.val v S')) (hf : Fresh φ S.length S'.length) : Came P fl φ S w (execOp a.eval o) v S' := by
  have good := ok.good
  rw [evOp_eqO] at h; unfold evOpO at h
  simp only [forceK_eq] at h
  split at h
  · rename_i x ho
    split at h
    · rename_i u hu; cases h; exact Came.same good (by simp [execOp, ho]) (opd_rel ok hT hu)
    · cases h
  · rename_i x ho
    split at h
    · rename_i u hu; cases h; exact Came.same good (by simp [execOp, ho]) (opd_rel ok hT hu)
    · cases h
  · rename_i c x y ho
    split at h
    · rename_i β u1 u2 hc hx hy
      cases h
      have hcv := opd_rel ok hT hc
      generalize hce : a.eval c = cv at hcv
      cases hcv
      cases β
      · exact Came.same good (v' := a.eval y) (by simp [execOp, ho, hce, asBool]) (opd_rel ok hT hy)
      · exact Came.same good (v' := a.eval x) (by simp [execOp, ho, hce, asBool]) (opd_rel ok hT hx)
    · cases h
  · rename_i t ho
    split at h
    · rename_i z hz
      split at h
      · rename_i hall
        cases h
        refine Came.fresh good (hf _ (Nat.le_refl _) (by simp)) ?_ (list_refl scalar (fun _ => scalar_refl) hall)
        simp [execOp, ho, Instr.alloc, run_zeroT hz, run_newVar]
      · cases h
    · cases h
  · rename_i t x ho
    split at h
    · rename_i u hu
      split at h
      · cases h
      rename_i hj
      cases h
      refine Came.fresh good (hf _ (Nat.le_refl _) (by simp)) (c' := (a.eval x).cells) ?_ ((opd_rel ok hT hu).cells (by simpa using hj))
      simp [execOp, ho, Instr.box, run_newVar]
    · cases h
  · rename_i t x ho
    split at h
    · rename_i p hp
      split at h
      · rename_i u hu
        cases h
        obtain ⟨v', g1, g2⟩ := run_load (P := P) good (opd_rel ok hT hp) hu
        exact Came.same good (by simp [execOp, ho, g1]) g2
      · cases h
    · cases h
  · rename_i t x y ho
    split at h
    · rename_i p u hp hu
      split at h
      · rename_i S2 hs
        cases h
        obtain ⟨w', g1, g2, g3⟩ := run_store (P := P) good (opd_rel ok hT hp) (opd_rel ok hT hu) hs
        exact ⟨undef, w', φ, .inr ⟨by simp [execOp, ho, g1], rfl⟩, undef_refl _, g2, g3⟩
      · cases h
    · cases h
  · rename_i x ho
    split at h
    · rename_i p hp
      cases h
      have hpv := opd_rel ok hT hp
      generalize hce : a.eval x = xv at hpv
      cases hpv with
      | ptr hb => exact Came.same good (by simp [execOp, ho, hce]) (.ptr hb)
    · cases h
  · rename_i t x f ho
    split at h
    · rename_i p hp
      split at h
      · rename_i u hu
        cases h
        obtain ⟨v', g1, g2⟩ := run_fieldP (P := P) (w := w) (opd_rel ok hT hp) hu
        exact Came.same good (by simp [execOp, ho, g1]) g2
      · cases h
    · cases h
  · rename_i t x i ho
    split at h
    · rename_i p j hp hj
      split at h
      · rename_i u hu
        cases h
        obtain ⟨v', g1, g2⟩ := run_indexP (P := P) (w := w) (opd_rel ok hT hp) (opd_rel ok hT hj) hu
        exact Came.same good (by simp [execOp, ho, g1]) g2
      · cases h
    · cases h
  · rename_i f first captured ho
    split at h
    · rename_i xs cs hx hc
      cases h
      have r1 := opds_rel ok hT hx
      have r2 := opds_rel ok hT hc
      refine Came.same good (v' := .func (.func f) (first.map a.eval) (captured.map a.eval)) (by simp [execOp, ho, Instr.makeFunc]) (.func f ?_ ?_ ?_ ?_)
      · simpa using r1.1
      · simpa using r1.2
      · simpa using r2.1
      · simpa using r2.2
    · cases h
  · rename_i f args x1 ho
    split at h
    · rename_i g vs hg hv
      exact (callee_call h).elim
    · cases h
  · rename_i t len parts ho
    split at h
    · rename_i vs hv
      split at h
      · rename_i hall
        split at h
        · rename_i elem cells hc
          split at h
          · rename_i hsc
            cases h
            have hn := hf S.length (Nat.le_refl _) (by simp)
            obtain ⟨g1, g2⟩ := good.new fl hn ⟨cells.toList, elem, false, none⟩ (.cells cells elem) ⟨cells, (0, 0), rfl, by rw [List.take_length]; exact list_refl scalar (fun _ => scalar_refl) hsc, fun _ => rfl, fun h => by cases h⟩ rfl
            refine ⟨.slice (some ⟨w.heap.size, 0, none⟩) len len, _, _, .inl ?_, .slice (newRen_new _ _ _) (.inl rfl) (Nat.le_refl _) (.zero (good.zero _ (Nat.le_refl _))), g1, g2⟩
            have hrel := opds_rel ok hT hv
            have heq := list_eq plain (fun _ _ => plain_eq) hall hrel
            have hparts : (parts.map fun (i, x) => (i, a.eval x)) = ((parts.toList.map (·.1)).zip vs).toArray := by
              rw [← heq]
              apply Array.toList_inj.1
              simp only [Array.toList_map, List.map_map]
              generalize parts.toList = l
              induction l with
              | nil => rfl
              | cons p l ih => simpa using ih
            have hrun := run_buildSlice (P := P) (w := w) (hparts ▸ hc)
            simp only [execOp, ho, Sem.run_bind, hrun, Result.andThen_ok, Sem.run_pure]
          · cases h
        · cases h
      · split at h
        · cases h
        rename_i hj
        split at h
        · rename_i hz
          split at h
          · rename_i elem cells hc
            cases h
            have hn := hf S.length (Nat.le_refl _) (by simp)
            obtain ⟨cells', c1, c2⟩ := buildSlice_rel (P := P) (opds_rel ok hT hv) (by simpa using hj) hz hc
            obtain ⟨g1, g2⟩ := good.new fl hn ⟨cells.toList, elem, false, none⟩ (.cells cells' elem) ⟨cells', (0, 0), rfl, by rw [List.take_of_length_le (by rw [c2.1]; exact Nat.le_refl _)]; exact c2, fun _ => rfl, fun h => by cases h⟩ rfl
            refine ⟨.slice (some ⟨w.heap.size, 0, none⟩) len len, _, _, .inl ?_, .slice (newRen_new _ _ _) (.inl rfl) (Nat.le_refl _) (.zero (good.zero _ (Nat.le_refl _))), g1, g2⟩
            have hparts : (parts.map fun (i, x) => (i, a.eval x)) = ((parts.toList.map (·.1)).zip (List.map a.eval (parts.toList.map (·.2)))).toArray := by
              apply Array.toList_inj.1
              simp only [Array.toList_map, List.map_map]
              generalize parts.toList = l
              induction l with
              | nil => rfl
              | cons p l ih => simpa using ih
            have hrun := run_buildSlice (P := P) (w := w) (hparts ▸ c1)
            simp only [execOp, ho, Sem.run_bind, hrun, Result.andThen_ok, Sem.run_pure]
          · cases h
        · cases h
    · cases h
  · rename_i op t x y yt ho
    split at h
    · rename_i xs ys hx hy
      split at h
      · rename_i u hu
        cases h
        have hxv := opd_rel ok hT hx
        have hyv := opd_rel ok hT hy
        generalize hce : a.eval x = xv at hxv
        generalize hcf : a.eval y = yv at hyv
        cases hxv with
        | agg hl1 he1 =>
          cases hyv with
          | agg hl2 he2 =>
            rename_i xs' ys'
            obtain ⟨r1, b, r2⟩ := run_fastEql (P := P) (w := w) (t := t) (x := x) (y := y) (xs := xs') (ys := ys') (fastEql_rel ⟨hl1, he1⟩ ⟨hl2, he2⟩ hu)
            subst r2
            exact Came.same good (by simp only [execOp, ho, hce, hcf]; rw [Sem.run_bind, r1]; rfl) (.bool b)
      · exact pureTry_val ok hT h
    · rename_i k i j n hx hy
      split at h
      · rename_i hkj
        subst hkj
        split at h
        · rename_i u hu
          cases h
          have hxv := opd_rel ok hT hx
          have hyv := opd_rel ok hT hy
          obtain ⟨r1, r2⟩ := run_fastBin (P := P) (w := w) (t := t) (x := x) (y := y) hu
          generalize hce : a.eval x = xv at hxv
          generalize hcf : a.eval y = yv at hyv
          cases hxv; cases hyv
          exact Came.same good (by simp only [execOp, ho, hce, hcf]; rw [Sem.run_bind, r1]; rfl) (plain_refl r2)
        · exact pureTry_val ok hT h
      · exact pureTry_val ok hT h
    · rename_i a1 n1 c1 n2 c2 hx hy
      split at h
      · rename_i e hu
        have hxv := opd_rel ok hT hx
        have hyv := opd_rel ok hT hy
        generalize hce : a.eval x = xv at hxv
        generalize hcf : a.eval y = yv at hyv
        have hxe : ∃ a' n' c', xv = .slice (some a') n' c' := by cases hxv <;> exact ⟨_, _, _, rfl⟩
        clear hxv
        obtain ⟨a', n', c', rfl⟩ := hxe
        cases hyv
        split at h
        · cases h
          exact Came.same good (by simp only [execOp, ho, hce, hcf]; rw [Sem.run_bind, run_sliceEql hu]; rfl) (.bool _)
        · cases h
          exact Came.same good (by simp only [execOp, ho, hce, hcf]; rw [Sem.run_bind, run_sliceNeq hu]; rfl) (.bool _)
        · cases h
      · cases h
    · exact pureTry_val ok hT h
  · rename_i x0 args argTypes ho
    split at h
    · rename_i ad n c t hv ht
      split at h
      · rename_i e hu
        cases h
        have hrel := opds_rel ok hT hv
        have hm : (args.map a.eval).toList = List.map a.eval args.toList := by simp
        generalize List.map a.eval args.toList = l at hrel hm
        cases l with
        | nil => simp [LRel] at hrel
        | cons y l =>
          cases l with
          | cons _ _ => simp [LRel] at hrel
          | nil =>
            have hy := hrel.head
            cases hy with
            | empty a1 a2 c1 =>
              refine Came.same good (v' := .int .i64 (0 : Nat)) ?_ (.int _ _)
              have hargs : args.map a.eval = #[_] := Array.toList_inj.1 hm
              simp [execOp, ho, resolve, hargs, invoke, builtin, Builtin.len_, ht, run_underlying hu, goInt]
            | emptyS b0 o0 a2 c2 =>
              refine Came.same good (v' := .int .i64 (0 : Nat)) ?_ (.int _ _)
              have hargs : args.map a.eval = #[_] := Array.toList_inj.1 hm
              simp [execOp, ho, resolve, hargs, invoke, builtin, Builtin.len_, ht, run_underlying hu, goInt]
            | slice hb _ _ =>
              refine Came.same good (v' := .int .i64 n) ?_ (.int _ _)
              have hargs : args.map a.eval = #[_] := Array.toList_inj.1 hm
              simp [execOp, ho, resolve, hargs, invoke, builtin, Builtin.len_, ht, run_underlying hu, goInt]
      · cases h
    · rename_i sz ad n c t hv ht
      split at h
      · rename_i e hu
        cases h
        have hrel := opds_rel ok hT hv
        have hm : (args.map a.eval).toList = List.map a.eval args.toList := by simp
        generalize List.map a.eval args.toList = l at hrel hm
        cases l with
        | nil => simp [LRel] at hrel
        | cons y l =>
          cases l with
          | cons _ _ => simp [LRel] at hrel
          | nil =>
            have hy := hrel.head
            cases hy with
            | qs hb _ _ _ =>
              refine Came.same good (v' := .int .i64 n) ?_ (.int _ _)
              have hargs : args.map a.eval = #[_] := Array.toList_inj.1 hm
              simp [execOp, ho, resolve, hargs, invoke, builtin, Builtin.len_, ht, run_underlying hu, goInt]
      · cases h
    · exact pureTry_val ok hT h
  · rename_i args argTypes ho
    split at h
    · rename_i ad n c t hv ht
      split at h
      · rename_i et hu
        split at h
        · cases h
        · rename_i hcu
          cases h
          have hcu' : c ≠ unk := fun e => hcu (by rw [e]; exact Nat.beq_refl _)
          have hrel := opds_rel ok hT hv
          have hm : (args.map a.eval).toList = List.map a.eval args.toList := by simp
          generalize List.map a.eval args.toList = l at hrel hm
          cases l with
          | nil => simp [LRel] at hrel
          | cons y l =>
            cases l with
            | cons _ _ => simp [LRel] at hrel
            | nil =>
              have hy := hrel.head
              cases hy with
              | emptyS b0 o0 a2 c2 => exact absurd rfl hcu'
              | empty a1 a2 c1 _ =>
                refine Came.same good (v' := .int .i64 c) ?_ (.int _ _)
                have hargs : args.map a.eval = #[_] := Array.toList_inj.1 hm
                simp [execOp, ho, resolve, hargs, invoke, builtin, Builtin.cap_, ht, run_underlying hu, goInt]
              | slice hb hce _ _ =>
                refine Came.same good (v' := .int .i64 c) ?_ (.int _ _)
                have hargs : args.map a.eval = #[_] := Array.toList_inj.1 hm
                rcases hce with rfl | hce
                · simp [execOp, ho, resolve, hargs, invoke, builtin, Builtin.cap_, ht, run_underlying hu, goInt]
                · exact absurd hce hcu'
      · cases h
    · exact pureTry_val ok hT h
  · rename_i t l c ho
    split at h
    · rename_i k1 n k2 m hl hc
      split at h
      · rename_i elem cells hm
        split at h
        · rename_i hsc
          cases h
          have hn := hf S.length (Nat.le_refl _) (by simp)
          obtain ⟨g1, g2⟩ := good.new fl hn ⟨cells.toList, elem, false, none⟩ (.cells cells elem) ⟨cells, (0, 0), rfl, by rw [List.take_length]; exact list_refl scalar (fun _ => scalar_refl) hsc, fun _ => rfl, fun h => by cases h⟩ rfl
          have e1 := plain_eq (by rfl) (opd_rel ok hT hl)
          have e2 := plain_eq (by rfl) (opd_rel ok hT hc)
          obtain ⟨r1, r2⟩ := run_makeC (P := P) (w := w) (k1 := k1) (k2 := k2) hm
          refine ⟨.slice (some ⟨w.heap.size, 0, none⟩) n.toNat m.toNat, _, _, .inl ?_, .slice (newRen_new _ _ _) (.inl rfl) r2 (.zero (good.zero _ (Nat.le_refl _))), g1, g2⟩
          simp only [execOp, ho, e1, e2, Sem.run_bind, r1, Result.andThen_ok, Sem.run_pure]
        · cases h
      · cases h
    · cases h
  · rename_i t x ho
    split at h
    · rename_i b off n e hx hu
      split at h
      · rename_i z hz
        split at h
        · rename_i hlt
          rw [Nat.blt_eq] at hlt
          cases h
          have hxv := opd_rel ok hT hx
          generalize hce : a.eval x = xv at hxv
          cases hxv with
          | ptr hb =>
            refine Came.same good (v' := .slice (some ⟨_, off, none⟩) (n + 1) (n + 1)) ?_ (.slice hb (.inl rfl) (Nat.le_refl _) (fun _ => ⟨hlt, fun e _ => by omega⟩))
            simp [execOp, ho, hce, Instr.sliceAt, run_underlying hu, Instr.sureAddr, Instr.sliceBounds, run_sizeT hz, Addr.add]
        · cases h
      · cases h
    · exact pureTry_val ok hT h
  · rename_i t x lo hi mx _ ho
    split at h
    · rename_i u hq
      cases h
      unfold sliceQO at hq
      split at hq
      · rename_i xv hx
        have hq2 := hq
        unfold sliceQ at hq2
        split at hq2
        · rename_i kd l e1 e2 e3
          rw [e1, e2, e3] at hq
          obtain ⟨v', r1, r2⟩ := run_sliceQ (P := P) (w := w) (opd_rel ok hT hx) (optV_rel ok hT e1) (optV_rel ok hT e2) (optV_rel ok hT e3) hq
          exact Came.same good (by simp only [execOp, ho, Sem.run_bind, r1, Result.andThen_ok, Sem.run_pure]) r2
        · cases hq2
      · cases hq
    · rename_i hq
      split at h
      · rename_i ad n c hx
        split at h
        · rename_i l hh m e1 e2 e3
          split at h
          · rename_i u hs
            cases h
            obtain ⟨v', r1, r2⟩ := run_sliceC (P := P) (w := w) (opd_rel ok hT hx) (optV_rel ok hT e1) (optV_rel ok hT e2) (optV_rel ok hT e3) hs
            exact Came.same good (by simp only [execOp, ho, Sem.run_bind, r1, Result.andThen_ok, Sem.run_pure]) r2
          · split at h
            · rename_i u hs
              cases h
              obtain ⟨v', r1, r2⟩ := run_sliceZ (P := P) (w := w) (opd_rel ok hT hx) (optV_rel ok hT e1) (optV_rel ok hT e2) (optV_rel ok hT e3) hs
              exact Came.same good (by simp only [execOp, ho, Sem.run_bind, r1, Result.andThen_ok, Sem.run_pure]) r2
            · cases h
        · cases h
      · rename_i b off hx
        split at h
        · rename_i u hs
          cases h
          have hxv := opd_rel ok hT hx
          unfold sliceA at hs
          split at hs
          · rename_i _ _ _ kd j e1 e2 e3
            split at hs
            · rename_i n e hu
              split at hs
              · rename_i sz hz
                split at hs
                · rename_i hc
                  cases hs
                  simp only [Bool.and_eq_true, decide_eq_true_eq, Nat.ble_eq, Nat.blt_eq] at hc
                  obtain ⟨⟨⟨c1, c2⟩, c3⟩, c4⟩ := hc
                  have h1 := optV_rel ok hT e1
                  have h2 := optV_rel ok hT e2
                  have h3 := optV_rel ok hT e3
                  have m1 : lo.map a.eval = none := by
                    cases hq : lo.map a.eval with
                    | none => rfl
                    | some _ => rw [hq] at h1; exact h1.elim
                  have m3 : mx.map a.eval = none := by
                    cases hq : mx.map a.eval with
                    | none => rfl
                    | some _ => rw [hq] at h3; exact h3.elim
                  have m2 : hi.map a.eval = some (.int kd j) := by
                    cases hq : hi.map a.eval with
                    | none => rw [hq] at h2; exact h2.elim
                    | some _ => rw [hq] at h2; cases h2; rfl
                  generalize hce : a.eval x = xv at hxv
                  cases hxv with
                  | ptr hb =>
                    refine Came.same good (v' := .slice (some ⟨_, off, none⟩) j.toNat n) ?_ (.slice hb (.inl rfl) c2 (fun _ => ⟨c4, fun e _ => by omega⟩))
                    have hj : 0 ≤ j ∧ j ≤ (n : Int) := ⟨c1, by omega⟩
                    simp [execOp, ho, hce, m1, m2, m3, Instr.sliceAt, run_underlying hu, Instr.sureAddr, Instr.sliceBounds, Instr.sliceBound, asIntOf, hj, run_sizeT hz, Addr.add]
                · cases hs
              · cases hs
            · cases hs
          · cases hs
        · exact pureTry_val ok hT h
      · exact pureTry_val ok hT h
  · rename_i x0 args argTypes ho
    split at h
    · rename_i d s hv
      split at h
      · rename_i u S2 hs
        cases h
        have hrel := opds_rel ok hT hv
        have hm : (args.map a.eval).toList = List.map a.eval args.toList := by simp
        generalize List.map a.eval args.toList = l at hrel hm
        match l, hrel, hm with
        | [d', s'], hrel, hm =>
          obtain ⟨v', w', ψ, r1, r2, r3, r4⟩ := run_appendP (P := P) (ty := o.type) (fl := fl) good hf hrel.head hrel.tail.head hs
          have hargs : args.map a.eval = #[d', s'] := Array.toList_inj.1 hm
          exact ⟨v', w', ψ, .inl (by simp [execOp, ho, resolve, hargs, invoke, builtin, r1]), r2, r3, r4⟩
        | [], hrel, _ => simp [LRel] at hrel
        | [_], hrel, _ => simp [LRel] at hrel
        | _ :: _ :: _ :: _, hrel, _ => simp [LRel] at hrel
      · split at h
        · rename_i u S2 hs
          cases h
          have hrel := opds_rel ok hT hv
          have hm : (args.map a.eval).toList = List.map a.eval args.toList := by simp
          generalize List.map a.eval args.toList = l at hrel hm
          match l, hrel, hm with
          | [d', s'], hrel, hm =>
            obtain ⟨v', w', ψ, r1, r2, r3, r4⟩ := run_appendD (P := P) (ty := o.type) (fl := fl) good hf hrel.head hrel.tail.head hs
            have hargs : args.map a.eval = #[d', s'] := Array.toList_inj.1 hm
            exact ⟨v', w', ψ, .inl (by simp [execOp, ho, resolve, hargs, invoke, builtin, r1]), r2, r3, r4⟩
          | [], hrel, _ => simp [LRel] at hrel
          | [_], hrel, _ => simp [LRel] at hrel
          | _ :: _ :: _ :: _, hrel, _ => simp [LRel] at hrel
        · split at h
          · rename_i u S2 hs
            cases h
            have hrel := opds_rel ok hT hv
            have hm : (args.map a.eval).toList = List.map a.eval args.toList := by simp
            generalize List.map a.eval args.toList = l at hrel hm
            match l, hrel, hm with
            | [d', s'], hrel, hm =>
              obtain ⟨v', w', ψ, r1, r2, r3, r4⟩ := run_appendZ (P := P) (ty := o.type) (fl := fl) good hf hrel.head hrel.tail.head hs
              have hargs : args.map a.eval = #[d', s'] := Array.toList_inj.1 hm
              exact ⟨v', w', ψ, .inl (by simp [execOp, ho, resolve, hargs, invoke, builtin, r1]), r2, r3, r4⟩
            | [], hrel, _ => simp [LRel] at hrel
            | [_], hrel, _ => simp [LRel] at hrel
            | _ :: _ :: _ :: _, hrel, _ => simp [LRel] at hrel
          · split at h
            · rename_i u S2 hs
              cases h
              have hrel := opds_rel ok hT hv
              have hm : (args.map a.eval).toList = List.map a.eval args.toList := by simp
              generalize List.map a.eval args.toList = l at hrel hm
              match l, hrel, hm with
              | [d', s'], hrel, hm =>
                obtain ⟨v', w', ψ, r1, r2, r3, r4⟩ := run_appendE (P := P) (ty := o.type) (fl := fl) good hf hrel.head hrel.tail.head hs
                have hargs : args.map a.eval = #[d', s'] := Array.toList_inj.1 hm
                exact ⟨v', w', ψ, .inl (by simp [execOp, ho, resolve, hargs, invoke, builtin, r1]), r2, r3, r4⟩
              | [], hrel, _ => simp [LRel] at hrel
              | [_], hrel, _ => simp [LRel] at hrel
              | _ :: _ :: _ :: _, hrel, _ => simp [LRel] at hrel
            · split at h
              · rename_i u S2 hs
                cases h
                have hrel := opds_rel ok hT hv
                have hm : (args.map a.eval).toList = List.map a.eval args.toList := by simp
                generalize List.map a.eval args.toList = l at hrel hm
                match l, hrel, hm with
                | [d', s'], hrel, hm =>
                  obtain ⟨v', w', ψ, r1, r2, r3, r4⟩ := run_appendF (P := P) (ty := o.type) (fl := fl) good hf hrel.head hrel.tail.head hs
                  have hargs : args.map a.eval = #[d', s'] := Array.toList_inj.1 hm
                  exact ⟨v', w', ψ, .inl (by simp [execOp, ho, resolve, hargs, invoke, builtin, r1]), r2, r3, r4⟩
                | [], hrel, _ => simp [LRel] at hrel
                | [_], hrel, _ => simp [LRel] at hrel
                | _ :: _ :: _ :: _, hrel, _ => simp [LRel] at hrel
              · split at h
                · rename_i u S2 hs
                  cases h
                  have hrel := opds_rel ok hT hv
                  have hm : (args.map a.eval).toList = List.map a.eval args.toList := by simp
                  generalize List.map a.eval args.toList = l at hrel hm
                  match l, hrel, hm with
                  | [d', s'], hrel, hm =>
                    obtain ⟨v', w', ψ, r1, r2, r3, r4⟩ := run_appendQ (P := P) (ty := o.type) (fl := fl) good hf hrel.head hrel.tail.head hs
                    have hargs : args.map a.eval = #[d', s'] := Array.toList_inj.1 hm
                    exact ⟨v', w', ψ, .inl (by simp [execOp, ho, resolve, hargs, invoke, builtin, r1]), r2, r3, r4⟩
                  | [], hrel, _ => simp [LRel] at hrel
                  | [_], hrel, _ => simp [LRel] at hrel
                  | _ :: _ :: _ :: _, hrel, _ => simp [LRel] at hrel
                · cases h
    · cases h
  · rename_i t parts ho
    split at h
    · rename_i vs hv
      split at h
      · cases h
      · rename_i hj
        split at h
        · rename_i cells hc
          cases h
          obtain ⟨cells', r1, r2⟩ := run_buildCells (P := P) (w := w) (opds_rel ok hT hv) (by simpa using hj) hc
          refine Came.same good (v' := .agg cells') ?_ (.agg r2.1 r2.2)
          have hparts : (parts.map fun (i, x) => (i, a.eval x)) = ((parts.toList.map (·.1)).zip (List.map a.eval (parts.toList.map (·.2)))).toArray := by
            apply Array.toList_inj.1
            simp only [Array.toList_map, List.map_map]
            generalize parts.toList = l
            induction l with
            | nil => rfl
            | cons p l ih => simpa using ih
          simp only [execOp, ho, hparts, Sem.run_bind, r1, Result.andThen_ok, Sem.run_pure]
        · exact pureTry_val ok hT h
    · cases h
  · rename_i t x ho
    split at h
    · rename_i u hu
      split at h
      · rename_i s hs
        cases h
        obtain ⟨rfl, hr⟩ := run_rangeP (P := P) (w := w) hs
        have hxv := opd_rel ok hT hu
        generalize hce : a.eval x = xv at hxv
        cases hxv
        have hn := hf S.length (Nat.le_refl _) (by simp)
        obtain ⟨g1, g2⟩ := good.new fl hn (iterBlk s 0) (.stringIter s 0) (by simp [BRel, iterBlk]) rfl
        exact ⟨_, _, _, .inl (by simp only [execOp, ho, hce, Sem.run_bind, hr, Result.andThen_ok, Sem.run_pure]), .ptr (newRen_new _ _ _), g1, g2⟩
      · cases h
    · cases h
  · rename_i x isString ho
    split at h
    · split at h
      · rename_i u hu
        split at h
        · rename_i v2 S2 hs
          cases h
          obtain ⟨h1, w', h2, h3, h4⟩ := run_nextP (P := P) (t := o.type) good (opd_rel ok hT hu) hs
          exact ⟨v, w', φ, .inl (by simp only [execOp, ho, Sem.run_bind, h2, Result.andThen_ok, Sem.run_pure]), plain_refl h1, h3, h4⟩
        · cases h
      · cases h
    · cases h
  · rename_i t ho
    cases h
    have hn := hf S.length (Nat.le_refl _) (by simp)
    obtain ⟨g1, g2⟩ := good.new fl hn (mapBlk [] 0) (.map #[] 0) (by simp [BRel, mapBlk]) rfl
    refine ⟨.map (some w.heap.size), _, _, .inl ?_, .map (newRen_new _ _ _), g1, g2⟩
    simp only [execOp, ho, Option.map_none, Instr.makeMap, Sem.run_bind, Sem.run_pure]
    rfl
  · rename_i t x i okb ho
    split at h
    · rename_i m k hm hk
      split at h
      · rename_i u hu
        cases h
        obtain ⟨h1, h2, h3⟩ := run_lookupP (P := P) good (opd_rel ok hT hm) hu
        have hkk := plain_eq h1 (opd_rel ok hT hk)
        exact Came.same good (v' := v) (by simp only [execOp, ho, hkk, Sem.run_bind, h3, Result.andThen_ok, Sem.run_pure]) (plain_refl h2)
      · split at h
        · rename_i u hu
          cases h
          obtain ⟨h1, v', h2, h3⟩ := run_lookupV (P := P) good (opd_rel ok hT hm) hu
          have hkk := plain_eq h1 (opd_rel ok hT hk)
          exact Came.same good (v' := v') (by simp only [execOp, ho, hkk, Sem.run_bind, h3, Result.andThen_ok, Sem.run_pure]) h2
        · cases h
    · cases h
  · rename_i t x i y ho
    split at h
    · rename_i m k u hm hk hu
      split at h
      · rename_i S2 hs
        cases h
        obtain ⟨h1, h2, w', h3, h4, h5⟩ := run_updateP (P := P) good (opd_rel ok hT hm) hs
        have hkk := plain_eq h1 (opd_rel ok hT hk)
        have hvv := plain_eq h2 (opd_rel ok hT hu)
        exact ⟨undef, w', φ, .inr ⟨by simp only [execOp, ho, hkk, hvv, Sem.run_bind, h3, Result.andThen_ok, Sem.run_pure], rfl⟩, undef_refl _, h4, h5⟩
      · split at h
        · rename_i S2 hs
          cases h
          obtain ⟨h1, w', h3, h4, h5⟩ := run_updateV (P := P) good (opd_rel ok hT hm) (opd_rel ok hT hu) hs
          have hkk := plain_eq h1 (opd_rel ok hT hk)
          exact ⟨undef, w', φ, .inr ⟨by simp only [execOp, ho, hkk, Sem.run_bind, h3, Result.andThen_ok, Sem.run_pure], rfl⟩, undef_refl _, h4, h5⟩
        · cases h
    · cases h
  · rename_i args argTypes ho
    split at h
    · rename_i x t hv hat
      split at h
      · rename_i S2 hs
        cases h
        have hrel := opds_rel ok hT hv
        have hm : (args.map a.eval).toList = List.map a.eval args.toList := by simp
        have hat' : argTypes = #[t] := Array.toList_inj.1 hat
        generalize List.map a.eval args.toList = l at hrel hm
        match l, hrel, hm with
        | [x'], hrel, hm =>
          obtain ⟨w', r1, r2, r3⟩ := run_clearP (P := P) (ty := o.type) good hrel.head hs
          have hargs : args.map a.eval = #[x'] := Array.toList_inj.1 hm
          exact ⟨.tuple #[], w', φ, .inl (by simp [execOp, ho, resolve, hargs, hat', invoke, builtin, r1]), plain_refl rfl, r2, r3⟩
        | [], hrel, _ => simp [LRel] at hrel
        | _ :: _ :: _, hrel, _ => simp [LRel] at hrel
      · cases h
    · cases h
  · rename_i args argTypes ho
    split at h
    · rename_i d s t t2 hv hat
      split at h
      · rename_i u S2 hs
        cases h
        have hrel := opds_rel ok hT hv
        have hm : (args.map a.eval).toList = List.map a.eval args.toList := by simp
        have hat' : argTypes = #[t, t2] := Array.toList_inj.1 hat
        generalize List.map a.eval args.toList = l at hrel hm
        match l, hrel, hm with
        | [d', s'], hrel, hm =>
          obtain ⟨hpl, w', r1, r2, r3⟩ := run_copyP (P := P) (ty := o.type) (t2 := t2) good hrel.head hrel.tail.head hs
          have hargs : args.map a.eval = #[d', s'] := Array.toList_inj.1 hm
          exact ⟨v, w', φ, .inl (by simp [execOp, ho, resolve, hargs, hat', invoke, builtin, r1]), plain_refl hpl, r2, r3⟩
        | [], hrel, _ => simp [LRel] at hrel
        | [_], hrel, _ => simp [LRel] at hrel
        | _ :: _ :: _ :: _, hrel, _ => simp [LRel] at hrel
      · cases h
    · cases h
  · rename_i t x i y ho
    split at h
    · rename_i m k u hm hk hu
      split at h
      · rename_i S2 hs
        cases h
        obtain ⟨h1, h2, w', h3, h4, h5⟩ := run_updateP (P := P) good (opd_rel ok hT hm) hs
        have hkk := plain_eq h1 (opd_rel ok hT hk)
        have hvv := plain_eq h2 (opd_rel ok hT hu)
        exact ⟨undef, w', φ, .inr ⟨by simp only [execOp, ho, hkk, hvv, Sem.run_bind, h3, Result.andThen_ok, Sem.run_pure], rfl⟩, undef_refl _, h4, h5⟩
      · split at h
        · rename_i S2 hs
          cases h
          obtain ⟨h1, w', h3, h4, h5⟩ := run_updateV (P := P) good (opd_rel ok hT hm) (opd_rel ok hT hu) hs
          have hkk := plain_eq h1 (opd_rel ok hT hk)
          exact ⟨undef, w', φ, .inr ⟨by simp only [execOp, ho, hkk, Sem.run_bind, h3, Result.andThen_ok, Sem.run_pure], rfl⟩, undef_refl _, h4, h5⟩
        · cases h
    · cases h
  · rename_i t x i ho
    split at h
    · rename_i xs kd j hx hi
      split at h
      · rename_i u hu
        cases h
        have hxv := opd_rel ok hT hx
        have e1 := plain_eq (by rfl) (opd_rel ok hT hi)
        generalize hce : a.eval x = xv at hxv
        cases hxv with
        | agg hl he =>
          obtain ⟨v', g1, g2⟩ := run_indexV (P := P) (w := w) (kd := kd) ⟨hl, he⟩ hu
          exact Came.same good (v' := v') (by simp only [execOp, ho, hce, e1, Sem.run_bind, g1, Result.andThen_ok, Sem.run_pure]) g2
      · cases h
    · exact pureTry_val ok hT h
  · rename_i s d x ho
    split at h
    · rename_i k n hx
      split at h
      · rename_i sd j h1 h2
        cases h
        have e1 := plain_eq (by rfl) (opd_rel ok hT hx)
        refine Came.same good (v' := .int j (j.wrap n)) ?_ (.int _ _)
        simp only [execOp, ho, e1, Sem.run_bind, run_underlying h1, run_underlying h2, Result.andThen_ok, convert, Conv.intToInt, Sem.run_pure]
      · exact pureTry_val ok hT h
    · exact pureTry_val ok hT h
  · rename_i x i ho
    split at h
    · rename_i xs hx
      split at h
      · rename_i u hu
        cases h
        rw [getR_eq] at hu
        have hxv := opd_rel ok hT hx
        generalize hce : a.eval x = xv at hxv
        cases hxv with
        | tuple hl he =>
          rename_i xs'
          obtain ⟨v', g1, g2⟩ := LRel.get ⟨hl, he⟩ hu
          have g1' : xs'[i]? = some v' := by simpa using g1
          exact Came.same good (v' := v') (by simp [execOp, ho, hce, Instr.extract, g1']) g2
      · cases h
    · exact pureTry_val ok hT h
  · rename_i t x f ho
    split at h
    · rename_i xs hx
      split at h
      · rename_i u hu
        cases h
        have hxv := opd_rel ok hT hx
        generalize hce : a.eval x = xv at hxv
        cases hxv with
        | agg hl he =>
          obtain ⟨v', g1, g2⟩ := run_fieldV (P := P) (w := w) ⟨hl, he⟩ hu
          exact Came.same good (v' := v') (by simp only [execOp, ho, hce, Sem.run_bind, g1, Result.andThen_ok, Sem.run_pure]) g2
      · cases h
    · exact pureTry_val ok hT h
  · exact pureTry_val ok hT h

theorem evOp_call {gl fl : Nat} {φ : Ren} {S : List Blk} (ok : Ok gl φ S w) {T : List Value} {a : Act} (hT : LRel φ T a.tmps.toList) {o : Oper} {f : FuncId} {args : List Value}
    (h : evOp P gl fl o T S = some (.call f args)) : ∃ args' : List Value, (execOp a.eval o).run P w = .ok (.enter f args'.toArray) w ∧ LRel φ args args' := by
  rw [evOp_eqO] at h; unfold evOpO at h
  simp only [forceK_eq] at h
  split at h
  case h_12 f args x1 x2 ho =>
    split at h
    · rename_i g vs hg hv
      obtain ⟨args', g1, g2⟩ := rel_callee (P := P) (w := w) (opd_rel ok hT hg) (opds_rel ok hT hv) h
      refine ⟨args', ?_, g2⟩
      rw [← g1]
      have harr : Array.map a.eval x1 = (List.map a.eval x1.toList).toArray := Array.toList_inj.1 (by simp)
      simp only [execOp, ho, resolve, harr]
    · cases h
  all_goals (repeat' split at h)
  all_goals first | (cases h; done) | exact (pureTry_call h).elim
theorem pureTry_round {gl : Nat} {S : List Blk} {T : List Value} {o : Oper} {l : Nat} {args : List Value} (h : pureTry P gl o T S = some (.round l args)) : False := by
  unfold pureTry at h
  repeat' split at h
  all_goals cases h
theorem evOp_round {gl fl : Nat} {φ : Ren} {S : List Blk} (ok : Ok gl φ S w) {T : List Value} {a : Act} (hT : LRel φ T a.tmps.toList) {o : Oper} {l : Nat} {args : List Value}
    (h : evOp P gl fl o T S = some (.round l args)) : ∃ (r : Nat) (args' : List Value), φ l = some r ∧ (execOp a.eval o).run P w = (Instr.yield r args'.toArray).run P w ∧ LRel φ args args' ∧ (∀ c, o.op ≠ .defer c) := by
  rw [evOp_eqO] at h; unfold evOpO at h
  simp only [forceK_eq] at h
  split at h
  case h_12 f args x1 x2 ho =>
    split at h
    · rename_i g vs hg hv
      obtain ⟨r, h1, rfl, h2⟩ := rel_round (P := P) (w := w) (vs' := List.map a.eval x1.toList) (opd_rel ok hT hg) h
      refine ⟨r, _, h1, ?_, opds_rel ok hT hv, fun c e => by rw [ho] at e; cases e⟩
      rw [← h2]
      have harr : Array.map a.eval x1 = (List.map a.eval x1.toList).toArray := Array.toList_inj.1 (by simp)
      simp only [execOp, ho, resolve, harr]
    · cases h
  all_goals (repeat' split at h)
  all_goals first | (cases h; done) | exact (pureTry_round h).elim
/-- What is evaluated is no 'defer'. -/
theorem evOp_defer {gl fl : Nat} {S : List Blk} {T : List Value} {o : Oper} {c : Call} (ho : o.op = .defer c) : evOp P gl fl o T S = none := by
  rw [evOp_eqO]; unfold evOpO
  simp only [ho]
  unfold pureTry
  simp only [ho, pureOp, Bool.false_and, Bool.false_eq_true, if_false]
  split <;> rfl
end
end Go.Proofs.XX.Vm
