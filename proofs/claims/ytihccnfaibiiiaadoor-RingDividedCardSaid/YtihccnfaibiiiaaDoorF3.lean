/- Ring: the program's quotients: products of coefficients, companions, odd parts. -/
import Derived.Test.YtihccnfaibiiiaaDoorD3
import Derived.Test.YtihccnfaibiiiaaDoorF1
namespace Go.Proofs.YtihccnfaibiiiaaDoor.R
open Go Go.Proofs.XX.Vm Go.Proofs.XX.Rm Go.RowKit
set_option maxRecDepth 100000

def conC (f : FuncId) (g : N → OT) : Con := ⟨f, fun args => match args with
  | [v] => match asC v with
    | some x => some (g x)
    | none => none
  | _ => none⟩
theorem conC_ok {M : Int} {l : List Con} {f : FuncId} {g : N → OT} (hl : ∀ c ∈ l, ConOk M c) (h : ∀ x v, (g x).get = some v → EvF Tryd.prog (orcL l) (Sg1 M) f [N.cv x] v) : ConOk M (conC f g) := by
  refine conOk_of_evF hl ?_
  intro args t v ht hv
  simp only [conC] at ht
  split at ht
  · rename_i u
    split at ht
    · rename_i x hx
      rw [asC_eq hx]
      cases ht
      exact ⟨rfl, h x v hv⟩
    · cases ht
  · cases ht
def conC2 (f : FuncId) (g : N → N → OT) : Con := ⟨f, fun args => match args with
  | [u, v] => match asC u, asC v with
    | some x, some y => some (g x y)
    | _, _ => none
  | _ => none⟩
theorem conC2_ok {M : Int} {l : List Con} {f : FuncId} {g : N → N → OT} (hl : ∀ c ∈ l, ConOk M c) (h : ∀ x y v, (g x y).get = some v → EvF Tryd.prog (orcL l) (Sg1 M) f [N.cv x, N.cv y] v) : ConOk M (conC2 f g) := by
  refine conOk_of_evF hl ?_
  intro args t v ht hv
  simp only [conC2] at ht
  split at ht
  · rename_i u t'
    split at ht
    · rename_i x y hx hy
      rw [asC_eq hx, asC_eq hy]
      cases ht
      exact ⟨rfl, h x y v hv⟩
    · cases ht
  · cases ht
def conI (f : FuncId) (g : Int → OT) : Con := ⟨f, fun args => match args with
  | [.int .i64 n] => some (g n)
  | _ => none⟩
theorem conI_ok {M : Int} {l : List Con} {f : FuncId} {g : Int → OT} (hl : ∀ c ∈ l, ConOk M c) (h : ∀ x v, (g x).get = some v → EvF Tryd.prog (orcL l) (Sg1 M) f [.int .i64 x] v) : ConOk M (conI f g) := by
  refine conOk_of_evF hl ?_
  intro args t v ht hv
  simp only [conI] at ht
  split at ht
  · rename_i n
    cases ht
    exact ⟨rfl, h n v hv⟩
  · cases ht
theorem tTms (M : Int) (m : Nat) (x y : N) : runK Tryd.prog (orcL []) (Sg1 M) (m + 60) 86 [N.cv x, N.cv y] = some (N.cv (mulW x y)) := by kernel_rfl
def cTms : Con := conC2 86 fun x y => .val (N.cv (mulW x y))
theorem cTms_ok (M : Int) : ConOk M cTms := conC2_ok nil_ok fun x y v h => by cases h; exact EvF.of_eq 60 fun m => tTms M m x y
theorem tCmp (M : Int) (m : Nat) (x : N) : runK Tryd.prog (orcL [cTms]) (Sg1 M) (m + 60) 85 [N.cv x] =
    some (.tuple #[N.cv (mulW (conjW x) (altW (mulW x (conjW x)))), .int .i64 (mulW (mulW x (conjW x)) (altW (mulW x (conjW x)))).a]) := by kernel_rfl

def cCmp : Con := conC 85 fun x => .val (.tuple #[N.cv (mulW (conjW x) (altW (mulW x (conjW x)))), .int .i64 (mulW (mulW x (conjW x)) (altW (mulW x (conjW x)))).a])
theorem cCmp_ok (M : Int) : ConOk M cCmp := conC_ok (mem_cons_ok (cTms_ok M) nil_ok) fun x v h => by cases h; exact EvF.of_eq 60 fun m => tCmp M m x
def u64B (n : Int) : Bool := decide (0 ≤ n) && decide (n ≤ 18446744073709551615)
def cLen : Con := ⟨106, fun args => match args with
  | [.int .u64 n] => some (.ite (u64B n) (.val (.int .i64 (Lib.bitLen n.toNat))) .no)
  | _ => none⟩
theorem cLen_ok (M : Int) : ConOk M cLen := by
  intro args t v h hv w inv
  simp only [cLen] at h
  split at h
  · rename_i n
    cases h
    obtain ⟨h1, h⟩ := OT.pre hv
    cases h
    simp only [u64B, Bool.and_eq_true, decide_eq_true_eq] at h1
    refine (Tryd.bits_Len n w h1.1 h1.2).mono ?_
    rintro e w' ⟨rfl, rfl⟩
    exact ⟨rfl, Below.refl _ _⟩
  · cases h
theorem LL_ok (M : Int) : ∀ c ∈ [cLen], ConOk M c := mem_cons_ok (cLen_ok M) nil_ok
noncomputable abbrev qP (i : Nat) : Code := nthC (pcs Tryd.prog 87) i
noncomputable abbrev BP : Code := loopOf Tryd.prog 87 0
theorem LP_eq : pcs Tryd.prog 87 = [qP 0, qP 1, .block 0 (.loop BP), qP 3, qP 4] := by kernel_rfl
theorem headP {α : Type} (M : Int) (fs : Nat → Nat) (n : Int) (l : List Code) (k : Kont α) :
    evP Tryd.prog (orcL [cLen]) (Sg1 M) 3 fs 0 (qP 0 :: qP 1 :: l) (.int .i64 n :: List.replicate 18 undef) (Sg1 M) k =
    bif u64B (IntKind.u64.wrap n) then evP Tryd.prog (orcL [cLen]) (Sg1 M) 3 fs 2 l [.int .i64 n, undef, .int .i64 0, .int .i64 0, .int .i64 n, .int .u64 (IntKind.u64.wrap n), .int .i64 (Lib.bitLen (IntKind.u64.wrap n).toNat), .int .i64 0, undef, undef, undef, undef, undef, undef, undef, undef, undef, undef, undef] (Sg1 M) k else none := by kernel_rfl
theorem roundP {α : Type} (M : Int) (m : Nat) (n c r i : Int) (v1 v2 v4 v5 v8 v9 v10 v11 v12 v13 v14 v15 v16 v17 v18 : Value) (k : Kont α) :
    evCodeK Tryd.prog (orcL [cLen]) (Sg1 M) (m + 60) 3 BP [(.int .i64 n), v1, v2, (.int .i64 c), v4, v5, (.int .i64 r), (.int .i64 i), v8, v9, v10, v11, v12, v13, v14, v15, v16, v17, v18] (Sg1 M) k =
    bif decide (i < r) then (bif n.tmod 2 == 0 then k .normal [(.int .i64 (w (n.tdiv 2))), v1, v2, (.int .i64 (w (c + 1))), v4, v5, (.int .i64 r), (.int .i64 (w (i + 1))), (.bool true), (.int .i64 n), (.int .i64 (n.tmod 2)), (.bool true), (.int .i64 n), (.int .i64 (w (n.tdiv 2))), (.int .i64 c), (.int .i64 (w (c + 1))), (.int .i64 (w (i + 1))), v17, v18] (Sg1 M) else k .normal [(.int .i64 n), v1, v2, (.int .i64 c), v4, v5, (.int .i64 r), (.int .i64 (w (i + 1))), (.bool true), (.int .i64 n), (.int .i64 (n.tmod 2)), (.bool false), v12, v13, v14, v15, (.int .i64 (w (i + 1))), v17, v18] (Sg1 M)) else k (.exit 0) [(.int .i64 n), v1, v2, (.int .i64 c), v4, v5, (.int .i64 r), (.int .i64 i), (.bool false), v9, v10, v11, v12, v13, v14, v15, v16, v17, v18] (Sg1 M) := by kernel_rfl
theorem tailP {α : Type} (M : Int) (fs : Nat → Nat) (n c r i : Int) (v1 v2 v4 v5 v8 v9 v10 v11 v12 v13 v14 v15 v16 v17 v18 : Value) (k : Kont α) :
    evP Tryd.prog (orcL [cLen]) (Sg1 M) 3 fs 3 [qP 3, qP 4] [(.int .i64 n), v1, v2, (.int .i64 c), v4, v5, (.int .i64 r), (.int .i64 i), v8, v9, v10, v11, v12, v13, v14, v15, v16, v17, v18] (Sg1 M) k = k .ret [(.int .i64 n), v1, (.int .i64 n), (.int .i64 c), v4, v5, (.int .i64 r), (.int .i64 i), v8, v9, v10, v11, v12, v13, v14, v15, v16, (.int .i64 n), (.int .i64 c)] (Sg1 M) := by kernel_rfl
theorem oddL_odd' {n : Int} (h : n % 2 ≠ 0) : ∀ r, oddL r n = (n, 0)
  | 0 => rfl
  | r + 1 => by simp only [oddL, if_neg h]
theorem loopP (M : Int) (R : Nat) (n0 : Int) (h1 : 0 ≤ n0) (h2 : n0 ≤ 9223372036854775807) (hR : R ≤ 64) (v1 v2 v4 v5 : Value) (L : List Value) (hL : L.length = 11) :
    Ev Tryd.prog (orcL [cLen]) (Sg1 M) Value 3 (.loop BP) (.int .i64 n0 :: v1 :: v2 :: .int .i64 0 :: v4 :: v5 :: .int .i64 R :: .int .i64 0 :: L) (Sg1 M) fun e T S => e = .exit 0 ∧ (∃ (i : Int) (L : List Value), L.length = 11 ∧ T = .int .i64 (oddL R n0).1 :: v1 :: v2 :: .int .i64 ((oddL R n0).2 : Nat) :: v4 :: v5 :: .int .i64 R :: .int .i64 i :: L) ∧ S = Sg1 M := by
  refine Ev.loop (fun m T S => ∃ (L : List Value) (n c i : Int), L.length = 11 ∧ T = .int .i64 n :: v1 :: v2 :: .int .i64 c :: v4 :: v5 :: .int .i64 R :: .int .i64 i :: L ∧ S = Sg1 M ∧ i + m = R ∧ 0 ≤ i ∧ 0 ≤ n ∧ n ≤ 9223372036854775807 ∧ 0 ≤ c ∧ c ≤ i ∧ (oddL m n).1 = (oddL R n0).1 ∧ c + ((oddL m n).2 : Nat) = ((oddL R n0).2 : Nat)) ?_ R _ _ ⟨L, n0, 0, 0, hL, rfl, rfl, by omega, by omega, h1, h2, by omega, by omega, rfl, by omega⟩
  rintro m T S ⟨L, n, c, i, hL, rfl, rfl, hi, hi0, g1, g2, g3, g4, e1, e2⟩
  match L, hL with
  | [v8, v9, v10, v11, v12, v13, v14, v15, v16, v17, v18], _ =>
  cases m with
  | zero =>
    refine Ev.of_eq 60 (fun s k => (roundP M s n c R i v1 v2 v4 v5 v8 v9 v10 v11 v12 v13 v14 v15 v16 v17 v18 k).trans (condF (decide_eq_false (by omega)))) ?_
    simp only [oddL] at e1 e2
    rw [← e1, ← e2, show c + ((0 : Nat) : Int) = c by omega]
    exact ⟨rfl, ⟨i, [.bool false, v9, v10, v11, v12, v13, v14, v15, v16, v17, v18], rfl, rfl⟩, rfl⟩
  | succ m =>
    have hw : w (i + 1) = i + 1 := w_eq _ (by omega) (by omega)
    by_cases e : n % 2 = 0
    · have ht : n.tmod 2 = 0 := by rw [Int.tmod_eq_emod_of_nonneg g1]; exact e
      have hd : w (n.tdiv 2) = n / 2 := by rw [Int.tdiv_eq_ediv_of_nonneg g1]; exact w_eq _ (by omega) (by omega)
      have hc : w (c + 1) = c + 1 := w_eq _ (by omega) (by omega)
      refine Ev.of_eq 60 (fun s k => (roundP M s n c R i v1 v2 v4 v5 v8 v9 v10 v11 v12 v13 v14 v15 v16 v17 v18 k).trans ((condT (decide_eq_true (by omega))).trans (condT (by rw [ht]; rfl)))) ?_
      simp only [oddL, if_pos e] at e1 e2
      exact ⟨m, Nat.lt_succ_self m, _, n / 2, c + 1, i + 1, rfl, by rw [hd, hc, hw], rfl, by omega, by omega, by omega, by omega, by omega, by omega, e1, by omega⟩
    · have ht : n.tmod 2 ≠ 0 := by rw [Int.tmod_eq_emod_of_nonneg g1]; exact e
      refine Ev.of_eq 60 (fun s k => (roundP M s n c R i v1 v2 v4 v5 v8 v9 v10 v11 v12 v13 v14 v15 v16 v17 v18 k).trans ((condT (decide_eq_true (by omega))).trans (condF (beq_eq_false_iff_ne.2 ht)))) ?_
      rw [oddL_odd' e] at e1 e2
      exact ⟨m, Nat.lt_succ_self m, _, n, c, i + 1, rfl, by rw [hw], rfl, by omega, by omega, by omega, by omega, by omega, by omega, by rw [oddL_odd' e]; exact e1, by rw [oddL_odd' e]; exact e2⟩
theorem tmpsP (n : Int) : tmps0Of Tryd.prog 87 [.int .i64 n] = .int .i64 n :: List.replicate 18 undef := by kernel_rfl
theorem outP (M n c : Int) (v0 v1 : Value) (L : List Value) : outOf Tryd.prog 87 (v0 :: v1 :: .int .i64 n :: .int .i64 c :: L) (Sg1 M) = some (.tuple #[.int .i64 n, .int .i64 c]) := by kernel_rfl
/-- The odd part of a number of 64 bits. -/
def oddS (n : Int) : Int × Nat := oddL (Lib.bitLen n.toNat) n
theorem eP (M : Int) (n : Int) (h1 : 0 ≤ n) (h2 : n ≤ 9223372036854775807) (hR : Lib.bitLen n.toNat ≤ 64) : EvF Tryd.prog (orcL [cLen]) (Sg1 M) 87 [.int .i64 n] (.tuple #[.int .i64 (oddS n).1, .int .i64 ((oddS n).2 : Nat)]) := by
  have hw : IntKind.u64.wrap n = n := by rw [IntKind.wrap_u64]; omega
  refine EvF.of_body rfl ?_
  rw [tmpsP]
  show Ev Tryd.prog (orcL [cLen]) (Sg1 M) Value 3 _ _ _ _
  refine Ev.of_pieces ?_
  rw [show flatC (bodyOf Tryd.prog 87) = _ from LP_eq]
  refine EvP.run (fun fs k => (headP M fs n _ k).trans (condT (by rw [hw]; simp only [u64B, Bool.and_eq_true, decide_eq_true_eq]; omega))) ?_
  rw [hw]
  refine EvP.step (Ev.block ((loopP M (Lib.bitLen n.toNat) n h1 h2 hR _ _ _ _ _ rfl).mono ?_))
  rintro e T S ⟨rfl, ⟨i, L, hL, rfl⟩, rfl⟩
  match L, hL with
  | [v8, v9, v10, v11, v12, v13, v14, v15, v16, v17, v18], _ =>
  refine EvP.stop (fun fs k => tailP M fs _ _ _ _ _ _ _ _ v8 v9 v10 v11 v12 v13 v14 v15 v16 v17 v18 k) ⟨trivial, ?_⟩
  exact outP M _ _ _ _ _
end Go.Proofs.YtihccnfaibiiiaaDoor.R
