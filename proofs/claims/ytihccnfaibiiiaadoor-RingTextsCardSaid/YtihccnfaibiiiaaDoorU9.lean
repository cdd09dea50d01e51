/- Ring: the specification's text of a number, whole (made by mktx.py). -/
import Derived.Test.YtihccnfaibiiiaaDoorU8
namespace Go.Proofs.YtihccnfaibiiiaaDoor.R
open Go Go.Proofs.XX.Vm Go.Proofs.XX.Rm Go.RowKit
set_option maxRecDepth 100000

theorem txU_eq {α : Type} {i : Nat} (hi : i < 4) {a : List UInt8} (ha : a.length ≤ 400) (k : ByteArray → Option α) : txU i (bs a) k = k (bs (a ++ uniOf i)) := by
  have hu : (uniOf i).length ≤ 2 := by
    have : i = 0 ∨ i = 1 ∨ i = 2 ∨ i = 3 := by omega
    rcases this with rfl | rfl | rfl | rfl <;> decide
  unfold txU
  rw [catOk_bs (by omega), bs_cat]; rfl
theorem txM_eq {α : Type} {i : Nat} (hi : i < 4) {a : List UInt8} (ha : a.length ≤ 300) {m : Nat} (hm : m ≤ 1073741824) (k : ByteArray → Option α) : txM i (bs a) (m : Int) k = k (bs (a ++ (Lib.decDigits m ++ uniOf i))) := by
  have hd := dec_len (n := m) (by omega)
  have h1 : dgOk 18 (m : Int) = true := by
    unfold dgOk
    rw [decide_eq_true (show (0 : Int) ≤ m by omega), show (10 : Int) ^ 18 = 1000000000000000000 by decide, decide_eq_true (show (m : Int) < 1000000000000000000 by omega)]; rfl
  unfold txM
  rw [h1, Int.toNat_natCast, catOk_bs (by omega), bs_cat, txU_eq hi (by simp only [List.length_append]; omega), List.append_assoc]; rfl
theorem txD_eq {α : Type} {i : Nat} (hi : i < 4) {a : List UInt8} (ha : a.length ≤ 300) {n m : Int} (hm : m = (n.natAbs : Int)) (hn : n.natAbs ≤ 1073741824) (k : ByteArray → Option α) : txD i (bs a) m k = k (bs (a ++ (mgT i n ++ uniOf i))) := by
  have key := txM_eq hi ha hn k
  rw [← hm] at key
  unfold txD mgT
  by_cases h1 : n.natAbs = 1
  · have hb : (n.natAbs == 1) = true := by simpa using h1
    have hm1 : (m != 1) = false := by rw [hm, h1]; rfl
    rw [hb, hm1]
    cases i with
    | zero => exact key
    | succ j => exact txU_eq hi (by omega) k
  · have hb : (n.natAbs == 1) = false := by simpa using h1
    have hm1 : (m != 1) = true := by rw [bne_iff_ne]; omega
    rw [hb, hm1, Bool.and_false]
    exact key
theorem txS_eq {α : Type} {i : Nat} (hi : i < 4) {a : List UInt8} (ha : a.length ≤ 200) {n : Int} (hn : n.natAbs ≤ 1073741824) (k0 : Option α) (k : ByteArray → Option α) : txS i (bs a) n k0 k = bif n == 0 then k0 else k (bs (a ++ pieceT (!a.isEmpty) i n)) := by
  unfold txS pieceT sgT
  cases hz : n == 0 with
  | true => rfl
  | false =>
    have hz' : n ≠ 0 := by simpa using hz
    simp only [cond_false]
    by_cases hneg : n < 0
    · have hw : w (0 - n) = 0 - n := w_eq _ (by omega) (by omega)
      rw [decide_eq_true hneg, catOk_bs (by simp; omega), bs_cat, hw, txD_eq hi (by simp; omega) (n := n) (by omega) hn, List.append_assoc]; rfl
    · rw [decide_eq_false hneg, bs_empty]
      simp only [cond_false]
      cases a.isEmpty with
      | true => rw [txD_eq hi (by omega) (n := n) (by omega) hn]; rfl
      | false => rw [catOk_bs (by simp; omega), bs_cat, txD_eq hi (by simp; omega) (n := n) (by omega) hn, List.append_assoc]; rfl
def accX (x : N) : Nat → List UInt8
  | 0 => []
  | i + 1 => accX x i ++ pz (!(accX x i).isEmpty) i (getC x i)
theorem getC_big {x : N} (h : big 1073741824 x) {i : Nat} (hi : i < 4) : (getC x i).natAbs ≤ 1073741824 := by
  obtain ⟨h1, h2, h3, h4⟩ := h
  have : i = 0 ∨ i = 1 ∨ i = 2 ∨ i = 3 := by omega
  rcases this with rfl | rfl | rfl | rfl
  · show x.a.natAbs ≤ _; omega
  · show x.b.natAbs ≤ _; omega
  · show x.c.natAbs ≤ _; omega
  · show x.d.natAbs ≤ _; omega
theorem accX_len {x : N} (h : big 1073741824 x) : ∀ i, i ≤ 4 → (accX x i).length ≤ 25 * i
  | 0, _ => Nat.le_refl _
  | i + 1, hi => by
    have a := accX_len h i (by omega)
    have b := pz_len (!(accX x i).isEmpty) (i := i) (by omega) (getC_big h (i := i) (by omega))
    show (accX x i ++ pz (!(accX x i).isEmpty) i (getC x i)).length ≤ _
    rw [List.length_append]; omega
theorem accX_terms (x : N) : accX x 4 = terms x := by
  show (((([] ++ pz false 0 x.a) ++ pz _ 1 x.b) ++ pz _ 2 x.c) ++ pz _ 3 x.d) = _
  unfold terms
  simp only [List.nil_append]
  show _ = pz false 0 x.a ++ (pz _ 1 x.b ++ (pz _ 2 x.c ++ pz _ 3 x.d))
  simp only [← List.append_assoc]
  rfl
theorem accX_step {x : N} (h : big 1073741824 x) {α : Type} {i : Nat} (hi : i < 4) (k0 : Option α) (k : ByteArray → Option α) : txS i (bs (accX x i)) (getC x i) k0 k = bif getC x i == 0 then k0 else k (bs (accX x (i + 1))) := by
  have hl := accX_len h i (by omega)
  rw [txS_eq hi (by omega) (getC_big h hi)]
  show _ = bif getC x i == 0 then k0 else k (bs (accX x i ++ pz (!(accX x i).isEmpty) i (getC x i)))
  unfold pz
  cases getC x i == 0 <;> rfl
theorem accX_same {x : N} {i : Nat} (h : (getC x i == 0) = true) : accX x (i + 1) = accX x i := by
  show accX x i ++ pz (!(accX x i).isEmpty) i (getC x i) = _
  unfold pz
  rw [h]; simp
def heapX (M : Int) (x : N) (e : Nat) : List Blk := [uni, pow, mxl M, rb x, slB x] ++ List.replicate e uB
def StX (M : Int) (x : N) (i : Nat) (T : List Value) (S : List Blk) : Prop := ∃ e, e ≤ i ∧ T.length = 65 ∧ picks T [1, 3, 4, 5] = [.pointer (some ⟨3, 0, none⟩), .string (bs (accX x i)), .slice (some ⟨4, 0, none⟩) 4 4, .int .i64 (i : Int)] ∧ S = heapX M x e
theorem sTx00 (M : Int) {x : N} (h : big 1073741824 x) (T : List Value) (hT : T.length = 65) (hp : picks T [1, 3, 4, 5] = [.pointer (some ⟨3, 0, none⟩), .string (bs (accX x 0)), .slice (some ⟨4, 0, none⟩) 4 4, .int .i64 ((0 : Nat) : Int)]) :
    WpW Tryd.prog (Sg1 M) 3 3 BTx T (heapX M x 0) fun y T' S' => y = .normal ∧ StX M x 1 T' S' := by
  have hp : [nthD T 1, nthD T 3, nthD T 4, nthD T 5] = _ := hp
  injection hp with h1 hp
  injection hp with h3 hp
  injection hp with h4 hp
  injection hp with h5 hp
  have eT : T = [nthD T 0, .pointer (some ⟨3, 0, none⟩), nthD T 2, .string (bs (accX x 0)), .slice (some ⟨4, 0, none⟩) 4 4, .int .i64 ((0 : Nat) : Int), nthD T 6, nthD T 7, nthD T 8, nthD T 9, nthD T 10, nthD T 11, nthD T 12, nthD T 13, nthD T 14, nthD T 15, nthD T 16, nthD T 17, nthD T 18, nthD T 19, nthD T 20, nthD T 21, nthD T 22, nthD T 23, nthD T 24, nthD T 25, nthD T 26, nthD T 27, nthD T 28, nthD T 29, nthD T 30, nthD T 31, nthD T 32, nthD T 33, nthD T 34, nthD T 35, nthD T 36, nthD T 37, nthD T 38, nthD T 39, nthD T 40, nthD T 41, nthD T 42, nthD T 43, nthD T 44, nthD T 45, nthD T 46, nthD T 47, nthD T 48, nthD T 49, nthD T 50, nthD T 51, nthD T 52, nthD T 53, nthD T 54, nthD T 55, nthD T 56, nthD T 57, nthD T 58, nthD T 59, nthD T 60, nthD T 61, nthD T 62, nthD T 63, nthD T 64] := (spread hT).trans (by
    show [nthD T 0, nthD T 1, nthD T 2, nthD T 3, nthD T 4, nthD T 5, nthD T 6, nthD T 7, nthD T 8, nthD T 9, nthD T 10, nthD T 11, nthD T 12, nthD T 13, nthD T 14, nthD T 15, nthD T 16, nthD T 17, nthD T 18, nthD T 19, nthD T 20, nthD T 21, nthD T 22, nthD T 23, nthD T 24, nthD T 25, nthD T 26, nthD T 27, nthD T 28, nthD T 29, nthD T 30, nthD T 31, nthD T 32, nthD T 33, nthD T 34, nthD T 35, nthD T 36, nthD T 37, nthD T 38, nthD T 39, nthD T 40, nthD T 41, nthD T 42, nthD T 43, nthD T 44, nthD T 45, nthD T 46, nthD T 47, nthD T 48, nthD T 49, nthD T 50, nthD T 51, nthD T 52, nthD T 53, nthD T 54, nthD T 55, nthD T 56, nthD T 57, nthD T 58, nthD T 59, nthD T 60, nthD T 61, nthD T 62, nthD T 63, nthD T 64] = _
    rw [h1, h3, h4, h5])
  rw [eT]
  have hR := (rTx00 M x (bs (accX x 0)) (nthD T 0) (nthD T 2) (nthD T 6) (nthD T 7) (nthD T 8) (nthD T 9) (nthD T 10) (nthD T 11) (nthD T 12) (nthD T 13) (nthD T 14) (nthD T 15) (nthD T 16) (nthD T 17) (nthD T 18) (nthD T 19) (nthD T 20) (nthD T 21) (nthD T 22) (nthD T 23) (nthD T 24) (nthD T 25) (nthD T 26) (nthD T 27) (nthD T 28) (nthD T 29) (nthD T 30) (nthD T 31) (nthD T 32) (nthD T 33) (nthD T 34) (nthD T 35) (nthD T 36) (nthD T 37) (nthD T 38) (nthD T 39) (nthD T 40) (nthD T 41) (nthD T 42) (nthD T 43) (nthD T 44) (nthD T 45) (nthD T 46) (nthD T 47) (nthD T 48) (nthD T 49) (nthD T 50) (nthD T 51) (nthD T 52) (nthD T 53) (nthD T 54) (nthD T 55) (nthD T 56) (nthD T 57) (nthD T 58) (nthD T 59) (nthD T 60) (nthD T 61) (nthD T 62) (nthD T 63) (nthD T 64)).trans (accX_step h (i := 0) (by omega) _ _)
  cases hz : getC x 0 == 0 with
  | true =>
    rw [hz] at hR
    exact WpW.see (sg1 M) (orcOk_of (LTx_ok M)) (Nat.le_refl _) hR fun T' hT' hp' => ⟨rfl, 0, by omega, hT', by rw [accX_same hz]; exact hp', rfl⟩
  | false =>
    rw [hz] at hR
    exact WpW.see (sg1 M) (orcOk_of (LTx_ok M)) (Nat.le_refl _) hR fun T' hT' hp' => ⟨rfl, 1, by omega, hT', hp', rfl⟩
theorem sTx10 (M : Int) {x : N} (h : big 1073741824 x) (T : List Value) (hT : T.length = 65) (hp : picks T [1, 3, 4, 5] = [.pointer (some ⟨3, 0, none⟩), .string (bs (accX x 1)), .slice (some ⟨4, 0, none⟩) 4 4, .int .i64 ((1 : Nat) : Int)]) :
    WpW Tryd.prog (Sg1 M) 3 3 BTx T (heapX M x 0) fun y T' S' => y = .normal ∧ StX M x 2 T' S' := by
  have hp : [nthD T 1, nthD T 3, nthD T 4, nthD T 5] = _ := hp
  injection hp with h1 hp
  injection hp with h3 hp
  injection hp with h4 hp
  injection hp with h5 hp
  have eT : T = [nthD T 0, .pointer (some ⟨3, 0, none⟩), nthD T 2, .string (bs (accX x 1)), .slice (some ⟨4, 0, none⟩) 4 4, .int .i64 ((1 : Nat) : Int), nthD T 6, nthD T 7, nthD T 8, nthD T 9, nthD T 10, nthD T 11, nthD T 12, nthD T 13, nthD T 14, nthD T 15, nthD T 16, nthD T 17, nthD T 18, nthD T 19, nthD T 20, nthD T 21, nthD T 22, nthD T 23, nthD T 24, nthD T 25, nthD T 26, nthD T 27, nthD T 28, nthD T 29, nthD T 30, nthD T 31, nthD T 32, nthD T 33, nthD T 34, nthD T 35, nthD T 36, nthD T 37, nthD T 38, nthD T 39, nthD T 40, nthD T 41, nthD T 42, nthD T 43, nthD T 44, nthD T 45, nthD T 46, nthD T 47, nthD T 48, nthD T 49, nthD T 50, nthD T 51, nthD T 52, nthD T 53, nthD T 54, nthD T 55, nthD T 56, nthD T 57, nthD T 58, nthD T 59, nthD T 60, nthD T 61, nthD T 62, nthD T 63, nthD T 64] := (spread hT).trans (by
    show [nthD T 0, nthD T 1, nthD T 2, nthD T 3, nthD T 4, nthD T 5, nthD T 6, nthD T 7, nthD T 8, nthD T 9, nthD T 10, nthD T 11, nthD T 12, nthD T 13, nthD T 14, nthD T 15, nthD T 16, nthD T 17, nthD T 18, nthD T 19, nthD T 20, nthD T 21, nthD T 22, nthD T 23, nthD T 24, nthD T 25, nthD T 26, nthD T 27, nthD T 28, nthD T 29, nthD T 30, nthD T 31, nthD T 32, nthD T 33, nthD T 34, nthD T 35, nthD T 36, nthD T 37, nthD T 38, nthD T 39, nthD T 40, nthD T 41, nthD T 42, nthD T 43, nthD T 44, nthD T 45, nthD T 46, nthD T 47, nthD T 48, nthD T 49, nthD T 50, nthD T 51, nthD T 52, nthD T 53, nthD T 54, nthD T 55, nthD T 56, nthD T 57, nthD T 58, nthD T 59, nthD T 60, nthD T 61, nthD T 62, nthD T 63, nthD T 64] = _
    rw [h1, h3, h4, h5])
  rw [eT]
  have hR := (rTx10 M x (bs (accX x 1)) (nthD T 0) (nthD T 2) (nthD T 6) (nthD T 7) (nthD T 8) (nthD T 9) (nthD T 10) (nthD T 11) (nthD T 12) (nthD T 13) (nthD T 14) (nthD T 15) (nthD T 16) (nthD T 17) (nthD T 18) (nthD T 19) (nthD T 20) (nthD T 21) (nthD T 22) (nthD T 23) (nthD T 24) (nthD T 25) (nthD T 26) (nthD T 27) (nthD T 28) (nthD T 29) (nthD T 30) (nthD T 31) (nthD T 32) (nthD T 33) (nthD T 34) (nthD T 35) (nthD T 36) (nthD T 37) (nthD T 38) (nthD T 39) (nthD T 40) (nthD T 41) (nthD T 42) (nthD T 43) (nthD T 44) (nthD T 45) (nthD T 46) (nthD T 47) (nthD T 48) (nthD T 49) (nthD T 50) (nthD T 51) (nthD T 52) (nthD T 53) (nthD T 54) (nthD T 55) (nthD T 56) (nthD T 57) (nthD T 58) (nthD T 59) (nthD T 60) (nthD T 61) (nthD T 62) (nthD T 63) (nthD T 64)).trans (accX_step h (i := 1) (by omega) _ _)
  cases hz : getC x 1 == 0 with
  | true =>
    rw [hz] at hR
    exact WpW.see (sg1 M) (orcOk_of (LTx_ok M)) (Nat.le_refl _) hR fun T' hT' hp' => ⟨rfl, 0, by omega, hT', by rw [accX_same hz]; exact hp', rfl⟩
  | false =>
    rw [hz] at hR
    exact WpW.see (sg1 M) (orcOk_of (LTx_ok M)) (Nat.le_refl _) hR fun T' hT' hp' => ⟨rfl, 1, by omega, hT', hp', rfl⟩
theorem sTx11 (M : Int) {x : N} (h : big 1073741824 x) (T : List Value) (hT : T.length = 65) (hp : picks T [1, 3, 4, 5] = [.pointer (some ⟨3, 0, none⟩), .string (bs (accX x 1)), .slice (some ⟨4, 0, none⟩) 4 4, .int .i64 ((1 : Nat) : Int)]) :
    WpW Tryd.prog (Sg1 M) 3 3 BTx T (heapX M x 1) fun y T' S' => y = .normal ∧ StX M x 2 T' S' := by
  have hp : [nthD T 1, nthD T 3, nthD T 4, nthD T 5] = _ := hp
  injection hp with h1 hp
  injection hp with h3 hp
  injection hp with h4 hp
  injection hp with h5 hp
  have eT : T = [nthD T 0, .pointer (some ⟨3, 0, none⟩), nthD T 2, .string (bs (accX x 1)), .slice (some ⟨4, 0, none⟩) 4 4, .int .i64 ((1 : Nat) : Int), nthD T 6, nthD T 7, nthD T 8, nthD T 9, nthD T 10, nthD T 11, nthD T 12, nthD T 13, nthD T 14, nthD T 15, nthD T 16, nthD T 17, nthD T 18, nthD T 19, nthD T 20, nthD T 21, nthD T 22, nthD T 23, nthD T 24, nthD T 25, nthD T 26, nthD T 27, nthD T 28, nthD T 29, nthD T 30, nthD T 31, nthD T 32, nthD T 33, nthD T 34, nthD T 35, nthD T 36, nthD T 37, nthD T 38, nthD T 39, nthD T 40, nthD T 41, nthD T 42, nthD T 43, nthD T 44, nthD T 45, nthD T 46, nthD T 47, nthD T 48, nthD T 49, nthD T 50, nthD T 51, nthD T 52, nthD T 53, nthD T 54, nthD T 55, nthD T 56, nthD T 57, nthD T 58, nthD T 59, nthD T 60, nthD T 61, nthD T 62, nthD T 63, nthD T 64] := (spread hT).trans (by
    show [nthD T 0, nthD T 1, nthD T 2, nthD T 3, nthD T 4, nthD T 5, nthD T 6, nthD T 7, nthD T 8, nthD T 9, nthD T 10, nthD T 11, nthD T 12, nthD T 13, nthD T 14, nthD T 15, nthD T 16, nthD T 17, nthD T 18, nthD T 19, nthD T 20, nthD T 21, nthD T 22, nthD T 23, nthD T 24, nthD T 25, nthD T 26, nthD T 27, nthD T 28, nthD T 29, nthD T 30, nthD T 31, nthD T 32, nthD T 33, nthD T 34, nthD T 35, nthD T 36, nthD T 37, nthD T 38, nthD T 39, nthD T 40, nthD T 41, nthD T 42, nthD T 43, nthD T 44, nthD T 45, nthD T 46, nthD T 47, nthD T 48, nthD T 49, nthD T 50, nthD T 51, nthD T 52, nthD T 53, nthD T 54, nthD T 55, nthD T 56, nthD T 57, nthD T 58, nthD T 59, nthD T 60, nthD T 61, nthD T 62, nthD T 63, nthD T 64] = _
    rw [h1, h3, h4, h5])
  rw [eT]
  have hR := (rTx11 M x (bs (accX x 1)) (nthD T 0) (nthD T 2) (nthD T 6) (nthD T 7) (nthD T 8) (nthD T 9) (nthD T 10) (nthD T 11) (nthD T 12) (nthD T 13) (nthD T 14) (nthD T 15) (nthD T 16) (nthD T 17) (nthD T 18) (nthD T 19) (nthD T 20) (nthD T 21) (nthD T 22) (nthD T 23) (nthD T 24) (nthD T 25) (nthD T 26) (nthD T 27) (nthD T 28) (nthD T 29) (nthD T 30) (nthD T 31) (nthD T 32) (nthD T 33) (nthD T 34) (nthD T 35) (nthD T 36) (nthD T 37) (nthD T 38) (nthD T 39) (nthD T 40) (nthD T 41) (nthD T 42) (nthD T 43) (nthD T 44) (nthD T 45) (nthD T 46) (nthD T 47) (nthD T 48) (nthD T 49) (nthD T 50) (nthD T 51) (nthD T 52) (nthD T 53) (nthD T 54) (nthD T 55) (nthD T 56) (nthD T 57) (nthD T 58) (nthD T 59) (nthD T 60) (nthD T 61) (nthD T 62) (nthD T 63) (nthD T 64)).trans (accX_step h (i := 1) (by omega) _ _)
  cases hz : getC x 1 == 0 with
  | true =>
    rw [hz] at hR
    exact WpW.see (sg1 M) (orcOk_of (LTx_ok M)) (Nat.le_refl _) hR fun T' hT' hp' => ⟨rfl, 1, by omega, hT', by rw [accX_same hz]; exact hp', rfl⟩
  | false =>
    rw [hz] at hR
    exact WpW.see (sg1 M) (orcOk_of (LTx_ok M)) (Nat.le_refl _) hR fun T' hT' hp' => ⟨rfl, 2, by omega, hT', hp', rfl⟩
theorem sTx20 (M : Int) {x : N} (h : big 1073741824 x) (T : List Value) (hT : T.length = 65) (hp : picks T [1, 3, 4, 5] = [.pointer (some ⟨3, 0, none⟩), .string (bs (accX x 2)), .slice (some ⟨4, 0, none⟩) 4 4, .int .i64 ((2 : Nat) : Int)]) :
    WpW Tryd.prog (Sg1 M) 3 3 BTx T (heapX M x 0) fun y T' S' => y = .normal ∧ StX M x 3 T' S' := by
  have hp : [nthD T 1, nthD T 3, nthD T 4, nthD T 5] = _ := hp
  injection hp with h1 hp
  injection hp with h3 hp
  injection hp with h4 hp
  injection hp with h5 hp
  have eT : T = [nthD T 0, .pointer (some ⟨3, 0, none⟩), nthD T 2, .string (bs (accX x 2)), .slice (some ⟨4, 0, none⟩) 4 4, .int .i64 ((2 : Nat) : Int), nthD T 6, nthD T 7, nthD T 8, nthD T 9, nthD T 10, nthD T 11, nthD T 12, nthD T 13, nthD T 14, nthD T 15, nthD T 16, nthD T 17, nthD T 18, nthD T 19, nthD T 20, nthD T 21, nthD T 22, nthD T 23, nthD T 24, nthD T 25, nthD T 26, nthD T 27, nthD T 28, nthD T 29, nthD T 30, nthD T 31, nthD T 32, nthD T 33, nthD T 34, nthD T 35, nthD T 36, nthD T 37, nthD T 38, nthD T 39, nthD T 40, nthD T 41, nthD T 42, nthD T 43, nthD T 44, nthD T 45, nthD T 46, nthD T 47, nthD T 48, nthD T 49, nthD T 50, nthD T 51, nthD T 52, nthD T 53, nthD T 54, nthD T 55, nthD T 56, nthD T 57, nthD T 58, nthD T 59, nthD T 60, nthD T 61, nthD T 62, nthD T 63, nthD T 64] := (spread hT).trans (by
    show [nthD T 0, nthD T 1, nthD T 2, nthD T 3, nthD T 4, nthD T 5, nthD T 6, nthD T 7, nthD T 8, nthD T 9, nthD T 10, nthD T 11, nthD T 12, nthD T 13, nthD T 14, nthD T 15, nthD T 16, nthD T 17, nthD T 18, nthD T 19, nthD T 20, nthD T 21, nthD T 22, nthD T 23, nthD T 24, nthD T 25, nthD T 26, nthD T 27, nthD T 28, nthD T 29, nthD T 30, nthD T 31, nthD T 32, nthD T 33, nthD T 34, nthD T 35, nthD T 36, nthD T 37, nthD T 38, nthD T 39, nthD T 40, nthD T 41, nthD T 42, nthD T 43, nthD T 44, nthD T 45, nthD T 46, nthD T 47, nthD T 48, nthD T 49, nthD T 50, nthD T 51, nthD T 52, nthD T 53, nthD T 54, nthD T 55, nthD T 56, nthD T 57, nthD T 58, nthD T 59, nthD T 60, nthD T 61, nthD T 62, nthD T 63, nthD T 64] = _
    rw [h1, h3, h4, h5])
  rw [eT]
  have hR := (rTx20 M x (bs (accX x 2)) (nthD T 0) (nthD T 2) (nthD T 6) (nthD T 7) (nthD T 8) (nthD T 9) (nthD T 10) (nthD T 11) (nthD T 12) (nthD T 13) (nthD T 14) (nthD T 15) (nthD T 16) (nthD T 17) (nthD T 18) (nthD T 19) (nthD T 20) (nthD T 21) (nthD T 22) (nthD T 23) (nthD T 24) (nthD T 25) (nthD T 26) (nthD T 27) (nthD T 28) (nthD T 29) (nthD T 30) (nthD T 31) (nthD T 32) (nthD T 33) (nthD T 34) (nthD T 35) (nthD T 36) (nthD T 37) (nthD T 38) (nthD T 39) (nthD T 40) (nthD T 41) (nthD T 42) (nthD T 43) (nthD T 44) (nthD T 45) (nthD T 46) (nthD T 47) (nthD T 48) (nthD T 49) (nthD T 50) (nthD T 51) (nthD T 52) (nthD T 53) (nthD T 54) (nthD T 55) (nthD T 56) (nthD T 57) (nthD T 58) (nthD T 59) (nthD T 60) (nthD T 61) (nthD T 62) (nthD T 63) (nthD T 64)).trans (accX_step h (i := 2) (by omega) _ _)
  cases hz : getC x 2 == 0 with
  | true =>
    rw [hz] at hR
    exact WpW.see (sg1 M) (orcOk_of (LTx_ok M)) (Nat.le_refl _) hR fun T' hT' hp' => ⟨rfl, 0, by omega, hT', by rw [accX_same hz]; exact hp', rfl⟩
  | false =>
    rw [hz] at hR
    exact WpW.see (sg1 M) (orcOk_of (LTx_ok M)) (Nat.le_refl _) hR fun T' hT' hp' => ⟨rfl, 1, by omega, hT', hp', rfl⟩
theorem sTx21 (M : Int) {x : N} (h : big 1073741824 x) (T : List Value) (hT : T.length = 65) (hp : picks T [1, 3, 4, 5] = [.pointer (some ⟨3, 0, none⟩), .string (bs (accX x 2)), .slice (some ⟨4, 0, none⟩) 4 4, .int .i64 ((2 : Nat) : Int)]) :
    WpW Tryd.prog (Sg1 M) 3 3 BTx T (heapX M x 1) fun y T' S' => y = .normal ∧ StX M x 3 T' S' := by
  have hp : [nthD T 1, nthD T 3, nthD T 4, nthD T 5] = _ := hp
  injection hp with h1 hp
  injection hp with h3 hp
  injection hp with h4 hp
  injection hp with h5 hp
  have eT : T = [nthD T 0, .pointer (some ⟨3, 0, none⟩), nthD T 2, .string (bs (accX x 2)), .slice (some ⟨4, 0, none⟩) 4 4, .int .i64 ((2 : Nat) : Int), nthD T 6, nthD T 7, nthD T 8, nthD T 9, nthD T 10, nthD T 11, nthD T 12, nthD T 13, nthD T 14, nthD T 15, nthD T 16, nthD T 17, nthD T 18, nthD T 19, nthD T 20, nthD T 21, nthD T 22, nthD T 23, nthD T 24, nthD T 25, nthD T 26, nthD T 27, nthD T 28, nthD T 29, nthD T 30, nthD T 31, nthD T 32, nthD T 33, nthD T 34, nthD T 35, nthD T 36, nthD T 37, nthD T 38, nthD T 39, nthD T 40, nthD T 41, nthD T 42, nthD T 43, nthD T 44, nthD T 45, nthD T 46, nthD T 47, nthD T 48, nthD T 49, nthD T 50, nthD T 51, nthD T 52, nthD T 53, nthD T 54, nthD T 55, nthD T 56, nthD T 57, nthD T 58, nthD T 59, nthD T 60, nthD T 61, nthD T 62, nthD T 63, nthD T 64] := (spread hT).trans (by
    show [nthD T 0, nthD T 1, nthD T 2, nthD T 3, nthD T 4, nthD T 5, nthD T 6, nthD T 7, nthD T 8, nthD T 9, nthD T 10, nthD T 11, nthD T 12, nthD T 13, nthD T 14, nthD T 15, nthD T 16, nthD T 17, nthD T 18, nthD T 19, nthD T 20, nthD T 21, nthD T 22, nthD T 23, nthD T 24, nthD T 25, nthD T 26, nthD T 27, nthD T 28, nthD T 29, nthD T 30, nthD T 31, nthD T 32, nthD T 33, nthD T 34, nthD T 35, nthD T 36, nthD T 37, nthD T 38, nthD T 39, nthD T 40, nthD T 41, nthD T 42, nthD T 43, nthD T 44, nthD T 45, nthD T 46, nthD T 47, nthD T 48, nthD T 49, nthD T 50, nthD T 51, nthD T 52, nthD T 53, nthD T 54, nthD T 55, nthD T 56, nthD T 57, nthD T 58, nthD T 59, nthD T 60, nthD T 61, nthD T 62, nthD T 63, nthD T 64] = _
    rw [h1, h3, h4, h5])
  rw [eT]
  have hR := (rTx21 M x (bs (accX x 2)) (nthD T 0) (nthD T 2) (nthD T 6) (nthD T 7) (nthD T 8) (nthD T 9) (nthD T 10) (nthD T 11) (nthD T 12) (nthD T 13) (nthD T 14) (nthD T 15) (nthD T 16) (nthD T 17) (nthD T 18) (nthD T 19) (nthD T 20) (nthD T 21) (nthD T 22) (nthD T 23) (nthD T 24) (nthD T 25) (nthD T 26) (nthD T 27) (nthD T 28) (nthD T 29) (nthD T 30) (nthD T 31) (nthD T 32) (nthD T 33) (nthD T 34) (nthD T 35) (nthD T 36) (nthD T 37) (nthD T 38) (nthD T 39) (nthD T 40) (nthD T 41) (nthD T 42) (nthD T 43) (nthD T 44) (nthD T 45) (nthD T 46) (nthD T 47) (nthD T 48) (nthD T 49) (nthD T 50) (nthD T 51) (nthD T 52) (nthD T 53) (nthD T 54) (nthD T 55) (nthD T 56) (nthD T 57) (nthD T 58) (nthD T 59) (nthD T 60) (nthD T 61) (nthD T 62) (nthD T 63) (nthD T 64)).trans (accX_step h (i := 2) (by omega) _ _)
  cases hz : getC x 2 == 0 with
  | true =>
    rw [hz] at hR
    exact WpW.see (sg1 M) (orcOk_of (LTx_ok M)) (Nat.le_refl _) hR fun T' hT' hp' => ⟨rfl, 1, by omega, hT', by rw [accX_same hz]; exact hp', rfl⟩
  | false =>
    rw [hz] at hR
    exact WpW.see (sg1 M) (orcOk_of (LTx_ok M)) (Nat.le_refl _) hR fun T' hT' hp' => ⟨rfl, 2, by omega, hT', hp', rfl⟩
theorem sTx22 (M : Int) {x : N} (h : big 1073741824 x) (T : List Value) (hT : T.length = 65) (hp : picks T [1, 3, 4, 5] = [.pointer (some ⟨3, 0, none⟩), .string (bs (accX x 2)), .slice (some ⟨4, 0, none⟩) 4 4, .int .i64 ((2 : Nat) : Int)]) :
    WpW Tryd.prog (Sg1 M) 3 3 BTx T (heapX M x 2) fun y T' S' => y = .normal ∧ StX M x 3 T' S' := by
  have hp : [nthD T 1, nthD T 3, nthD T 4, nthD T 5] = _ := hp
  injection hp with h1 hp
  injection hp with h3 hp
  injection hp with h4 hp
  injection hp with h5 hp
  have eT : T = [nthD T 0, .pointer (some ⟨3, 0, none⟩), nthD T 2, .string (bs (accX x 2)), .slice (some ⟨4, 0, none⟩) 4 4, .int .i64 ((2 : Nat) : Int), nthD T 6, nthD T 7, nthD T 8, nthD T 9, nthD T 10, nthD T 11, nthD T 12, nthD T 13, nthD T 14, nthD T 15, nthD T 16, nthD T 17, nthD T 18, nthD T 19, nthD T 20, nthD T 21, nthD T 22, nthD T 23, nthD T 24, nthD T 25, nthD T 26, nthD T 27, nthD T 28, nthD T 29, nthD T 30, nthD T 31, nthD T 32, nthD T 33, nthD T 34, nthD T 35, nthD T 36, nthD T 37, nthD T 38, nthD T 39, nthD T 40, nthD T 41, nthD T 42, nthD T 43, nthD T 44, nthD T 45, nthD T 46, nthD T 47, nthD T 48, nthD T 49, nthD T 50, nthD T 51, nthD T 52, nthD T 53, nthD T 54, nthD T 55, nthD T 56, nthD T 57, nthD T 58, nthD T 59, nthD T 60, nthD T 61, nthD T 62, nthD T 63, nthD T 64] := (spread hT).trans (by
    show [nthD T 0, nthD T 1, nthD T 2, nthD T 3, nthD T 4, nthD T 5, nthD T 6, nthD T 7, nthD T 8, nthD T 9, nthD T 10, nthD T 11, nthD T 12, nthD T 13, nthD T 14, nthD T 15, nthD T 16, nthD T 17, nthD T 18, nthD T 19, nthD T 20, nthD T 21, nthD T 22, nthD T 23, nthD T 24, nthD T 25, nthD T 26, nthD T 27, nthD T 28, nthD T 29, nthD T 30, nthD T 31, nthD T 32, nthD T 33, nthD T 34, nthD T 35, nthD T 36, nthD T 37, nthD T 38, nthD T 39, nthD T 40, nthD T 41, nthD T 42, nthD T 43, nthD T 44, nthD T 45, nthD T 46, nthD T 47, nthD T 48, nthD T 49, nthD T 50, nthD T 51, nthD T 52, nthD T 53, nthD T 54, nthD T 55, nthD T 56, nthD T 57, nthD T 58, nthD T 59, nthD T 60, nthD T 61, nthD T 62, nthD T 63, nthD T 64] = _
    rw [h1, h3, h4, h5])
  rw [eT]
  have hR := (rTx22 M x (bs (accX x 2)) (nthD T 0) (nthD T 2) (nthD T 6) (nthD T 7) (nthD T 8) (nthD T 9) (nthD T 10) (nthD T 11) (nthD T 12) (nthD T 13) (nthD T 14) (nthD T 15) (nthD T 16) (nthD T 17) (nthD T 18) (nthD T 19) (nthD T 20) (nthD T 21) (nthD T 22) (nthD T 23) (nthD T 24) (nthD T 25) (nthD T 26) (nthD T 27) (nthD T 28) (nthD T 29) (nthD T 30) (nthD T 31) (nthD T 32) (nthD T 33) (nthD T 34) (nthD T 35) (nthD T 36) (nthD T 37) (nthD T 38) (nthD T 39) (nthD T 40) (nthD T 41) (nthD T 42) (nthD T 43) (nthD T 44) (nthD T 45) (nthD T 46) (nthD T 47) (nthD T 48) (nthD T 49) (nthD T 50) (nthD T 51) (nthD T 52) (nthD T 53) (nthD T 54) (nthD T 55) (nthD T 56) (nthD T 57) (nthD T 58) (nthD T 59) (nthD T 60) (nthD T 61) (nthD T 62) (nthD T 63) (nthD T 64)).trans (accX_step h (i := 2) (by omega) _ _)
  cases hz : getC x 2 == 0 with
  | true =>
    rw [hz] at hR
    exact WpW.see (sg1 M) (orcOk_of (LTx_ok M)) (Nat.le_refl _) hR fun T' hT' hp' => ⟨rfl, 2, by omega, hT', by rw [accX_same hz]; exact hp', rfl⟩
  | false =>
    rw [hz] at hR
    exact WpW.see (sg1 M) (orcOk_of (LTx_ok M)) (Nat.le_refl _) hR fun T' hT' hp' => ⟨rfl, 3, by omega, hT', hp', rfl⟩
theorem sTx30 (M : Int) {x : N} (h : big 1073741824 x) (T : List Value) (hT : T.length = 65) (hp : picks T [1, 3, 4, 5] = [.pointer (some ⟨3, 0, none⟩), .string (bs (accX x 3)), .slice (some ⟨4, 0, none⟩) 4 4, .int .i64 ((3 : Nat) : Int)]) :
    WpW Tryd.prog (Sg1 M) 3 3 BTx T (heapX M x 0) fun y T' S' => y = .normal ∧ StX M x 4 T' S' := by
  have hp : [nthD T 1, nthD T 3, nthD T 4, nthD T 5] = _ := hp
  injection hp with h1 hp
  injection hp with h3 hp
  injection hp with h4 hp
  injection hp with h5 hp
  have eT : T = [nthD T 0, .pointer (some ⟨3, 0, none⟩), nthD T 2, .string (bs (accX x 3)), .slice (some ⟨4, 0, none⟩) 4 4, .int .i64 ((3 : Nat) : Int), nthD T 6, nthD T 7, nthD T 8, nthD T 9, nthD T 10, nthD T 11, nthD T 12, nthD T 13, nthD T 14, nthD T 15, nthD T 16, nthD T 17, nthD T 18, nthD T 19, nthD T 20, nthD T 21, nthD T 22, nthD T 23, nthD T 24, nthD T 25, nthD T 26, nthD T 27, nthD T 28, nthD T 29, nthD T 30, nthD T 31, nthD T 32, nthD T 33, nthD T 34, nthD T 35, nthD T 36, nthD T 37, nthD T 38, nthD T 39, nthD T 40, nthD T 41, nthD T 42, nthD T 43, nthD T 44, nthD T 45, nthD T 46, nthD T 47, nthD T 48, nthD T 49, nthD T 50, nthD T 51, nthD T 52, nthD T 53, nthD T 54, nthD T 55, nthD T 56, nthD T 57, nthD T 58, nthD T 59, nthD T 60, nthD T 61, nthD T 62, nthD T 63, nthD T 64] := (spread hT).trans (by
    show [nthD T 0, nthD T 1, nthD T 2, nthD T 3, nthD T 4, nthD T 5, nthD T 6, nthD T 7, nthD T 8, nthD T 9, nthD T 10, nthD T 11, nthD T 12, nthD T 13, nthD T 14, nthD T 15, nthD T 16, nthD T 17, nthD T 18, nthD T 19, nthD T 20, nthD T 21, nthD T 22, nthD T 23, nthD T 24, nthD T 25, nthD T 26, nthD T 27, nthD T 28, nthD T 29, nthD T 30, nthD T 31, nthD T 32, nthD T 33, nthD T 34, nthD T 35, nthD T 36, nthD T 37, nthD T 38, nthD T 39, nthD T 40, nthD T 41, nthD T 42, nthD T 43, nthD T 44, nthD T 45, nthD T 46, nthD T 47, nthD T 48, nthD T 49, nthD T 50, nthD T 51, nthD T 52, nthD T 53, nthD T 54, nthD T 55, nthD T 56, nthD T 57, nthD T 58, nthD T 59, nthD T 60, nthD T 61, nthD T 62, nthD T 63, nthD T 64] = _
    rw [h1, h3, h4, h5])
  rw [eT]
  have hR := (rTx30 M x (bs (accX x 3)) (nthD T 0) (nthD T 2) (nthD T 6) (nthD T 7) (nthD T 8) (nthD T 9) (nthD T 10) (nthD T 11) (nthD T 12) (nthD T 13) (nthD T 14) (nthD T 15) (nthD T 16) (nthD T 17) (nthD T 18) (nthD T 19) (nthD T 20) (nthD T 21) (nthD T 22) (nthD T 23) (nthD T 24) (nthD T 25) (nthD T 26) (nthD T 27) (nthD T 28) (nthD T 29) (nthD T 30) (nthD T 31) (nthD T 32) (nthD T 33) (nthD T 34) (nthD T 35) (nthD T 36) (nthD T 37) (nthD T 38) (nthD T 39) (nthD T 40) (nthD T 41) (nthD T 42) (nthD T 43) (nthD T 44) (nthD T 45) (nthD T 46) (nthD T 47) (nthD T 48) (nthD T 49) (nthD T 50) (nthD T 51) (nthD T 52) (nthD T 53) (nthD T 54) (nthD T 55) (nthD T 56) (nthD T 57) (nthD T 58) (nthD T 59) (nthD T 60) (nthD T 61) (nthD T 62) (nthD T 63) (nthD T 64)).trans (accX_step h (i := 3) (by omega) _ _)
  cases hz : getC x 3 == 0 with
  | true =>
    rw [hz] at hR
    exact WpW.see (sg1 M) (orcOk_of (LTx_ok M)) (Nat.le_refl _) hR fun T' hT' hp' => ⟨rfl, 0, by omega, hT', by rw [accX_same hz]; exact hp', rfl⟩
  | false =>
    rw [hz] at hR
    exact WpW.see (sg1 M) (orcOk_of (LTx_ok M)) (Nat.le_refl _) hR fun T' hT' hp' => ⟨rfl, 1, by omega, hT', hp', rfl⟩
theorem sTx31 (M : Int) {x : N} (h : big 1073741824 x) (T : List Value) (hT : T.length = 65) (hp : picks T [1, 3, 4, 5] = [.pointer (some ⟨3, 0, none⟩), .string (bs (accX x 3)), .slice (some ⟨4, 0, none⟩) 4 4, .int .i64 ((3 : Nat) : Int)]) :
    WpW Tryd.prog (Sg1 M) 3 3 BTx T (heapX M x 1) fun y T' S' => y = .normal ∧ StX M x 4 T' S' := by
  have hp : [nthD T 1, nthD T 3, nthD T 4, nthD T 5] = _ := hp
  injection hp with h1 hp
  injection hp with h3 hp
  injection hp with h4 hp
  injection hp with h5 hp
  have eT : T = [nthD T 0, .pointer (some ⟨3, 0, none⟩), nthD T 2, .string (bs (accX x 3)), .slice (some ⟨4, 0, none⟩) 4 4, .int .i64 ((3 : Nat) : Int), nthD T 6, nthD T 7, nthD T 8, nthD T 9, nthD T 10, nthD T 11, nthD T 12, nthD T 13, nthD T 14, nthD T 15, nthD T 16, nthD T 17, nthD T 18, nthD T 19, nthD T 20, nthD T 21, nthD T 22, nthD T 23, nthD T 24, nthD T 25, nthD T 26, nthD T 27, nthD T 28, nthD T 29, nthD T 30, nthD T 31, nthD T 32, nthD T 33, nthD T 34, nthD T 35, nthD T 36, nthD T 37, nthD T 38, nthD T 39, nthD T 40, nthD T 41, nthD T 42, nthD T 43, nthD T 44, nthD T 45, nthD T 46, nthD T 47, nthD T 48, nthD T 49, nthD T 50, nthD T 51, nthD T 52, nthD T 53, nthD T 54, nthD T 55, nthD T 56, nthD T 57, nthD T 58, nthD T 59, nthD T 60, nthD T 61, nthD T 62, nthD T 63, nthD T 64] := (spread hT).trans (by
    show [nthD T 0, nthD T 1, nthD T 2, nthD T 3, nthD T 4, nthD T 5, nthD T 6, nthD T 7, nthD T 8, nthD T 9, nthD T 10, nthD T 11, nthD T 12, nthD T 13, nthD T 14, nthD T 15, nthD T 16, nthD T 17, nthD T 18, nthD T 19, nthD T 20, nthD T 21, nthD T 22, nthD T 23, nthD T 24, nthD T 25, nthD T 26, nthD T 27, nthD T 28, nthD T 29, nthD T 30, nthD T 31, nthD T 32, nthD T 33, nthD T 34, nthD T 35, nthD T 36, nthD T 37, nthD T 38, nthD T 39, nthD T 40, nthD T 41, nthD T 42, nthD T 43, nthD T 44, nthD T 45, nthD T 46, nthD T 47, nthD T 48, nthD T 49, nthD T 50, nthD T 51, nthD T 52, nthD T 53, nthD T 54, nthD T 55, nthD T 56, nthD T 57, nthD T 58, nthD T 59, nthD T 60, nthD T 61, nthD T 62, nthD T 63, nthD T 64] = _
    rw [h1, h3, h4, h5])
  rw [eT]
  have hR := (rTx31 M x (bs (accX x 3)) (nthD T 0) (nthD T 2) (nthD T 6) (nthD T 7) (nthD T 8) (nthD T 9) (nthD T 10) (nthD T 11) (nthD T 12) (nthD T 13) (nthD T 14) (nthD T 15) (nthD T 16) (nthD T 17) (nthD T 18) (nthD T 19) (nthD T 20) (nthD T 21) (nthD T 22) (nthD T 23) (nthD T 24) (nthD T 25) (nthD T 26) (nthD T 27) (nthD T 28) (nthD T 29) (nthD T 30) (nthD T 31) (nthD T 32) (nthD T 33) (nthD T 34) (nthD T 35) (nthD T 36) (nthD T 37) (nthD T 38) (nthD T 39) (nthD T 40) (nthD T 41) (nthD T 42) (nthD T 43) (nthD T 44) (nthD T 45) (nthD T 46) (nthD T 47) (nthD T 48) (nthD T 49) (nthD T 50) (nthD T 51) (nthD T 52) (nthD T 53) (nthD T 54) (nthD T 55) (nthD T 56) (nthD T 57) (nthD T 58) (nthD T 59) (nthD T 60) (nthD T 61) (nthD T 62) (nthD T 63) (nthD T 64)).trans (accX_step h (i := 3) (by omega) _ _)
  cases hz : getC x 3 == 0 with
  | true =>
    rw [hz] at hR
    exact WpW.see (sg1 M) (orcOk_of (LTx_ok M)) (Nat.le_refl _) hR fun T' hT' hp' => ⟨rfl, 1, by omega, hT', by rw [accX_same hz]; exact hp', rfl⟩
  | false =>
    rw [hz] at hR
    exact WpW.see (sg1 M) (orcOk_of (LTx_ok M)) (Nat.le_refl _) hR fun T' hT' hp' => ⟨rfl, 2, by omega, hT', hp', rfl⟩
theorem sTx32 (M : Int) {x : N} (h : big 1073741824 x) (T : List Value) (hT : T.length = 65) (hp : picks T [1, 3, 4, 5] = [.pointer (some ⟨3, 0, none⟩), .string (bs (accX x 3)), .slice (some ⟨4, 0, none⟩) 4 4, .int .i64 ((3 : Nat) : Int)]) :
    WpW Tryd.prog (Sg1 M) 3 3 BTx T (heapX M x 2) fun y T' S' => y = .normal ∧ StX M x 4 T' S' := by
  have hp : [nthD T 1, nthD T 3, nthD T 4, nthD T 5] = _ := hp
  injection hp with h1 hp
  injection hp with h3 hp
  injection hp with h4 hp
  injection hp with h5 hp
  have eT : T = [nthD T 0, .pointer (some ⟨3, 0, none⟩), nthD T 2, .string (bs (accX x 3)), .slice (some ⟨4, 0, none⟩) 4 4, .int .i64 ((3 : Nat) : Int), nthD T 6, nthD T 7, nthD T 8, nthD T 9, nthD T 10, nthD T 11, nthD T 12, nthD T 13, nthD T 14, nthD T 15, nthD T 16, nthD T 17, nthD T 18, nthD T 19, nthD T 20, nthD T 21, nthD T 22, nthD T 23, nthD T 24, nthD T 25, nthD T 26, nthD T 27, nthD T 28, nthD T 29, nthD T 30, nthD T 31, nthD T 32, nthD T 33, nthD T 34, nthD T 35, nthD T 36, nthD T 37, nthD T 38, nthD T 39, nthD T 40, nthD T 41, nthD T 42, nthD T 43, nthD T 44, nthD T 45, nthD T 46, nthD T 47, nthD T 48, nthD T 49, nthD T 50, nthD T 51, nthD T 52, nthD T 53, nthD T 54, nthD T 55, nthD T 56, nthD T 57, nthD T 58, nthD T 59, nthD T 60, nthD T 61, nthD T 62, nthD T 63, nthD T 64] := (spread hT).trans (by
    show [nthD T 0, nthD T 1, nthD T 2, nthD T 3, nthD T 4, nthD T 5, nthD T 6, nthD T 7, nthD T 8, nthD T 9, nthD T 10, nthD T 11, nthD T 12, nthD T 13, nthD T 14, nthD T 15, nthD T 16, nthD T 17, nthD T 18, nthD T 19, nthD T 20, nthD T 21, nthD T 22, nthD T 23, nthD T 24, nthD T 25, nthD T 26, nthD T 27, nthD T 28, nthD T 29, nthD T 30, nthD T 31, nthD T 32, nthD T 33, nthD T 34, nthD T 35, nthD T 36, nthD T 37, nthD T 38, nthD T 39, nthD T 40, nthD T 41, nthD T 42, nthD T 43, nthD T 44, nthD T 45, nthD T 46, nthD T 47, nthD T 48, nthD T 49, nthD T 50, nthD T 51, nthD T 52, nthD T 53, nthD T 54, nthD T 55, nthD T 56, nthD T 57, nthD T 58, nthD T 59, nthD T 60, nthD T 61, nthD T 62, nthD T 63, nthD T 64] = _
    rw [h1, h3, h4, h5])
  rw [eT]
  have hR := (rTx32 M x (bs (accX x 3)) (nthD T 0) (nthD T 2) (nthD T 6) (nthD T 7) (nthD T 8) (nthD T 9) (nthD T 10) (nthD T 11) (nthD T 12) (nthD T 13) (nthD T 14) (nthD T 15) (nthD T 16) (nthD T 17) (nthD T 18) (nthD T 19) (nthD T 20) (nthD T 21) (nthD T 22) (nthD T 23) (nthD T 24) (nthD T 25) (nthD T 26) (nthD T 27) (nthD T 28) (nthD T 29) (nthD T 30) (nthD T 31) (nthD T 32) (nthD T 33) (nthD T 34) (nthD T 35) (nthD T 36) (nthD T 37) (nthD T 38) (nthD T 39) (nthD T 40) (nthD T 41) (nthD T 42) (nthD T 43) (nthD T 44) (nthD T 45) (nthD T 46) (nthD T 47) (nthD T 48) (nthD T 49) (nthD T 50) (nthD T 51) (nthD T 52) (nthD T 53) (nthD T 54) (nthD T 55) (nthD T 56) (nthD T 57) (nthD T 58) (nthD T 59) (nthD T 60) (nthD T 61) (nthD T 62) (nthD T 63) (nthD T 64)).trans (accX_step h (i := 3) (by omega) _ _)
  cases hz : getC x 3 == 0 with
  | true =>
    rw [hz] at hR
    exact WpW.see (sg1 M) (orcOk_of (LTx_ok M)) (Nat.le_refl _) hR fun T' hT' hp' => ⟨rfl, 2, by omega, hT', by rw [accX_same hz]; exact hp', rfl⟩
  | false =>
    rw [hz] at hR
    exact WpW.see (sg1 M) (orcOk_of (LTx_ok M)) (Nat.le_refl _) hR fun T' hT' hp' => ⟨rfl, 3, by omega, hT', hp', rfl⟩
theorem sTx33 (M : Int) {x : N} (h : big 1073741824 x) (T : List Value) (hT : T.length = 65) (hp : picks T [1, 3, 4, 5] = [.pointer (some ⟨3, 0, none⟩), .string (bs (accX x 3)), .slice (some ⟨4, 0, none⟩) 4 4, .int .i64 ((3 : Nat) : Int)]) :
    WpW Tryd.prog (Sg1 M) 3 3 BTx T (heapX M x 3) fun y T' S' => y = .normal ∧ StX M x 4 T' S' := by
  have hp : [nthD T 1, nthD T 3, nthD T 4, nthD T 5] = _ := hp
  injection hp with h1 hp
  injection hp with h3 hp
  injection hp with h4 hp
  injection hp with h5 hp
  have eT : T = [nthD T 0, .pointer (some ⟨3, 0, none⟩), nthD T 2, .string (bs (accX x 3)), .slice (some ⟨4, 0, none⟩) 4 4, .int .i64 ((3 : Nat) : Int), nthD T 6, nthD T 7, nthD T 8, nthD T 9, nthD T 10, nthD T 11, nthD T 12, nthD T 13, nthD T 14, nthD T 15, nthD T 16, nthD T 17, nthD T 18, nthD T 19, nthD T 20, nthD T 21, nthD T 22, nthD T 23, nthD T 24, nthD T 25, nthD T 26, nthD T 27, nthD T 28, nthD T 29, nthD T 30, nthD T 31, nthD T 32, nthD T 33, nthD T 34, nthD T 35, nthD T 36, nthD T 37, nthD T 38, nthD T 39, nthD T 40, nthD T 41, nthD T 42, nthD T 43, nthD T 44, nthD T 45, nthD T 46, nthD T 47, nthD T 48, nthD T 49, nthD T 50, nthD T 51, nthD T 52, nthD T 53, nthD T 54, nthD T 55, nthD T 56, nthD T 57, nthD T 58, nthD T 59, nthD T 60, nthD T 61, nthD T 62, nthD T 63, nthD T 64] := (spread hT).trans (by
    show [nthD T 0, nthD T 1, nthD T 2, nthD T 3, nthD T 4, nthD T 5, nthD T 6, nthD T 7, nthD T 8, nthD T 9, nthD T 10, nthD T 11, nthD T 12, nthD T 13, nthD T 14, nthD T 15, nthD T 16, nthD T 17, nthD T 18, nthD T 19, nthD T 20, nthD T 21, nthD T 22, nthD T 23, nthD T 24, nthD T 25, nthD T 26, nthD T 27, nthD T 28, nthD T 29, nthD T 30, nthD T 31, nthD T 32, nthD T 33, nthD T 34, nthD T 35, nthD T 36, nthD T 37, nthD T 38, nthD T 39, nthD T 40, nthD T 41, nthD T 42, nthD T 43, nthD T 44, nthD T 45, nthD T 46, nthD T 47, nthD T 48, nthD T 49, nthD T 50, nthD T 51, nthD T 52, nthD T 53, nthD T 54, nthD T 55, nthD T 56, nthD T 57, nthD T 58, nthD T 59, nthD T 60, nthD T 61, nthD T 62, nthD T 63, nthD T 64] = _
    rw [h1, h3, h4, h5])
  rw [eT]
  have hR := (rTx33 M x (bs (accX x 3)) (nthD T 0) (nthD T 2) (nthD T 6) (nthD T 7) (nthD T 8) (nthD T 9) (nthD T 10) (nthD T 11) (nthD T 12) (nthD T 13) (nthD T 14) (nthD T 15) (nthD T 16) (nthD T 17) (nthD T 18) (nthD T 19) (nthD T 20) (nthD T 21) (nthD T 22) (nthD T 23) (nthD T 24) (nthD T 25) (nthD T 26) (nthD T 27) (nthD T 28) (nthD T 29) (nthD T 30) (nthD T 31) (nthD T 32) (nthD T 33) (nthD T 34) (nthD T 35) (nthD T 36) (nthD T 37) (nthD T 38) (nthD T 39) (nthD T 40) (nthD T 41) (nthD T 42) (nthD T 43) (nthD T 44) (nthD T 45) (nthD T 46) (nthD T 47) (nthD T 48) (nthD T 49) (nthD T 50) (nthD T 51) (nthD T 52) (nthD T 53) (nthD T 54) (nthD T 55) (nthD T 56) (nthD T 57) (nthD T 58) (nthD T 59) (nthD T 60) (nthD T 61) (nthD T 62) (nthD T 63) (nthD T 64)).trans (accX_step h (i := 3) (by omega) _ _)
  cases hz : getC x 3 == 0 with
  | true =>
    rw [hz] at hR
    exact WpW.see (sg1 M) (orcOk_of (LTx_ok M)) (Nat.le_refl _) hR fun T' hT' hp' => ⟨rfl, 3, by omega, hT', by rw [accX_same hz]; exact hp', rfl⟩
  | false =>
    rw [hz] at hR
    exact WpW.see (sg1 M) (orcOk_of (LTx_ok M)) (Nat.le_refl _) hR fun T' hT' hp' => ⟨rfl, 4, by omega, hT', hp', rfl⟩
theorem loopTx (M : Int) {x : N} (h : big 1073741824 x) (T : List Value) (S : List Blk) (h0 : StX M x 0 T S) :
    WpW Tryd.prog (Sg1 M) 3 3 (.loop BTx) T S fun y T' S' => y = .exit 0 ∧ StX M x 4 T' S' := by
  refine WpW.loop (fun m T S => ∃ i, i ≤ 4 ∧ m = 4 - i ∧ StX M x i T S) ?_ 4 T S ⟨0, by omega, rfl, h0⟩
  rintro m T S ⟨i, hi, rfl, e, he, hT, hp, rfl⟩
  have hi : i = 0 ∨ i = 1 ∨ i = 2 ∨ i = 3 ∨ i = 4 := by omega
  have go : ∀ {i : Nat}, i < 4 → ∀ {T : List Value} {S : List Blk} {R : Ex → List Value → List Blk → Prop}, WpW Tryd.prog (Sg1 M) 3 3 BTx T S (fun y T' S' => y = .normal ∧ StX M x (i + 1) T' S') → (∀ y T' S', (y = .normal ∧ StX M x (i + 1) T' S') → R y T' S') → WpW Tryd.prog (Sg1 M) 3 3 BTx T S R := fun _ _ _ _ hw hq => hw.mono hq
  rcases hi with rfl | rfl | rfl | rfl | rfl
  · have he : e = 0 := by omega
    refine go (i := 0) (by omega) (?_) (fun y T' S' ⟨hy, hs⟩ => by subst hy; exact ⟨4 - 1, by omega, 1, by omega, rfl, hs⟩)
    rcases he with rfl
    · exact sTx00 M h T hT hp
  · have he : e = 0 ∨ e = 1 := by omega
    refine go (i := 1) (by omega) (?_) (fun y T' S' ⟨hy, hs⟩ => by subst hy; exact ⟨4 - 2, by omega, 2, by omega, rfl, hs⟩)
    rcases he with rfl | rfl
    · exact sTx10 M h T hT hp
    · exact sTx11 M h T hT hp
  · have he : e = 0 ∨ e = 1 ∨ e = 2 := by omega
    refine go (i := 2) (by omega) (?_) (fun y T' S' ⟨hy, hs⟩ => by subst hy; exact ⟨4 - 3, by omega, 3, by omega, rfl, hs⟩)
    rcases he with rfl | rfl | rfl
    · exact sTx20 M h T hT hp
    · exact sTx21 M h T hT hp
    · exact sTx22 M h T hT hp
  · have he : e = 0 ∨ e = 1 ∨ e = 2 ∨ e = 3 := by omega
    refine go (i := 3) (by omega) (?_) (fun y T' S' ⟨hy, hs⟩ => by subst hy; exact ⟨4 - 4, by omega, 4, by omega, rfl, hs⟩)
    rcases he with rfl | rfl | rfl | rfl
    · exact sTx30 M h T hT hp
    · exact sTx31 M h T hT hp
    · exact sTx32 M h T hT hp
    · exact sTx33 M h T hT hp
  · skip
    have hp : [nthD T 1, nthD T 3, nthD T 4, nthD T 5] = _ := hp
    injection hp with h1 hp
    injection hp with h3 hp
    injection hp with h4 hp
    injection hp with h5 hp
    have eT : T = [nthD T 0, .pointer (some ⟨3, 0, none⟩), nthD T 2, .string (bs (accX x 4)), .slice (some ⟨4, 0, none⟩) 4 4, .int .i64 ((4 : Nat) : Int), nthD T 6, nthD T 7, nthD T 8, nthD T 9, nthD T 10, nthD T 11, nthD T 12, nthD T 13, nthD T 14, nthD T 15, nthD T 16, nthD T 17, nthD T 18, nthD T 19, nthD T 20, nthD T 21, nthD T 22, nthD T 23, nthD T 24, nthD T 25, nthD T 26, nthD T 27, nthD T 28, nthD T 29, nthD T 30, nthD T 31, nthD T 32, nthD T 33, nthD T 34, nthD T 35, nthD T 36, nthD T 37, nthD T 38, nthD T 39, nthD T 40, nthD T 41, nthD T 42, nthD T 43, nthD T 44, nthD T 45, nthD T 46, nthD T 47, nthD T 48, nthD T 49, nthD T 50, nthD T 51, nthD T 52, nthD T 53, nthD T 54, nthD T 55, nthD T 56, nthD T 57, nthD T 58, nthD T 59, nthD T 60, nthD T 61, nthD T 62, nthD T 63, nthD T 64] := (spread hT).trans (by
      show [nthD T 0, nthD T 1, nthD T 2, nthD T 3, nthD T 4, nthD T 5, nthD T 6, nthD T 7, nthD T 8, nthD T 9, nthD T 10, nthD T 11, nthD T 12, nthD T 13, nthD T 14, nthD T 15, nthD T 16, nthD T 17, nthD T 18, nthD T 19, nthD T 20, nthD T 21, nthD T 22, nthD T 23, nthD T 24, nthD T 25, nthD T 26, nthD T 27, nthD T 28, nthD T 29, nthD T 30, nthD T 31, nthD T 32, nthD T 33, nthD T 34, nthD T 35, nthD T 36, nthD T 37, nthD T 38, nthD T 39, nthD T 40, nthD T 41, nthD T 42, nthD T 43, nthD T 44, nthD T 45, nthD T 46, nthD T 47, nthD T 48, nthD T 49, nthD T 50, nthD T 51, nthD T 52, nthD T 53, nthD T 54, nthD T 55, nthD T 56, nthD T 57, nthD T 58, nthD T 59, nthD T 60, nthD T 61, nthD T 62, nthD T 63, nthD T 64] = _
      rw [h1, h3, h4, h5])
    rw [eT]
    exact WpW.see (sg1 M) (orcOk_of (LTx_ok M)) (Nat.le_refl _) (rTx4 M (bs (accX x 4)) (heapX M x e) (nthD T 0) (nthD T 2) (nthD T 6) (nthD T 7) (nthD T 8) (nthD T 9) (nthD T 10) (nthD T 11) (nthD T 12) (nthD T 13) (nthD T 14) (nthD T 15) (nthD T 16) (nthD T 17) (nthD T 18) (nthD T 19) (nthD T 20) (nthD T 21) (nthD T 22) (nthD T 23) (nthD T 24) (nthD T 25) (nthD T 26) (nthD T 27) (nthD T 28) (nthD T 29) (nthD T 30) (nthD T 31) (nthD T 32) (nthD T 33) (nthD T 34) (nthD T 35) (nthD T 36) (nthD T 37) (nthD T 38) (nthD T 39) (nthD T 40) (nthD T 41) (nthD T 42) (nthD T 43) (nthD T 44) (nthD T 45) (nthD T 46) (nthD T 47) (nthD T 48) (nthD T 49) (nthD T 50) (nthD T 51) (nthD T 52) (nthD T 53) (nthD T 54) (nthD T 55) (nthD T 56) (nthD T 57) (nthD T 58) (nthD T 59) (nthD T 60) (nthD T 61) (nthD T 62) (nthD T 63) (nthD T 64)) fun T' hT' hp' => ⟨rfl, e, he, hT', hp', rfl⟩
theorem wTx (M : Int) {x : N} (h : okB x = true) (hz : x.zero = true → x.k = 0) : WpW Tryd.prog (Sg1 M) 3 3 (bodyOf Tryd.prog 58) (tmps0Of Tryd.prog 58 [N.v x]) (Sg1 M) fun y T' U => (match y with | .exit _ => False | _ => True) ∧ (∃ N, U = Sg1 M ++ N) ∧ outOf Tryd.prog 58 T' U = some (.string (bs (numC x))) := by
  obtain ⟨hb, hk0, hk1⟩ := big_of h
  rw [tmpsTx]
  refine WpW.of_pieces ?_
  rw [show flatC (bodyOf Tryd.prog 58) = _ from LTx_eq]
  have hH := headTx M x
  cases hx : x.zero with
  | true =>
    rw [hx] at hH
    have e : numC x = [48] := by unfold numC termsC; rw [hz hx, hx]; rfl
    refine WpL.append (l := [qTx 0, qTx 1, qTx 2, qTx 3, qTx 4, qTx 5]) (WpL.seeEnd (sg1 M) (orcOk_of (LTx_ok M)) (Nat.le_refl _) hH fun T hT hp => ?_)
    have hp : [nthD T 1, nthD T 2, nthD T 3, nthD T 4, nthD T 5] = _ := hp
    injection hp with h1 hp
    injection hp with h2 hp
    injection hp with h3 hp
    injection hp with h4 hp
    injection hp with h5 hp
    have eT : T = [nthD T 0, .pointer (some ⟨3, 0, none⟩), .string (bs [48]), undef, undef, undef, nthD T 6, nthD T 7, nthD T 8, nthD T 9, nthD T 10, nthD T 11, nthD T 12, nthD T 13, nthD T 14, nthD T 15, nthD T 16, nthD T 17, nthD T 18, nthD T 19, nthD T 20, nthD T 21, nthD T 22, nthD T 23, nthD T 24, nthD T 25, nthD T 26, nthD T 27, nthD T 28, nthD T 29, nthD T 30, nthD T 31, nthD T 32, nthD T 33, nthD T 34, nthD T 35, nthD T 36, nthD T 37, nthD T 38, nthD T 39, nthD T 40, nthD T 41, nthD T 42, nthD T 43, nthD T 44, nthD T 45, nthD T 46, nthD T 47, nthD T 48, nthD T 49, nthD T 50, nthD T 51, nthD T 52, nthD T 53, nthD T 54, nthD T 55, nthD T 56, nthD T 57, nthD T 58, nthD T 59, nthD T 60, nthD T 61, nthD T 62, nthD T 63, nthD T 64] := (spread hT).trans (by
      show [nthD T 0, nthD T 1, nthD T 2, nthD T 3, nthD T 4, nthD T 5, nthD T 6, nthD T 7, nthD T 8, nthD T 9, nthD T 10, nthD T 11, nthD T 12, nthD T 13, nthD T 14, nthD T 15, nthD T 16, nthD T 17, nthD T 18, nthD T 19, nthD T 20, nthD T 21, nthD T 22, nthD T 23, nthD T 24, nthD T 25, nthD T 26, nthD T 27, nthD T 28, nthD T 29, nthD T 30, nthD T 31, nthD T 32, nthD T 33, nthD T 34, nthD T 35, nthD T 36, nthD T 37, nthD T 38, nthD T 39, nthD T 40, nthD T 41, nthD T 42, nthD T 43, nthD T 44, nthD T 45, nthD T 46, nthD T 47, nthD T 48, nthD T 49, nthD T 50, nthD T 51, nthD T 52, nthD T 53, nthD T 54, nthD T 55, nthD T 56, nthD T 57, nthD T 58, nthD T 59, nthD T 60, nthD T 61, nthD T 62, nthD T 63, nthD T 64] = _
      rw [h1, h2, h3, h4, h5])
    refine ⟨trivial, ⟨[rb x], rfl⟩, ?_⟩
    rw [e, eT]
    exact outTx _ _ (nthD T 0) (.pointer (some ⟨3, 0, none⟩)) undef undef undef (nthD T 6) (nthD T 7) (nthD T 8) (nthD T 9) (nthD T 10) (nthD T 11) (nthD T 12) (nthD T 13) (nthD T 14) (nthD T 15) (nthD T 16) (nthD T 17) (nthD T 18) (nthD T 19) (nthD T 20) (nthD T 21) (nthD T 22) (nthD T 23) (nthD T 24) (nthD T 25) (nthD T 26) (nthD T 27) (nthD T 28) (nthD T 29) (nthD T 30) (nthD T 31) (nthD T 32) (nthD T 33) (nthD T 34) (nthD T 35) (nthD T 36) (nthD T 37) (nthD T 38) (nthD T 39) (nthD T 40) (nthD T 41) (nthD T 42) (nthD T 43) (nthD T 44) (nthD T 45) (nthD T 46) (nthD T 47) (nthD T 48) (nthD T 49) (nthD T 50) (nthD T 51) (nthD T 52) (nthD T 53) (nthD T 54) (nthD T 55) (nthD T 56) (nthD T 57) (nthD T 58) (nthD T 59) (nthD T 60) (nthD T 61) (nthD T 62) (nthD T 63) (nthD T 64)
  | false =>
    rw [hx] at hH
    refine WpL.see (l := [_, _, _, _, _, _]) (m := [_, _, _, _, _]) (sg1 M) (orcOk_of (LTx_ok M)) (Nat.le_refl _) hH fun T hT hp => ?_
    have hs : StX M x 0 T [uni, pow, mxl M, rb x, slB x] := ⟨0, Nat.le_refl _, hT, by
      have hp : [nthD T 1, nthD T 2, nthD T 3, nthD T 4, nthD T 5] = _ := hp
      injection hp with h1 hp
      injection hp with h2 hp
      show [nthD T 1, nthD T 3, nthD T 4, nthD T 5] = _
      rw [h1, hp]; rfl, rfl⟩
    refine WpL.step (WpW.block ((loopTx M hb T _ hs).mono ?_))
    rintro y T S ⟨rfl, e, he, hT, hp, rfl⟩
    have hp : [nthD T 1, nthD T 3, nthD T 4, nthD T 5] = _ := hp
    injection hp with h1 hp
    injection hp with h3 hp
    injection hp with h4 hp
    injection hp with h5 hp
    have eT : T = [nthD T 0, .pointer (some ⟨3, 0, none⟩), nthD T 2, .string (bs (accX x 4)), .slice (some ⟨4, 0, none⟩) 4 4, .int .i64 ((4 : Nat) : Int), nthD T 6, nthD T 7, nthD T 8, nthD T 9, nthD T 10, nthD T 11, nthD T 12, nthD T 13, nthD T 14, nthD T 15, nthD T 16, nthD T 17, nthD T 18, nthD T 19, nthD T 20, nthD T 21, nthD T 22, nthD T 23, nthD T 24, nthD T 25, nthD T 26, nthD T 27, nthD T 28, nthD T 29, nthD T 30, nthD T 31, nthD T 32, nthD T 33, nthD T 34, nthD T 35, nthD T 36, nthD T 37, nthD T 38, nthD T 39, nthD T 40, nthD T 41, nthD T 42, nthD T 43, nthD T 44, nthD T 45, nthD T 46, nthD T 47, nthD T 48, nthD T 49, nthD T 50, nthD T 51, nthD T 52, nthD T 53, nthD T 54, nthD T 55, nthD T 56, nthD T 57, nthD T 58, nthD T 59, nthD T 60, nthD T 61, nthD T 62, nthD T 63, nthD T 64] := (spread hT).trans (by
      show [nthD T 0, nthD T 1, nthD T 2, nthD T 3, nthD T 4, nthD T 5, nthD T 6, nthD T 7, nthD T 8, nthD T 9, nthD T 10, nthD T 11, nthD T 12, nthD T 13, nthD T 14, nthD T 15, nthD T 16, nthD T 17, nthD T 18, nthD T 19, nthD T 20, nthD T 21, nthD T 22, nthD T 23, nthD T 24, nthD T 25, nthD T 26, nthD T 27, nthD T 28, nthD T 29, nthD T 30, nthD T 31, nthD T 32, nthD T 33, nthD T 34, nthD T 35, nthD T 36, nthD T 37, nthD T 38, nthD T 39, nthD T 40, nthD T 41, nthD T 42, nthD T 43, nthD T 44, nthD T 45, nthD T 46, nthD T 47, nthD T 48, nthD T 49, nthD T 50, nthD T 51, nthD T 52, nthD T 53, nthD T 54, nthD T 55, nthD T 56, nthD T 57, nthD T 58, nthD T 59, nthD T 60, nthD T 61, nthD T 62, nthD T 63, nthD T 64] = _
      rw [h1, h3, h4, h5])
    rw [eT]
    have ht := tailTx M x (bs (accX x 4)) (slB x :: List.replicate e uB) (nthD T 0) (nthD T 2) (nthD T 6) (nthD T 7) (nthD T 8) (nthD T 9) (nthD T 10) (nthD T 11) (nthD T 12) (nthD T 13) (nthD T 14) (nthD T 15) (nthD T 16) (nthD T 17) (nthD T 18) (nthD T 19) (nthD T 20) (nthD T 21) (nthD T 22) (nthD T 23) (nthD T 24) (nthD T 25) (nthD T 26) (nthD T 27) (nthD T 28) (nthD T 29) (nthD T 30) (nthD T 31) (nthD T 32) (nthD T 33) (nthD T 34) (nthD T 35) (nthD T 36) (nthD T 37) (nthD T 38) (nthD T 39) (nthD T 40) (nthD T 41) (nthD T 42) (nthD T 43) (nthD T 44) (nthD T 45) (nthD T 46) (nthD T 47) (nthD T 48) (nthD T 49) (nthD T 50) (nthD T 51) (nthD T 52) (nthD T 53) (nthD T 54) (nthD T 55) (nthD T 56) (nthD T 57) (nthD T 58) (nthD T 59) (nthD T 60) (nthD T 61) (nthD T 62) (nthD T 63) (nthD T 64)
    have e1 : accX x 4 = termsC x := by rw [accX_terms]; unfold termsC; rw [hx]; rfl
    have hl := termsC_len hb
    have hd := dec_len (n := x.k.toNat) (by omega)
    have hout : evP Tryd.prog (orcL LTx) (Sg1 M) 3 (fun _ => 1000) 0 [qTx 7, qTx 8, qTx 9, qTx 10] [nthD T 0, .pointer (some ⟨3, 0, none⟩), nthD T 2, .string (bs (accX x 4)), .slice (some ⟨4, 0, none⟩) 4 4, .int .i64 4, nthD T 6, nthD T 7, nthD T 8, nthD T 9, nthD T 10, nthD T 11, nthD T 12, nthD T 13, nthD T 14, nthD T 15, nthD T 16, nthD T 17, nthD T 18, nthD T 19, nthD T 20, nthD T 21, nthD T 22, nthD T 23, nthD T 24, nthD T 25, nthD T 26, nthD T 27, nthD T 28, nthD T 29, nthD T 30, nthD T 31, nthD T 32, nthD T 33, nthD T 34, nthD T 35, nthD T 36, nthD T 37, nthD T 38, nthD T 39, nthD T 40, nthD T 41, nthD T 42, nthD T 43, nthD T 44, nthD T 45, nthD T 46, nthD T 47, nthD T 48, nthD T 49, nthD T 50, nthD T 51, nthD T 52, nthD T 53, nthD T 54, nthD T 55, nthD T 56, nthD T 57, nthD T 58, nthD T 59, nthD T 60, nthD T 61, nthD T 62, nthD T 63, nthD T 64] (uni :: pow :: mxl M :: rb x :: slB x :: List.replicate e uB) (outs Tryd.prog 58) = some (.string (bs (numC x)), uni :: pow :: mxl M :: rb x :: slB x :: List.replicate e uB) := by
      rw [ht, e1]
      unfold numC
      by_cases hk : x.k = 0
      · rw [decide_eq_false (show ¬ x.k > 0 by omega), show (x.k == 0) = true by simpa using hk]; rfl
      · have hdg : dgOk 18 x.k = true := by
          unfold dgOk
          rw [decide_eq_true hk0, show (10 : Int) ^ 18 = 1000000000000000000 by decide, decide_eq_true (show x.k < 1000000000000000000 by omega)]; rfl
        rw [decide_eq_true (show x.k > 0 by omega), show (x.k == 0) = false by simpa using hk, hdg, catOk_bs (by simp; omega), bs_cat, catOk_bs (by simp; omega), bs_cat, catOk_bs (by simp; omega), bs_cat]; rfl
    refine WpL.mono (WpL.of_k (sg1 M) (orcOk_of (LTx_ok M)) (Nat.le_refl _) _ _ _ _ hout) ?_
    intro y T' U hk
    obtain ⟨h1, rfl, h2⟩ := outs_eq hk
    cases y with
    | normal => exact ⟨h1, ⟨_, rfl⟩, h2⟩
    | ret => exact ⟨h1, ⟨_, rfl⟩, h2⟩
    | exit id => exact h1.elim
def cTxt : Con := con1 58 fun x => .ite (okB x && !(x.zero && x.k != 0)) (.val (.string (bs (numC x)))) .no
theorem cTxt_ok (M : Int) : ConOk M cTxt := by
  intro args t v h hv w inv
  simp only [cTxt, con1] at h
  split at h
  · rename_i u
    split at h
    · rename_i x hx
      rw [asN_eq hx]
      cases h
      obtain ⟨h1, rfl⟩ := OT.pre hv
      simp only [Bool.and_eq_true] at h1
      refine calls_of_W (sg1 M) (by rw [show (Tryd.prog.funcs[58]?).bind (·.body) = some (bodyOf Tryd.prog 58) from by kernel_rfl]; simp) rfl rfl rfl (wTx M h1.1 fun hz => ?_) inv
      have h2 := h1.2
      rw [hz] at h2
      simpa using h2
    · cases h
  · cases h
end Go.Proofs.YtihccnfaibiiiaaDoor.R
