/- Ring: the specification's reader of digits (made by mknm.py). -/
import Derived.Test.YtihccnfaibiiiaaDoorU9
namespace Go.Proofs.YtihccnfaibiiiaaDoor.R
open Go Go.Proofs.XX.Vm Go.Proofs.XX.Rm Go.RowKit
set_option maxRecDepth 100000

noncomputable abbrev qNm (i : Nat) : Code := nthC (pcs Tryd.prog 59) i
noncomputable abbrev BNm : Code := loopOf Tryd.prog 59 0
theorem LNm_eq : pcs Tryd.prog 59 = [qNm 0, qNm 1, .block 0 (.loop BNm), qNm 3, qNm 4] := by kernel_rfl
theorem tmpsNm (s : ByteArray) (a : Int) : tmps0Of Tryd.prog 59 [.string s, .int .i64 a] = .string s :: .int .i64 a :: List.replicate 34 undef := by kernel_rfl
theorem headNm (M : Int) (s : ByteArray) (a : Int) : evP Tryd.prog (orcL []) (Sg1 M) 3 (fun _ => 1000) 0 [qNm 0, qNm 1] (.string s :: .int .i64 a :: List.replicate 34 undef) [uni, pow, mxl M] (sees [0, 1, 6]) = some (.normal, 36, [.string s, .int .i64 a, .int .i64 0], [uni, pow, mxl M]) := by kernel_rfl
def ix {α : Type} (s : ByteArray) (a : Int) (k : Option α) : Option α := bif decide (0 ≤ a) && decide (a < (s.size : Int)) then k else none
def w8 (n : Int) : Int := IntKind.u8.wrap n
theorem roundNm (M : Int) (s : ByteArray) (a n : Int) (t2 t3 t4 t5 t7 t8 t9 t10 t11 t12 t13 t14 t15 t16 t17 t18 t19 t20 t21 t22 t23 t24 t25 t26 t27 t28 t29 t30 t31 t32 t33 t34 t35 : Value) : evCodeK Tryd.prog (orcL []) (Sg1 M) 1060 3 BNm [.string s, .int .i64 a, t2, t3, t4, t5, .int .i64 n, t7, t8, t9, t10, t11, t12, t13, t14, t15, t16, t17, t18, t19, t20, t21, t22, t23, t24, t25, t26, t27, t28, t29, t30, t31, t32, t33, t34, t35] [uni, pow, mxl M] (sees [0, 1, 6]) =
    bif decide (a < (s.size : Int)) then ix s a (bif decide (byteN s a ≥ 48) then ix s a (bif decide (byteN s a ≤ 57) then ix s a (some (.normal, 36, [.string s, .int .i64 (w (a + 1)), .int .i64 (mn (w (w (10 * n) + w (w8 (byteN s a - 48)))) 2147483648)], [uni, pow, mxl M])) else some (.exit 0, 36, [.string s, .int .i64 a, .int .i64 n], [uni, pow, mxl M])) else some (.exit 0, 36, [.string s, .int .i64 a, .int .i64 n], [uni, pow, mxl M])) else some (.exit 0, 36, [.string s, .int .i64 a, .int .i64 n], [uni, pow, mxl M]) := by kernel_rfl
theorem tailNm (M : Int) (s : ByteArray) (a n : Int) (t2 t3 t4 t5 t7 t8 t9 t10 t11 t12 t13 t14 t15 t16 t17 t18 t19 t20 t21 t22 t23 t24 t25 t26 t27 t28 t29 t30 t31 t32 t33 t34 t35 : Value) : evP Tryd.prog (orcL []) (Sg1 M) 3 (fun _ => 1000) 0 [qNm 3, qNm 4] [.string s, .int .i64 a, t2, t3, t4, t5, .int .i64 n, t7, t8, t9, t10, t11, t12, t13, t14, t15, t16, t17, t18, t19, t20, t21, t22, t23, t24, t25, t26, t27, t28, t29, t30, t31, t32, t33, t34, t35] [uni, pow, mxl M] (outs Tryd.prog 59) = some (.tuple #[.int .i64 n, .int .i64 a], [uni, pow, mxl M]) := by kernel_rfl
/-- Digits from a place on, and where they end. -/
def nmN (s : ByteArray) (a : Int) : Int := digN GS 0 (s.data.toList.drop a.toNat)
def nmTo (s : ByteArray) (a : Int) : Int := a + (((s.data.toList.drop a.toNat).length - (digR (s.data.toList.drop a.toNat)).length : Nat) : Int)
def nmOk (s : ByteArray) (a : Int) : Bool := Nat.ble s.size 1000000 && decide (0 ≤ a) && decide (a ≤ 2000000)
def nmV (s : ByteArray) (a : Int) : Value := .tuple #[.int .i64 (nmN s a), .int .i64 (nmTo s a)]
theorem byteN_at {s : ByteArray} {p : Nat} (h : p < s.size) : ∃ b : UInt8, s.data.toList.drop p = b :: s.data.toList.drop (p + 1) ∧ byteN s (p : Int) = (b.toNat : Int) := by
  have hl : p < s.data.toList.length := by rw [Array.length_toList]; exact h
  refine ⟨s.data.toList[p], List.drop_eq_getElem_cons hl, ?_⟩
  unfold byteN
  rw [Int.toNat_natCast, List.getElem?_eq_getElem hl]; rfl
theorem ix_at {α : Type} {s : ByteArray} {p : Nat} (h : p < s.size) (k : Option α) : ix s (p : Int) k = k := by
  unfold ix
  rw [decide_eq_true (show (0 : Int) ≤ p by omega), decide_eq_true (show (p : Int) < (s.size : Int) by omega)]; rfl
theorem loopNm (M : Int) (s : ByteArray) (hs : s.size ≤ 1000000) (p0 : Nat) (hp0 : p0 ≤ 2000000) (T : List Value) (hT : T.length = 36) (hp : picks T [0, 1, 6] = [.string s, .int .i64 (p0 : Int), .int .i64 0]) :
    WpW Tryd.prog (Sg1 M) 3 3 (.loop BNm) T [uni, pow, mxl M] fun x T' S' => x = .exit 0 ∧ T'.length = 36 ∧ picks T' [0, 1, 6] = [.string s, .int .i64 (nmTo s p0), .int .i64 (nmN s p0)] ∧ S' = [uni, pow, mxl M] := by
  refine WpW.loop (fun m T S => ∃ (p : Nat) (n : Int), T.length = 36 ∧ picks T [0, 1, 6] = [.string s, .int .i64 (p : Int), .int .i64 n] ∧ S = [uni, pow, mxl M] ∧ m = s.size - p ∧ p0 ≤ p ∧ p ≤ 2000001 ∧ 0 ≤ n ∧ n ≤ GS ∧
    digN GS n (s.data.toList.drop p) = nmN s p0 ∧ digR (s.data.toList.drop p) = digR (s.data.toList.drop p0) ∧ (p - p0) + (s.data.toList.drop p).length = (s.data.toList.drop p0).length) ?_ (s.size - p0) T _
    ⟨p0, 0, hT, hp, rfl, rfl, Nat.le_refl _, by omega, by decide, by decide, by unfold nmN; rw [Int.toNat_natCast], rfl, by omega⟩
  rintro m T S ⟨p, n, hT, hp, rfl, rfl, g1, g2, h2, h3, h4, h5, h6⟩
  have hp : [nthD T 0, nthD T 1, nthD T 6] = _ := hp
  injection hp with h0 hp
  injection hp with h1 hp
  injection hp with h6 hp
  have eT : T = [.string s, .int .i64 (p : Int), nthD T 2, nthD T 3, nthD T 4, nthD T 5, .int .i64 n, nthD T 7, nthD T 8, nthD T 9, nthD T 10, nthD T 11, nthD T 12, nthD T 13, nthD T 14, nthD T 15, nthD T 16, nthD T 17, nthD T 18, nthD T 19, nthD T 20, nthD T 21, nthD T 22, nthD T 23, nthD T 24, nthD T 25, nthD T 26, nthD T 27, nthD T 28, nthD T 29, nthD T 30, nthD T 31, nthD T 32, nthD T 33, nthD T 34, nthD T 35] := (spread hT).trans (by
    show [nthD T 0, nthD T 1, nthD T 2, nthD T 3, nthD T 4, nthD T 5, nthD T 6, nthD T 7, nthD T 8, nthD T 9, nthD T 10, nthD T 11, nthD T 12, nthD T 13, nthD T 14, nthD T 15, nthD T 16, nthD T 17, nthD T 18, nthD T 19, nthD T 20, nthD T 21, nthD T 22, nthD T 23, nthD T 24, nthD T 25, nthD T 26, nthD T 27, nthD T 28, nthD T 29, nthD T 30, nthD T 31, nthD T 32, nthD T 33, nthD T 34, nthD T 35] = _
    rw [h0, h1, h6])
  rw [eT]
  have hR := roundNm M s (p : Int) n (nthD T 2) (nthD T 3) (nthD T 4) (nthD T 5) (nthD T 7) (nthD T 8) (nthD T 9) (nthD T 10) (nthD T 11) (nthD T 12) (nthD T 13) (nthD T 14) (nthD T 15) (nthD T 16) (nthD T 17) (nthD T 18) (nthD T 19) (nthD T 20) (nthD T 21) (nthD T 22) (nthD T 23) (nthD T 24) (nthD T 25) (nthD T 26) (nthD T 27) (nthD T 28) (nthD T 29) (nthD T 30) (nthD T 31) (nthD T 32) (nthD T 33) (nthD T 34) (nthD T 35)
  have stop : digR (s.data.toList.drop p) = s.data.toList.drop p → digN GS n (s.data.toList.drop p) = n → evCodeK Tryd.prog (orcL []) (Sg1 M) 1060 3 BNm [.string s, .int .i64 (p : Int), nthD T 2, nthD T 3, nthD T 4, nthD T 5, .int .i64 n, nthD T 7, nthD T 8, nthD T 9, nthD T 10, nthD T 11, nthD T 12, nthD T 13, nthD T 14, nthD T 15, nthD T 16, nthD T 17, nthD T 18, nthD T 19, nthD T 20, nthD T 21, nthD T 22, nthD T 23, nthD T 24, nthD T 25, nthD T 26, nthD T 27, nthD T 28, nthD T 29, nthD T 30, nthD T 31, nthD T 32, nthD T 33, nthD T 34, nthD T 35] [uni, pow, mxl M] (sees [0, 1, 6]) = some (.exit 0, 36, [.string s, .int .i64 (p : Int), .int .i64 n], [uni, pow, mxl M]) →
      WpW Tryd.prog (Sg1 M) 3 3 BNm [.string s, .int .i64 (p : Int), nthD T 2, nthD T 3, nthD T 4, nthD T 5, .int .i64 n, nthD T 7, nthD T 8, nthD T 9, nthD T 10, nthD T 11, nthD T 12, nthD T 13, nthD T 14, nthD T 15, nthD T 16, nthD T 17, nthD T 18, nthD T 19, nthD T 20, nthD T 21, nthD T 22, nthD T 23, nthD T 24, nthD T 25, nthD T 26, nthD T 27, nthD T 28, nthD T 29, nthD T 30, nthD T 31, nthD T 32, nthD T 33, nthD T 34, nthD T 35] [uni, pow, mxl M] fun x T' S' => x = .exit 0 ∧ T'.length = 36 ∧ picks T' [0, 1, 6] = [.string s, .int .i64 (nmTo s p0), .int .i64 (nmN s p0)] ∧ S' = [uni, pow, mxl M] := by
    intro e1 e2 e3
    refine WpW.see (sg1 M) (orcOk_of (nil_ok (M := M))) (Nat.le_refl _) e3 fun T' hT' hp' => ⟨rfl, hT', ?_, rfl⟩
    rw [hp', ← h4, e2]
    have : nmTo s (p0 : Int) = (p : Int) := by
      unfold nmTo
      rw [Int.toNat_natCast, ← h5, e1]; omega
    rw [this]
  have fin : ∀ {R : Ex → List Value → List Blk → Prop}, WpW Tryd.prog (Sg1 M) 3 3 BNm [.string s, .int .i64 (p : Int), nthD T 2, nthD T 3, nthD T 4, nthD T 5, .int .i64 n, nthD T 7, nthD T 8, nthD T 9, nthD T 10, nthD T 11, nthD T 12, nthD T 13, nthD T 14, nthD T 15, nthD T 16, nthD T 17, nthD T 18, nthD T 19, nthD T 20, nthD T 21, nthD T 22, nthD T 23, nthD T 24, nthD T 25, nthD T 26, nthD T 27, nthD T 28, nthD T 29, nthD T 30, nthD T 31, nthD T 32, nthD T 33, nthD T 34, nthD T 35] [uni, pow, mxl M] (fun x T' S' => x = .exit 0 ∧ T'.length = 36 ∧ picks T' [0, 1, 6] = [.string s, .int .i64 (nmTo s p0), .int .i64 (nmN s p0)] ∧ S' = [uni, pow, mxl M]) → (∀ T' S', (T'.length = 36 ∧ picks T' [0, 1, 6] = [.string s, .int .i64 (nmTo s p0), .int .i64 (nmN s p0)] ∧ S' = [uni, pow, mxl M]) → R (.exit 0) T' S') → WpW Tryd.prog (Sg1 M) 3 3 BNm [.string s, .int .i64 (p : Int), nthD T 2, nthD T 3, nthD T 4, nthD T 5, .int .i64 n, nthD T 7, nthD T 8, nthD T 9, nthD T 10, nthD T 11, nthD T 12, nthD T 13, nthD T 14, nthD T 15, nthD T 16, nthD T 17, nthD T 18, nthD T 19, nthD T 20, nthD T 21, nthD T 22, nthD T 23, nthD T 24, nthD T 25, nthD T 26, nthD T 27, nthD T 28, nthD T 29, nthD T 30, nthD T 31, nthD T 32, nthD T 33, nthD T 34, nthD T 35] [uni, pow, mxl M] R :=
    fun hw hq => hw.mono fun x T' S' ⟨hx, h⟩ => by subst hx; exact hq T' S' h
  by_cases hlt : p < s.size
  · obtain ⟨b, hd, hb⟩ := byteN_at hlt
    rw [decide_eq_true (show (p : Int) < (s.size : Int) by omega), ix_at hlt, ix_at hlt, ix_at hlt, hb] at hR
    have hdg : dgB b = (decide ((b.toNat : Int) ≥ 48) && decide ((b.toNat : Int) ≤ 57)) := by
      rw [Bool.eq_iff_iff]
      simp only [dgB, Bool.and_eq_true, decide_eq_true_eq, Nat.ble_eq]; omega
    cases hg : dgB b with
    | true =>
      rw [hg, eq_comm, Bool.and_eq_true] at hdg
      rw [hdg.1, hdg.2] at hR
      simp only [decide_eq_true_eq] at hdg
      have hdn : digN GS n (s.data.toList.drop p) = digN GS (mn (10 * n + ((b.toNat : Int) - 48)) GS) (s.data.toList.drop (p + 1)) := by rw [hd]; simp only [digN, hg, cond_true]
      have hdr : digR (s.data.toList.drop p) = digR (s.data.toList.drop (p + 1)) := by rw [hd]; simp only [digR, hg, cond_true]
      have hln : (s.data.toList.drop p).length = (s.data.toList.drop (p + 1)).length + 1 := by rw [hd]; rfl
      have e1 : w (w (10 * n) + w (w8 ((b.toNat : Int) - 48))) = 10 * n + ((b.toNat : Int) - 48) := by
        unfold GS at h3
        have : w8 ((b.toNat : Int) - 48) = (b.toNat : Int) - 48 := by
          unfold w8 IntKind.wrap; simp [IntKind.bits, IntKind.signed]; omega
        rw [this, w_eq ((b.toNat : Int) - 48) (by omega) (by omega), w_eq (10 * n) (by omega) (by omega), w_eq _ (by omega) (by omega)]
      have e2 : w ((p : Int) + 1) = ((p + 1 : Nat) : Int) := by rw [w_eq _ (by omega) (by omega)]; omega
      rw [e1, e2] at hR
      refine WpW.see (sg1 M) (orcOk_of (nil_ok (M := M))) (Nat.le_refl _) hR fun T' hT' hp' => ?_
      refine ⟨s.size - (p + 1), by omega, p + 1, _, hT', hp', rfl, rfl, by omega, by omega, ?_, ?_, ?_, ?_, by omega⟩
      · unfold mn; split <;> omega
      · unfold mn GS; split <;> omega
      · rw [← h4, hdn]; rfl
      · rw [← h5, hdr]
    | false =>
      have hdn : digN GS n (s.data.toList.drop p) = n := by rw [hd]; simp only [digN, hg, cond_false]
      have hdr : digR (s.data.toList.drop p) = s.data.toList.drop p := by rw [hd]; simp only [digR, hg, cond_false]
      refine fin (stop hdr hdn ?_) fun T' S' h => ⟨rfl, h⟩
      rw [hR]
      rw [hg] at hdg
      cases ha : decide ((b.toNat : Int) ≥ 48) with
      | false => rfl
      | true =>
        rw [ha, Bool.true_and] at hdg
        rw [← hdg]; rfl
  · have hdr : s.data.toList.drop p = [] := List.drop_eq_nil_of_le (by rw [Array.length_toList]; exact Nat.le_of_not_lt hlt)
    rw [decide_eq_false (show ¬ (p : Int) < (s.size : Int) by omega)] at hR
    exact fin (stop (by rw [hdr]; rfl) (by rw [hdr]; rfl) hR) fun T' S' h => ⟨rfl, h⟩
theorem wNm (M : Int) (s : ByteArray) (hs : s.size ≤ 1000000) (p0 : Nat) (hp0 : p0 ≤ 2000000) : WpW Tryd.prog (Sg1 M) 3 3 (bodyOf Tryd.prog 59) (tmps0Of Tryd.prog 59 [.string s, .int .i64 (p0 : Int)]) (Sg1 M) fun x T' U => (match x with | .exit _ => False | _ => True) ∧ (∃ N, U = Sg1 M ++ N) ∧ outOf Tryd.prog 59 T' U = some (nmV s p0) := by
  rw [tmpsNm]
  refine WpW.of_pieces ?_
  rw [show flatC (bodyOf Tryd.prog 59) = _ from LNm_eq]
  refine WpL.see (l := [_, _]) (m := [_, _, _]) (sg1 M) (orcOk_of (nil_ok (M := M))) (Nat.le_refl _) (headNm M s p0) fun T hT hp => ?_
  refine WpL.step (WpW.block ((loopNm M s hs p0 hp0 T hT hp).mono ?_))
  rintro x T S ⟨rfl, hT, hp, rfl⟩
  have hp : [nthD T 0, nthD T 1, nthD T 6] = _ := hp
  injection hp with h0 hp
  injection hp with h1 hp
  injection hp with h6 hp
  have eT : T = [.string s, .int .i64 (nmTo s p0), nthD T 2, nthD T 3, nthD T 4, nthD T 5, .int .i64 (nmN s p0), nthD T 7, nthD T 8, nthD T 9, nthD T 10, nthD T 11, nthD T 12, nthD T 13, nthD T 14, nthD T 15, nthD T 16, nthD T 17, nthD T 18, nthD T 19, nthD T 20, nthD T 21, nthD T 22, nthD T 23, nthD T 24, nthD T 25, nthD T 26, nthD T 27, nthD T 28, nthD T 29, nthD T 30, nthD T 31, nthD T 32, nthD T 33, nthD T 34, nthD T 35] := (spread hT).trans (by
    show [nthD T 0, nthD T 1, nthD T 2, nthD T 3, nthD T 4, nthD T 5, nthD T 6, nthD T 7, nthD T 8, nthD T 9, nthD T 10, nthD T 11, nthD T 12, nthD T 13, nthD T 14, nthD T 15, nthD T 16, nthD T 17, nthD T 18, nthD T 19, nthD T 20, nthD T 21, nthD T 22, nthD T 23, nthD T 24, nthD T 25, nthD T 26, nthD T 27, nthD T 28, nthD T 29, nthD T 30, nthD T 31, nthD T 32, nthD T 33, nthD T 34, nthD T 35] = _
    rw [h0, h1, h6])
  rw [eT]
  refine WpL.mono (WpL.of_k (sg1 M) (orcOk_of (nil_ok (M := M))) (Nat.le_refl _) _ _ _ _ (tailNm M s (nmTo s p0) (nmN s p0) (nthD T 2) (nthD T 3) (nthD T 4) (nthD T 5) (nthD T 7) (nthD T 8) (nthD T 9) (nthD T 10) (nthD T 11) (nthD T 12) (nthD T 13) (nthD T 14) (nthD T 15) (nthD T 16) (nthD T 17) (nthD T 18) (nthD T 19) (nthD T 20) (nthD T 21) (nthD T 22) (nthD T 23) (nthD T 24) (nthD T 25) (nthD T 26) (nthD T 27) (nthD T 28) (nthD T 29) (nthD T 30) (nthD T 31) (nthD T 32) (nthD T 33) (nthD T 34) (nthD T 35))) ?_
  intro x T' U hk
  obtain ⟨h1, rfl, h2⟩ := outs_eq hk
  cases x with
  | normal => exact ⟨h1, ⟨[], rfl⟩, h2⟩
  | ret => exact ⟨h1, ⟨[], rfl⟩, h2⟩
  | exit id => exact h1.elim
def cNmb : Con := ⟨59, fun args => match args with
  | [.string s, .int .i64 a] => some (.ite (nmOk s a) (.val (nmV s a)) .no)
  | _ => none⟩
theorem cNmb_ok (M : Int) : ConOk M cNmb := by
  intro args t v h hv w inv
  simp only [cNmb] at h
  split at h
  · rename_i s a
    cases h
    obtain ⟨h1, rfl⟩ := OT.pre hv
    simp only [nmOk, Bool.and_eq_true, decide_eq_true_eq] at h1
    obtain ⟨⟨h1, h2⟩, h3⟩ := h1
    have ha : a = ((a.toNat : Nat) : Int) := by omega
    rw [ha]
    exact calls_of_W (sg1 M) (by rw [show (Tryd.prog.funcs[59]?).bind (·.body) = some (bodyOf Tryd.prog 59) from by kernel_rfl]; simp) rfl rfl rfl (wNm M s (Nat.le_of_ble_eq_true h1) a.toNat (by omega)) inv
  · cases h
end Go.Proofs.YtihccnfaibiiiaaDoor.R
