/- Ring: the program's readers of texts: digits (made by mkrd.py). -/
import Derived.Test.YtihccnfaibiiiaaDoorW7
import Derived.Test.YtihccnfaibiiiaaDoorU2
import Derived.Laws.RangeAny
import Derived.Laws.RangeString
namespace Go.Proofs.YtihccnfaibiiiaaDoor.R
open Go Go.Proofs.XX.Vm Go.Proofs.XX.Rm Go.RowKit
set_option maxRecDepth 100000

noncomputable abbrev qRd (i : Nat) : Code := nthC (scp Tryd.prog 100 1) i
noncomputable abbrev BRd : Code := loopOf Tryd.prog 100 0
theorem LRd_eq : pcs Tryd.prog 100 = [nthC (pcs Tryd.prog 100) 0, nthC (pcs Tryd.prog 100) 1] := by kernel_rfl
theorem sRd_eq : scp Tryd.prog 100 1 = [qRd 0, qRd 1, qRd 2, .block 0 (.loop BRd), qRd 4, qRd 5] := by kernel_rfl
def w32 (n : Int) : Int := IntKind.i32.wrap n
theorem tmpsRd (s : ByteArray) : tmps0Of Tryd.prog 100 [.string s] = .string s :: List.replicate 33 undef := by kernel_rfl
theorem headRd0 (M : Int) (s : ByteArray) : evP Tryd.prog (orcL LS) (Sg1 M) 3 (fun _ => 1000) 0 [nthC (pcs Tryd.prog 100) 0] (.string s :: List.replicate 33 undef) [uni, pow, mxl M] (sees [0, 2]) = some (.normal, 34, [.string s, .int .i64 0], [uni, pow, mxl M]) := by kernel_rfl
theorem headRd1 (M : Int) (s : ByteArray) (t1 t3 t4 t5 t6 t7 t8 t9 t10 t11 t12 t13 t14 t15 t16 t17 t18 t19 t20 t21 t22 t23 t24 t25 t26 t27 t28 t29 t30 t31 t32 t33 : Value) : evP Tryd.prog (orcL LS) (Sg1 M) 3 (fun _ => 1000) 0 [qRd 0, qRd 1, qRd 2] [.string s, t1, .int .i64 0, t3, t4, t5, t6, t7, t8, t9, t10, t11, t12, t13, t14, t15, t16, t17, t18, t19, t20, t21, t22, t23, t24, t25, t26, t27, t28, t29, t30, t31, t32, t33] [uni, pow, mxl M] (sees [0, 2, 4, 10]) = some (.normal, 34, [.string s, .int .i64 0, .int .i64 (s.size : Int), .pointer (some ⟨3, 0, none⟩)], [uni, pow, mxl M, iterBlk s 0]) := by kernel_rfl
theorem roundRd (M : Int) (s : ByteArray) (pos : Nat) (n e : Int) (t1 t3 t5 t6 t7 t8 t9 t11 t12 t13 t14 t15 t16 t17 t18 t19 t20 t21 t22 t23 t24 t25 t26 t27 t28 t29 t30 t31 t32 t33 : Value) : evCodeK Tryd.prog (orcL LS) (Sg1 M) 1060 3 BRd [.string s, t1, .int .i64 n, t3, .int .i64 e, t5, t6, t7, t8, t9, .pointer (some ⟨3, 0, none⟩), t11, t12, t13, t14, t15, t16, t17, t18, t19, t20, t21, t22, t23, t24, t25, t26, t27, t28, t29, t30, t31, t32, t33] [uni, pow, mxl M, iterBlk s pos] (sees [0, 2, 4, 10]) =
    bif Nat.blt pos s.size then (bif decide (48 ≤ ((Utf8.decode s pos).1 : Int)) then (bif decide (((Utf8.decode s pos).1 : Int) ≤ 57) then some (.normal, 34, [.string s, .int .i64 (mn (w (w (10 * n) + w (w32 (((Utf8.decode s pos).1 : Int) - 48)))) 1073741825), .int .i64 e, .pointer (some ⟨3, 0, none⟩)], [uni, pow, mxl M, iterBlk s (pos + (Utf8.decode s pos).2)])
        else some (.exit 0, 34, [.string s, .int .i64 n, .int .i64 (pos : Int), .pointer (some ⟨3, 0, none⟩)], [uni, pow, mxl M, iterBlk s (pos + (Utf8.decode s pos).2)]))
      else some (.exit 0, 34, [.string s, .int .i64 n, .int .i64 (pos : Int), .pointer (some ⟨3, 0, none⟩)], [uni, pow, mxl M, iterBlk s (pos + (Utf8.decode s pos).2)]))
    else some (.exit 0, 34, [.string s, .int .i64 n, .int .i64 e, .pointer (some ⟨3, 0, none⟩)], [uni, pow, mxl M, iterBlk s pos]) := by kernel_rfl
theorem tailRd (M : Int) (s : ByteArray) (p : Nat) (n e : Int) (t1 t3 t5 t6 t7 t8 t9 t10 t11 t12 t13 t14 t15 t16 t17 t18 t19 t20 t21 t22 t23 t24 t25 t26 t27 t28 t29 t30 t31 t32 t33 : Value) : evP Tryd.prog (orcL LS) (Sg1 M) 3 (fun _ => 1000) 0 [qRd 4, qRd 5] [.string s, t1, .int .i64 n, t3, .int .i64 e, t5, t6, t7, t8, t9, t10, t11, t12, t13, t14, t15, t16, t17, t18, t19, t20, t21, t22, t23, t24, t25, t26, t27, t28, t29, t30, t31, t32, t33] [uni, pow, mxl M, iterBlk s p] (outs Tryd.prog 100) =
    bif decide (0 ≤ e) && true && Nat.ble e.toNat s.size && Nat.ble s.size s.size then some (.tuple #[.int .i64 n, .string (s.extract e.toNat s.size)], [uni, pow, mxl M, iterBlk s p]) else none := by kernel_rfl

theorem ext_drop (s : ByteArray) (e : Nat) : s.extract e s.size = ⟨(s.data.toList.drop e).toArray⟩ := by
  rw [Lib.extract_eq, List.take_of_length_le (by rw [List.length_drop, Array.length_toList]; exact Nat.le_refl _)]
theorem ext_take (s : ByteArray) (i j : Nat) : s.extract i j = ⟨((s.data.toList.take j).drop i).toArray⟩ := by
  rw [Lib.extract_eq, List.drop_take]
/-- A character at a place is a digit just if the byte is. -/
theorem char_at {s : ByteArray} {pos : Nat} (h : pos < s.size) : ∃ b, s.data.toList.drop pos = b :: s.data.toList.drop (pos + 1) ∧
    (dgB b = true → (Utf8.decode s pos) = (b.toNat, 1)) ∧ (dgB b = (decide (48 ≤ ((Utf8.decode s pos).1 : Int)) && decide (((Utf8.decode s pos).1 : Int) ≤ 57))) := by
  have hl : pos < s.data.toList.length := by rw [Array.length_toList]; exact h
  refine ⟨s.data.toList[pos], List.drop_eq_getElem_cons hl, ?_, ?_⟩
  · intro hd
    simp only [dgB, Bool.and_eq_true] at hd
    have h2 := Nat.le_of_ble_eq_true hd.2
    exact decode_ascii s pos h (by show (s.data.toList[pos]).toNat < 128; omega)
  · by_cases ha : (s.data.toList[pos]).toNat < 128
    · have e : Utf8.decode s pos = ((s.data.toList[pos]).toNat, 1) := decode_ascii s pos h ha
      rw [e, Bool.eq_iff_iff]
      simp only [dgB, Bool.and_eq_true, decide_eq_true_eq, Nat.ble_eq]
      omega
    · have e := (decode_high s pos h (by show 128 ≤ (s.data.toList[pos]).toNat; omega)).1
      rw [Bool.eq_iff_iff]
      simp only [dgB, Bool.and_eq_true, decide_eq_true_eq, Nat.ble_eq]
      omega
theorem loopRd (M : Int) (s : ByteArray) (T : List Value) (hT : T.length = 34) (hp : picks T [0, 2, 4, 10] = [.string s, .int .i64 0, .int .i64 (s.size : Int), .pointer (some ⟨3, 0, none⟩)]) :
    WpW Tryd.prog (Sg1 M) 3 3 (.loop BRd) T [uni, pow, mxl M, iterBlk s 0] fun x T' S' => x = .exit 0 ∧ T'.length = 34 ∧ ∃ e p : Nat, picks T' [0, 2, 4, 10] = [.string s, .int .i64 (digN GD 0 s.data.toList), .int .i64 (e : Int), .pointer (some ⟨3, 0, none⟩)] ∧ S' = [uni, pow, mxl M, iterBlk s p] ∧ e ≤ s.size ∧ s.data.toList.drop e = digR s.data.toList := by
  refine WpW.loop (fun m T S => ∃ (pos : Nat) (n : Int), T.length = 34 ∧ picks T [0, 2, 4, 10] = [.string s, .int .i64 n, .int .i64 (s.size : Int), .pointer (some ⟨3, 0, none⟩)] ∧ S = [uni, pow, mxl M, iterBlk s pos] ∧ pos ≤ s.size ∧ m = s.size - pos ∧ 0 ≤ n ∧ n ≤ GD ∧
    digN GD n (s.data.toList.drop pos) = digN GD 0 s.data.toList ∧ digR (s.data.toList.drop pos) = digR s.data.toList) ?_ s.size T _ ⟨0, 0, hT, hp, rfl, Nat.zero_le _, rfl, by decide, by decide, rfl, rfl⟩
  rintro m T S ⟨pos, n, hT, hp, rfl, h1, rfl, h2, h3, h4, h5⟩
  match T, hT, hp with
  | t0 :: t1 :: t2 :: t3 :: t4 :: t5 :: t6 :: t7 :: t8 :: t9 :: t10 :: t11 :: t12 :: t13 :: t14 :: t15 :: t16 :: t17 :: t18 :: t19 :: t20 :: t21 :: t22 :: t23 :: t24 :: t25 :: t26 :: t27 :: t28 :: t29 :: t30 :: t31 :: t32 :: t33 :: [], _, hp =>
  have hp : [t0, t2, t4, t10] = _ := hp
  cases hp
  have hR := roundRd M s pos n (s.size : Int) t1 t3 t5 t6 t7 t8 t9 t11 t12 t13 t14 t15 t16 t17 t18 t19 t20 t21 t22 t23 t24 t25 t26 t27 t28 t29 t30 t31 t32 t33
  by_cases hlt : pos < s.size
  · obtain ⟨b, hd, hb1, hb2⟩ := char_at hlt
    rw [show Nat.blt pos s.size = true from Nat.ble_eq_true_of_le hlt] at hR
    cases hg : dgB b with
    | true =>
      have hdec := hb1 hg
      rw [hg, eq_comm, Bool.and_eq_true] at hb2
      rw [hb2.1, hb2.2] at hR
      refine WpW.see (sg1 M) (orcOk_of (LS_ok M)) (Nat.le_refl _) hR fun T' hT' hp' => ?_
      simp only [decide_eq_true_eq] at hb2
      have hdn : digN GD n (s.data.toList.drop pos) = digN GD (mn (10 * n + ((b.toNat : Int) - 48)) GD) (s.data.toList.drop (pos + 1)) := by rw [hd]; simp only [digN, hg, cond_true]
      have hdr : digR (s.data.toList.drop pos) = digR (s.data.toList.drop (pos + 1)) := by rw [hd]; simp only [digR, hg, cond_true]
      rw [hdec] at hb2 hp' ⊢
      simp only at hb2
      have e1 : w (w (10 * n) + w (w32 ((b.toNat : Int) - 48))) = 10 * n + ((b.toNat : Int) - 48) := by
        unfold GD at h3
        have : w32 ((b.toNat : Int) - 48) = (b.toNat : Int) - 48 := by
          unfold w32 IntKind.wrap; simp [IntKind.bits, IntKind.signed]; omega
        rw [this, w_eq ((b.toNat : Int) - 48) (by omega) (by omega), w_eq (10 * n) (by omega) (by omega), w_eq _ (by omega) (by omega)]
      rw [e1] at hp'
      refine ⟨s.size - (pos + 1), by omega, pos + 1, _, hT', hp', rfl, by omega, rfl, ?_, ?_, ?_, ?_⟩
      · unfold mn; split <;> omega
      · unfold mn GD; split <;> omega
      · rw [← h4, hdn]; rfl
      · rw [← h5, hdr]
    | false =>
      rw [hg] at hb2
      have hdn : digN GD n (s.data.toList.drop pos) = n := by rw [hd]; simp only [digN, hg, cond_false]
      have hdr : digR (s.data.toList.drop pos) = s.data.toList.drop pos := by rw [hd]; simp only [digR, hg, cond_false]
      have hx : evCodeK Tryd.prog (orcL LS) (Sg1 M) 1060 3 BRd [.string s, t1, .int .i64 n, t3, .int .i64 (s.size : Int), t5, t6, t7, t8, t9, .pointer (some ⟨3, 0, none⟩), t11, t12, t13, t14, t15, t16, t17, t18, t19, t20, t21, t22, t23, t24, t25, t26, t27, t28, t29, t30, t31, t32, t33] [uni, pow, mxl M, iterBlk s pos] (sees [0, 2, 4, 10]) = some (.exit 0, 34, [.string s, .int .i64 n, .int .i64 (pos : Int), .pointer (some ⟨3, 0, none⟩)], [uni, pow, mxl M, iterBlk s (pos + (Utf8.decode s pos).2)]) := by
        rw [hR]
        cases ha : decide (48 ≤ ((Utf8.decode s pos).1 : Int)) with
        | false => rfl
        | true =>
          rw [ha, Bool.true_and] at hb2
          rw [← hb2]; rfl
      refine WpW.see (sg1 M) (orcOk_of (LS_ok M)) (Nat.le_refl _) hx fun T' hT' hp' => ?_
      exact ⟨rfl, hT', pos, _, by rw [hp', ← h4, hdn], rfl, h1, by rw [← hdr, h5]⟩
  · have hdr : s.data.toList.drop pos = [] := List.drop_eq_nil_of_le (by rw [Array.length_toList]; exact Nat.le_of_not_lt hlt)
    rw [show Nat.blt pos s.size = false from by rw [Bool.eq_false_iff]; intro e; exact hlt (Nat.le_of_ble_eq_true e)] at hR
    refine WpW.see (sg1 M) (orcOk_of (LS_ok M)) (Nat.le_refl _) hR fun T' hT' hp' => ?_
    rw [hdr] at h4 h5
    refine ⟨rfl, hT', s.size, pos, by rw [hp', ← h4]; rfl, rfl, Nat.le_refl _, ?_⟩
    rw [← h5]
    exact List.drop_eq_nil_of_le (by rw [Array.length_toList]; exact Nat.le_refl _)
/-- Digits at the beginning of a text. -/
def digV (s : ByteArray) : Value := .tuple #[.int .i64 (digN GD 0 s.data.toList), .string ⟨(digR s.data.toList).toArray⟩]
theorem wRd (M : Int) (s : ByteArray) : WpW Tryd.prog (Sg1 M) 3 3 (bodyOf Tryd.prog 100) (tmps0Of Tryd.prog 100 [.string s]) (Sg1 M) fun x T' U => (match x with | .exit _ => False | _ => True) ∧ (∃ N, U = Sg1 M ++ N) ∧ outOf Tryd.prog 100 T' U = some (digV s) := by
  rw [tmpsRd]
  refine WpW.of_pieces ?_
  rw [show flatC (bodyOf Tryd.prog 100) = _ from LRd_eq]
  refine WpL.see (l := [_]) (m := [_]) (sg1 M) (orcOk_of (LS_ok M)) (Nat.le_refl _) (headRd0 M s) fun T hT hp => ?_
  match T, hT, hp with
  | t0 :: t1 :: t2 :: t3 :: t4 :: t5 :: t6 :: t7 :: t8 :: t9 :: t10 :: t11 :: t12 :: t13 :: t14 :: t15 :: t16 :: t17 :: t18 :: t19 :: t20 :: t21 :: t22 :: t23 :: t24 :: t25 :: t26 :: t27 :: t28 :: t29 :: t30 :: t31 :: t32 :: t33 :: [], _, hp =>
  have hp : [t0, t2] = _ := hp
  cases hp
  refine WpL.step (WpW.of_unS (WpW.of_pieces ?_))
  rw [show flatC (unS (nthC (pcs Tryd.prog 100) 1)) = _ from sRd_eq]
  refine WpL.see (l := [_, _, _]) (m := [_, _, _]) (sg1 M) (orcOk_of (LS_ok M)) (Nat.le_refl _) (headRd1 M s t1 t3 t4 t5 t6 t7 t8 t9 t10 t11 t12 t13 t14 t15 t16 t17 t18 t19 t20 t21 t22 t23 t24 t25 t26 t27 t28 t29 t30 t31 t32 t33) fun T hT hp => ?_
  refine WpL.step (WpW.block ((loopRd M s T hT hp).mono ?_))
  rintro x T S ⟨rfl, hT, e, p, hp, rfl, he, hdr⟩
  match T, hT, hp with
  | t0 :: t1 :: t2 :: t3 :: t4 :: t5 :: t6 :: t7 :: t8 :: t9 :: t10 :: t11 :: t12 :: t13 :: t14 :: t15 :: t16 :: t17 :: t18 :: t19 :: t20 :: t21 :: t22 :: t23 :: t24 :: t25 :: t26 :: t27 :: t28 :: t29 :: t30 :: t31 :: t32 :: t33 :: [], _, hp =>
  have hp : [t0, t2, t4, t10] = _ := hp
  cases hp
  have ht := tailRd M s p (digN GD 0 s.data.toList) (e : Int) t1 t3 t5 t6 t7 t8 t9 (.pointer (some ⟨3, 0, none⟩)) t11 t12 t13 t14 t15 t16 t17 t18 t19 t20 t21 t22 t23 t24 t25 t26 t27 t28 t29 t30 t31 t32 t33
  rw [condT (by rw [decide_eq_true (show (0 : Int) ≤ e by omega), Int.toNat_natCast, Nat.ble_eq_true_of_le he, Nat.ble_eq_true_of_le (Nat.le_refl s.size)]; rfl), Int.toNat_natCast] at ht
  refine WpL.mono (WpL.of_k (sg1 M) (orcOk_of (LS_ok M)) (Nat.le_refl _) _ _ _ _ ht) ?_
  intro x T' U hk
  obtain ⟨h1, rfl, h2⟩ := outs_eq hk
  rw [ext_drop, hdr] at h2
  cases x with
  | normal => exact ⟨h1, ⟨_, rfl⟩, h2⟩
  | ret => exact ⟨h1, ⟨_, rfl⟩, h2⟩
  | exit id => exact h1.elim
def cDig : Con := ⟨100, fun args => match args with
  | [.string s] => some (.val (digV s))
  | _ => none⟩
theorem cDig_ok (M : Int) : ConOk M cDig := by
  intro args t v h hv w inv
  simp only [cDig] at h
  split at h
  · rename_i s
    cases h
    cases hv
    exact calls_of_W (sg1 M) (by rw [show (Tryd.prog.funcs[100]?).bind (·.body) = some (bodyOf Tryd.prog 100) from by kernel_rfl]; simp) rfl rfl rfl (wRd M s) inv
  · cases h
end Go.Proofs.YtihccnfaibiiiaaDoor.R
