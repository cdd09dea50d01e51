/- Ring: texts of numbers, U3, U4, U5, U6 in one. -/
import Derived.Test.YtihccnfaibiiiaaGreatDoorK12
import Derived.Test.YtihccnfaibiiiaaGreatDoorK13
import Derived.Laws.RangeAny
import Derived.Laws.RangeString
namespace Go.Proofs.YtihccnfaibiiiaaGreatDoor.R
open Go Go.Proofs.XX.Vm Go.Proofs.XX.Rm Go.RowKit
set_option maxRecDepth 100000

/- Ring: the program's readers of texts: digits (made by mkrd.py). -/

noncomputable abbrev qRd (i : Nat) : Code := nthC (scp Tryz.prog 114 1) i
noncomputable abbrev BRd : Code := loopOf Tryz.prog 114 0
theorem LRd_eq : pcs Tryz.prog 114 = [nthC (pcs Tryz.prog 114) 0, nthC (pcs Tryz.prog 114) 1] := by kernel_rfl
theorem sRd_eq : scp Tryz.prog 114 1 = [qRd 0, qRd 1, qRd 2, .block 0 (.loop BRd), qRd 4, qRd 5] := by kernel_rfl
def w32 (n : Int) : Int := IntKind.i32.wrap n
theorem tmpsRd (s : ByteArray) : tmps0Of Tryz.prog 114 [.string s] = .string s :: List.replicate 33 undef := by kernel_rfl
theorem headRd0 (M : Int) (s : ByteArray) : evP Tryz.prog (orcL LS) (Sg1 M) 3 (fun _ => 1000) 0 [nthC (pcs Tryz.prog 114) 0] (.string s :: List.replicate 33 undef) [uni, pow, mxl M] (sees [0, 2]) = some (.normal, 34, [.string s, .int .i64 0], [uni, pow, mxl M]) := by kernel_rfl
theorem headRd1 (M : Int) (s : ByteArray) (t1 t3 t4 t5 t6 t7 t8 t9 t10 t11 t12 t13 t14 t15 t16 t17 t18 t19 t20 t21 t22 t23 t24 t25 t26 t27 t28 t29 t30 t31 t32 t33 : Value) : evP Tryz.prog (orcL LS) (Sg1 M) 3 (fun _ => 1000) 0 [qRd 0, qRd 1, qRd 2] [.string s, t1, .int .i64 0, t3, t4, t5, t6, t7, t8, t9, t10, t11, t12, t13, t14, t15, t16, t17, t18, t19, t20, t21, t22, t23, t24, t25, t26, t27, t28, t29, t30, t31, t32, t33] [uni, pow, mxl M] (sees [0, 2, 4, 10]) = some (.normal, 34, [.string s, .int .i64 0, .int .i64 (s.size : Int), .pointer (some ⟨3, 0, none⟩)], [uni, pow, mxl M, iterBlk s 0]) := by kernel_rfl
theorem roundRd (M : Int) (s : ByteArray) (pos : Nat) (n e : Int) (t1 t3 t5 t6 t7 t8 t9 t11 t12 t13 t14 t15 t16 t17 t18 t19 t20 t21 t22 t23 t24 t25 t26 t27 t28 t29 t30 t31 t32 t33 : Value) : evCodeK Tryz.prog (orcL LS) (Sg1 M) 1060 3 BRd [.string s, t1, .int .i64 n, t3, .int .i64 e, t5, t6, t7, t8, t9, .pointer (some ⟨3, 0, none⟩), t11, t12, t13, t14, t15, t16, t17, t18, t19, t20, t21, t22, t23, t24, t25, t26, t27, t28, t29, t30, t31, t32, t33] [uni, pow, mxl M, iterBlk s pos] (sees [0, 2, 4, 10]) =
    bif Nat.blt pos s.size then (bif decide (48 ≤ ((Utf8.decode s pos).1 : Int)) then (bif decide (((Utf8.decode s pos).1 : Int) ≤ 57) then some (.normal, 34, [.string s, .int .i64 (mn (w (w (10 * n) + w (w32 (((Utf8.decode s pos).1 : Int) - 48)))) 1073741825), .int .i64 e, .pointer (some ⟨3, 0, none⟩)], [uni, pow, mxl M, iterBlk s (pos + (Utf8.decode s pos).2)])
        else some (.exit 0, 34, [.string s, .int .i64 n, .int .i64 (pos : Int), .pointer (some ⟨3, 0, none⟩)], [uni, pow, mxl M, iterBlk s (pos + (Utf8.decode s pos).2)]))
      else some (.exit 0, 34, [.string s, .int .i64 n, .int .i64 (pos : Int), .pointer (some ⟨3, 0, none⟩)], [uni, pow, mxl M, iterBlk s (pos + (Utf8.decode s pos).2)]))
    else some (.exit 0, 34, [.string s, .int .i64 n, .int .i64 e, .pointer (some ⟨3, 0, none⟩)], [uni, pow, mxl M, iterBlk s pos]) := by kernel_rfl
theorem tailRd (M : Int) (s : ByteArray) (p : Nat) (n e : Int) (t1 t3 t5 t6 t7 t8 t9 t10 t11 t12 t13 t14 t15 t16 t17 t18 t19 t20 t21 t22 t23 t24 t25 t26 t27 t28 t29 t30 t31 t32 t33 : Value) : evP Tryz.prog (orcL LS) (Sg1 M) 3 (fun _ => 1000) 0 [qRd 4, qRd 5] [.string s, t1, .int .i64 n, t3, .int .i64 e, t5, t6, t7, t8, t9, t10, t11, t12, t13, t14, t15, t16, t17, t18, t19, t20, t21, t22, t23, t24, t25, t26, t27, t28, t29, t30, t31, t32, t33] [uni, pow, mxl M, iterBlk s p] (outs Tryz.prog 114) =
    bif decide (0 ≤ e) && true && Nat.ble e.toNat s.size && Nat.ble s.size s.size then some (.tuple #[.int .i64 n, .string (s.extract e.toNat s.size)], [uni, pow, mxl M, iterBlk s p]) else none := by kernel_rfl

theorem ext_drop (s : ByteArray) (e : Nat) : s.extract e s.size = ⟨(s.data.toList.drop e).toArray⟩ := by
  rw [Lib.extract_eq, List.take_of_length_le (by rw [List.length_drop, Array.length_toList]; exact Nat.le_refl _)]
theorem ext_take (s : ByteArray) (i j : Nat) : s.extract i j = ⟨((s.data.toList.take j).drop i).toArray⟩ := by
  rw [Lib.extract_eq, List.drop_take]
/-- A character at a place is a digit just if the byte is. -/
theorem char_at {s : ByteArray} {pos : Nat} (h : pos < s.size) : ∃ b, s.data.toList.drop pos = b :: s.data.toList.drop (pos + 1) ∧
    (dgB b = true → (Utf8.decode s pos) = (b.toNat, 1)) ∧ (dgB b = (decide (48 ≤ ((Utf8.decode s pos).1 : Int)) && decide (((Utf8.decode s pos).1 : Int) ≤ 57))) := by
  have hl : pos < s.data.toList.length := by rw [Array.length_toList]; exact h
  refine ⟨s.data.toList[pos], List.drop_eq_getElem_cons hl, ?_, ?_⟩
  · intro hd
    simp only [dgB, Bool.and_eq_true] at hd
    have h2 := Nat.le_of_ble_eq_true hd.2
    exact decode_ascii s pos h (by show (s.data.toList[pos]).toNat < 128; omega)
  · by_cases ha : (s.data.toList[pos]).toNat < 128
    · have e : Utf8.decode s pos = ((s.data.toList[pos]).toNat, 1) := decode_ascii s pos h ha
      rw [e, Bool.eq_iff_iff]
      simp only [dgB, Bool.and_eq_true, decide_eq_true_eq, Nat.ble_eq]
      omega
    · have e := (decode_high s pos h (by show 128 ≤ (s.data.toList[pos]).toNat; omega)).1
      rw [Bool.eq_iff_iff]
      simp only [dgB, Bool.and_eq_true, decide_eq_true_eq, Nat.ble_eq]
      omega
theorem loopRd (M : Int) (s : ByteArray) (T : List Value) (hT : T.length = 34) (hp : picks T [0, 2, 4, 10] = [.string s, .int .i64 0, .int .i64 (s.size : Int), .pointer (some ⟨3, 0, none⟩)]) :
    WpW Tryz.prog (Sg1 M) 3 3 (.loop BRd) T [uni, pow, mxl M, iterBlk s 0] fun x T' S' => x = .exit 0 ∧ T'.length = 34 ∧ ∃ e p : Nat, picks T' [0, 2, 4, 10] = [.string s, .int .i64 (digN GD 0 s.data.toList), .int .i64 (e : Int), .pointer (some ⟨3, 0, none⟩)] ∧ S' = [uni, pow, mxl M, iterBlk s p] ∧ e ≤ s.size ∧ s.data.toList.drop e = digR s.data.toList := by
  refine WpW.loop (fun m T S => ∃ (pos : Nat) (n : Int), T.length = 34 ∧ picks T [0, 2, 4, 10] = [.string s, .int .i64 n, .int .i64 (s.size : Int), .pointer (some ⟨3, 0, none⟩)] ∧ S = [uni, pow, mxl M, iterBlk s pos] ∧ pos ≤ s.size ∧ m = s.size - pos ∧ 0 ≤ n ∧ n ≤ GD ∧
    digN GD n (s.data.toList.drop pos) = digN GD 0 s.data.toList ∧ digR (s.data.toList.drop pos) = digR s.data.toList) ?_ s.size T _ ⟨0, 0, hT, hp, rfl, Nat.zero_le _, rfl, by decide, by decide, rfl, rfl⟩
  rintro m T S ⟨pos, n, hT, hp, rfl, h1, rfl, h2, h3, h4, h5⟩
  match T, hT, hp with
  | t0 :: t1 :: t2 :: t3 :: t4 :: t5 :: t6 :: t7 :: t8 :: t9 :: t10 :: t11 :: t12 :: t13 :: t14 :: t15 :: t16 :: t17 :: t18 :: t19 :: t20 :: t21 :: t22 :: t23 :: t24 :: t25 :: t26 :: t27 :: t28 :: t29 :: t30 :: t31 :: t32 :: t33 :: [], _, hp =>
  have hp : [t0, t2, t4, t10] = _ := hp
  cases hp
  have hR := roundRd M s pos n (s.size : Int) t1 t3 t5 t6 t7 t8 t9 t11 t12 t13 t14 t15 t16 t17 t18 t19 t20 t21 t22 t23 t24 t25 t26 t27 t28 t29 t30 t31 t32 t33
  by_cases hlt : pos < s.size
  · obtain ⟨b, hd, hb1, hb2⟩ := char_at hlt
    rw [show Nat.blt pos s.size = true from Nat.ble_eq_true_of_le hlt] at hR
    cases hg : dgB b with
    | true =>
      have hdec := hb1 hg
      rw [hg, eq_comm, Bool.and_eq_true] at hb2
      rw [hb2.1, hb2.2] at hR
      refine WpW.see (sg1 M) (orcOk_of (LS_ok M)) (Nat.le_refl _) hR fun T' hT' hp' => ?_
      simp only [decide_eq_true_eq] at hb2
      have hdn : digN GD n (s.data.toList.drop pos) = digN GD (mn (10 * n + ((b.toNat : Int) - 48)) GD) (s.data.toList.drop (pos + 1)) := by rw [hd]; simp only [digN, hg, cond_true]
      have hdr : digR (s.data.toList.drop pos) = digR (s.data.toList.drop (pos + 1)) := by rw [hd]; simp only [digR, hg, cond_true]
      rw [hdec] at hb2 hp' ⊢
      simp only at hb2
      have e1 : w (w (10 * n) + w (w32 ((b.toNat : Int) - 48))) = 10 * n + ((b.toNat : Int) - 48) := by
        unfold GD at h3
        have : w32 ((b.toNat : Int) - 48) = (b.toNat : Int) - 48 := by
          unfold w32 IntKind.wrap; simp [IntKind.bits, IntKind.signed]; omega
        rw [this, w_eq ((b.toNat : Int) - 48) (by omega) (by omega), w_eq (10 * n) (by omega) (by omega), w_eq _ (by omega) (by omega)]
      rw [e1] at hp'
      refine ⟨s.size - (pos + 1), by omega, pos + 1, _, hT', hp', rfl, by omega, rfl, ?_, ?_, ?_, ?_⟩
      · unfold mn; split <;> omega
      · unfold mn GD; split <;> omega
      · rw [← h4, hdn]; rfl
      · rw [← h5, hdr]
    | false =>
      rw [hg] at hb2
      have hdn : digN GD n (s.data.toList.drop pos) = n := by rw [hd]; simp only [digN, hg, cond_false]
      have hdr : digR (s.data.toList.drop pos) = s.data.toList.drop pos := by rw [hd]; simp only [digR, hg, cond_false]
      have hx : evCodeK Tryz.prog (orcL LS) (Sg1 M) 1060 3 BRd [.string s, t1, .int .i64 n, t3, .int .i64 (s.size : Int), t5, t6, t7, t8, t9, .pointer (some ⟨3, 0, none⟩), t11, t12, t13, t14, t15, t16, t17, t18, t19, t20, t21, t22, t23, t24, t25, t26, t27, t28, t29, t30, t31, t32, t33] [uni, pow, mxl M, iterBlk s pos] (sees [0, 2, 4, 10]) = some (.exit 0, 34, [.string s, .int .i64 n, .int .i64 (pos : Int), .pointer (some ⟨3, 0, none⟩)], [uni, pow, mxl M, iterBlk s (pos + (Utf8.decode s pos).2)]) := by
        rw [hR]
        cases ha : decide (48 ≤ ((Utf8.decode s pos).1 : Int)) with
        | false => rfl
        | true =>
          rw [ha, Bool.true_and] at hb2
          rw [← hb2]; rfl
      refine WpW.see (sg1 M) (orcOk_of (LS_ok M)) (Nat.le_refl _) hx fun T' hT' hp' => ?_
      exact ⟨rfl, hT', pos, _, by rw [hp', ← h4, hdn], rfl, h1, by rw [← hdr, h5]⟩
  · have hdr : s.data.toList.drop pos = [] := List.drop_eq_nil_of_le (by rw [Array.length_toList]; exact Nat.le_of_not_lt hlt)
    rw [show Nat.blt pos s.size = false from by rw [Bool.eq_false_iff]; intro e; exact hlt (Nat.le_of_ble_eq_true e)] at hR
    refine WpW.see (sg1 M) (orcOk_of (LS_ok M)) (Nat.le_refl _) hR fun T' hT' hp' => ?_
    rw [hdr] at h4 h5
    refine ⟨rfl, hT', s.size, pos, by rw [hp', ← h4]; rfl, rfl, Nat.le_refl _, ?_⟩
    rw [← h5]
    exact List.drop_eq_nil_of_le (by rw [Array.length_toList]; exact Nat.le_refl _)
/-- Digits at the beginning of a text. -/
def digV (s : ByteArray) : Value := .tuple #[.int .i64 (digN GD 0 s.data.toList), .string ⟨(digR s.data.toList).toArray⟩]
theorem wRd (M : Int) (s : ByteArray) : WpW Tryz.prog (Sg1 M) 3 3 (bodyOf Tryz.prog 114) (tmps0Of Tryz.prog 114 [.string s]) (Sg1 M) fun x T' U => (match x with | .exit _ => False | _ => True) ∧ (∃ N, U = Sg1 M ++ N) ∧ outOf Tryz.prog 114 T' U = some (digV s) := by
  rw [tmpsRd]
  refine WpW.of_pieces ?_
  rw [show flatC (bodyOf Tryz.prog 114) = _ from LRd_eq]
  refine WpL.see (l := [_]) (m := [_]) (sg1 M) (orcOk_of (LS_ok M)) (Nat.le_refl _) (headRd0 M s) fun T hT hp => ?_
  match T, hT, hp with
  | t0 :: t1 :: t2 :: t3 :: t4 :: t5 :: t6 :: t7 :: t8 :: t9 :: t10 :: t11 :: t12 :: t13 :: t14 :: t15 :: t16 :: t17 :: t18 :: t19 :: t20 :: t21 :: t22 :: t23 :: t24 :: t25 :: t26 :: t27 :: t28 :: t29 :: t30 :: t31 :: t32 :: t33 :: [], _, hp =>
  have hp : [t0, t2] = _ := hp
  cases hp
  refine WpL.step (WpW.of_unS (WpW.of_pieces ?_))
  rw [show flatC (unS (nthC (pcs Tryz.prog 114) 1)) = _ from sRd_eq]
  refine WpL.see (l := [_, _, _]) (m := [_, _, _]) (sg1 M) (orcOk_of (LS_ok M)) (Nat.le_refl _) (headRd1 M s t1 t3 t4 t5 t6 t7 t8 t9 t10 t11 t12 t13 t14 t15 t16 t17 t18 t19 t20 t21 t22 t23 t24 t25 t26 t27 t28 t29 t30 t31 t32 t33) fun T hT hp => ?_
  refine WpL.step (WpW.block ((loopRd M s T hT hp).mono ?_))
  rintro x T S ⟨rfl, hT, e, p, hp, rfl, he, hdr⟩
  match T, hT, hp with
  | t0 :: t1 :: t2 :: t3 :: t4 :: t5 :: t6 :: t7 :: t8 :: t9 :: t10 :: t11 :: t12 :: t13 :: t14 :: t15 :: t16 :: t17 :: t18 :: t19 :: t20 :: t21 :: t22 :: t23 :: t24 :: t25 :: t26 :: t27 :: t28 :: t29 :: t30 :: t31 :: t32 :: t33 :: [], _, hp =>
  have hp : [t0, t2, t4, t10] = _ := hp
  cases hp
  have ht := tailRd M s p (digN GD 0 s.data.toList) (e : Int) t1 t3 t5 t6 t7 t8 t9 (.pointer (some ⟨3, 0, none⟩)) t11 t12 t13 t14 t15 t16 t17 t18 t19 t20 t21 t22 t23 t24 t25 t26 t27 t28 t29 t30 t31 t32 t33
  rw [condT (by rw [decide_eq_true (show (0 : Int) ≤ e by omega), Int.toNat_natCast, Nat.ble_eq_true_of_le he, Nat.ble_eq_true_of_le (Nat.le_refl s.size)]; rfl), Int.toNat_natCast] at ht
  refine WpL.mono (WpL.of_k (sg1 M) (orcOk_of (LS_ok M)) (Nat.le_refl _) _ _ _ _ ht) ?_
  intro x T' U hk
  obtain ⟨h1, rfl, h2⟩ := outs_eq hk
  rw [ext_drop, hdr] at h2
  cases x with
  | normal => exact ⟨h1, ⟨_, rfl⟩, h2⟩
  | ret => exact ⟨h1, ⟨_, rfl⟩, h2⟩
  | exit id => exact h1.elim
def cDig : Con := ⟨114, fun args => match args with
  | [.string s] => some (.val (digV s))
  | _ => none⟩
theorem cDig_ok (M : Int) : ConOk M cDig := by
  intro args t v h hv w inv
  simp only [cDig] at h
  split at h
  · rename_i s
    cases h
    cases hv
    exact calls_of_W (sg1 M) (by rw [show (Tryz.prog.funcs[114]?).bind (·.body) = some (bodyOf Tryz.prog 114) from by kernel_rfl]; simp) rfl rfl rfl (wRd M s) inv
  · cases h
/- Ring: the program's readers of texts: a term. -/

abbrev LT : List Con := [cDig, cHas]
theorem LT_ok (M : Int) : ∀ c ∈ LT, ConOk M c := mem_cons_ok (cDig_ok M) (mem_cons_ok (cHas_ok M) nil_ok)
def bs (l : List UInt8) : ByteArray := ⟨l.toArray⟩
def hpB (s : ByteArray) (u : List UInt8) : Bool := Lib.hasPrefix s.data.toList (bs u).data.toList
def dropOk (s : ByteArray) (k : Int) : Bool := decide (0 ≤ k) && true && Nat.ble k.toNat s.size && Nat.ble s.size s.size
def rdR (s : ByteArray) : ByteArray := ⟨(digR s.data.toList).toArray⟩
def rdW (s : ByteArray) : Bool := decide (((rdR s).size : Int) < (s.size : Int))
def endG (s : ByteArray) (sg p i : Int) (u : List UInt8) : Option Value :=
  bif dropOk (rdR s) ((bs u).size : Int) then (bif rdW s then some (.tuple #[.int .i64 i, .int .i64 (w (sg * p)), .string ((rdR s).extract ((bs u).size : Int).toNat (rdR s).size), .bool true])
    else some (.tuple #[.int .i64 i, .int .i64 (w (sg * p)), .string ((rdR s).extract ((bs u).size : Int).toNat (rdR s).size), .bool (decide (i > 0))])) else none
def endU (s : ByteArray) (sg p : Int) : Option Value :=
  bif !hpB (rdR s) [119, 51] then (bif !hpB (rdR s) [119, 50] then (bif !hpB (rdR s) [119] then (bif !hpB (rdR s) [] then none else endG s sg p 0 []) else endG s sg p 1 [119]) else endG s sg p 2 [119, 50]) else endG s sg p 3 [119, 51]
def endT (s : ByteArray) (sg : Int) : Option Value := bif !rdW s then endU s sg 1 else endU s sg (digN GD 0 s.data.toList)
theorem treeTrm (M : Int) (m : Nat) (s : ByteArray) : runK Tryz.prog (orcL LT) (Sg1 M) (m + 60) 120 [.string s] =
    bif hpB s [45] then (bif dropOk s 1 then endT (s.extract (Int.toNat 1) s.size) (-1) else none)
    else bif hpB s [43] then (bif dropOk s 1 then endT (s.extract (Int.toNat 1) s.size) 1 else none) else endT s 1 := by kernel_rfl

theorem bs_size (l : List UInt8) : (bs l).size = l.length := by simp [bs, ByteArray.size]
theorem bs_list (l : List UInt8) : (bs l).data.toList = l := by simp [bs]
theorem bs_of (s : ByteArray) : s = bs s.data.toList := rfl
theorem hpB_bs (l u : List UInt8) : hpB (bs l) u = Lib.hasPrefix l u := by unfold hpB; rw [bs_list, bs_list]
theorem rdR_bs (l : List UInt8) : rdR (bs l) = bs (digR l) := by unfold rdR; rw [bs_list]; rfl
theorem rdW_bs (l : List UInt8) : rdW (bs l) = wrt l := by
  unfold rdW wrt
  rw [rdR_bs, bs_size, bs_size, Bool.eq_iff_iff]
  simp only [decide_eq_true_eq, Nat.blt_eq]; omega
theorem ext_bs (l : List UInt8) (k : Nat) : (bs l).extract k (bs l).size = bs (l.drop k) := by rw [ext_drop, bs_list]; rfl
theorem dropOk_bs {l : List UInt8} {k : Nat} (h : k ≤ l.length) : dropOk (bs l) (k : Int) = true := by
  unfold dropOk
  rw [decide_eq_true (show (0 : Int) ≤ k by omega), bs_size, Int.toNat_natCast, Nat.ble_eq_true_of_le h, Nat.ble_eq_true_of_le (Nat.le_refl _)]; rfl
theorem prefix_len {l u : List UInt8} (h : Lib.hasPrefix l u = true) : u.length ≤ l.length := by
  have := List.IsPrefix.length_le (List.isPrefixOf_iff_prefix.1 h)
  exact this
theorem endG_bs {l u : List UInt8} (sg p : Int) (i : Nat) (h : Lib.hasPrefix (digR l) u = true) (hi : i < 4) : endG (bs l) sg p (i : Int) u = some (.tuple #[.int .i64 i, .int .i64 (w (sg * p)), .string (bs ((digR l).drop u.length)), .bool (wrt l || Nat.blt 0 i)]) := by
  unfold endG
  rw [rdW_bs, rdR_bs, bs_size u, condT (dropOk_bs (prefix_len h)), Int.toNat_natCast, ext_bs]
  cases wrt l with
  | true => rfl
  | false =>
    have : i = 0 ∨ i = 1 ∨ i = 2 ∨ i = 3 := by omega
    rcases this with rfl | rfl | rfl | rfl <;> rfl
def trmV (l : List UInt8) (sg : Int) : Value := .tuple #[.int .i64 (uniI (digR l) : Nat), .int .i64 (sg * mag GD l), .string (bs (uniR (digR l))), .bool (wrt l || Nat.blt 0 (uniI (digR l)))]
theorem endU_bs (l : List UInt8) (sg p : Int) (hp : w (sg * p) = sg * mag GD l) : endU (bs l) sg p = some (trmV l sg) := by
  unfold endU trmV uniI uniR
  rw [rdR_bs, hpB_bs, hpB_bs, hpB_bs, hpB_bs]
  cases h3 : Lib.hasPrefix (digR l) [119, 51] with
  | true => exact (endG_bs sg p 3 h3 (by omega)).trans (by rw [hp]; rfl)
  | false =>
    cases h2 : Lib.hasPrefix (digR l) [119, 50] with
    | true => exact (endG_bs sg p 2 h2 (by omega)).trans (by rw [hp]; rfl)
    | false =>
      cases h1 : Lib.hasPrefix (digR l) [119] with
      | true => exact (endG_bs sg p 1 h1 (by omega)).trans (by rw [hp]; rfl)
      | false =>
        have h0 : Lib.hasPrefix (digR l) [] = true := by cases digR l <;> rfl
        rw [h0]
        exact (endG_bs sg p 0 h0 (by omega)).trans (by rw [hp]; rfl)
theorem endT_bs (l : List UInt8) {sg : Int} (hs : sg = 1 ∨ sg = -1) : endT (bs l) sg = some (trmV l sg) := by
  have hb := digN_le GD (by decide) l 0 (by decide) (by decide)
  unfold GD at hb
  unfold endT
  rw [rdW_bs, bs_list]
  cases hw : wrt l with
  | true =>
    refine endU_bs l sg _ ?_
    unfold mag
    rw [hw, cond_true]
    unfold GD
    rcases hs with rfl | rfl <;> exact w_eq _ (by omega) (by omega)
  | false =>
    refine endU_bs l sg _ ?_
    unfold mag
    rw [hw, cond_false]
    rcases hs with rfl | rfl <;> exact w_eq _ (by omega) (by omega)
theorem hp_one (b c : UInt8) (l : List UInt8) : Lib.hasPrefix (b :: l) [c] = (b == c) := by
  show ((c == b) && _) = _
  rw [show List.isPrefixOf [] l = true by cases l <;> rfl, Bool.and_true, Bool.eq_iff_iff, beq_iff_eq, beq_iff_eq]
  exact eq_comm
theorem eTrm (M : Int) (s : ByteArray) : EvF Tryz.prog (orcL LT) (Sg1 M) 120 [.string s] (trmV (aft s.data.toList) (sgn s.data.toList)) := by
  refine EvF.of_eq 60 fun m => ?_
  rw [treeTrm]
  rw [bs_of s]
  generalize s.data.toList = l
  rw [hpB_bs, hpB_bs, bs_list]
  cases l with
  | nil => exact endT_bs [] (.inl rfl)
  | cons b l =>
    have hd : dropOk (bs (b :: l)) 1 = true := dropOk_bs (k := 1) (by simp)
    have he : (bs (b :: l)).extract (Int.toNat 1) (bs (b :: l)).size = bs l := ext_bs (b :: l) 1
    rw [hp_one, hp_one, hd, he]
    show _ = some (trmV (bif b == 45 then l else bif b == 43 then l else b :: l) (bif b == 45 then -1 else 1))
    cases b == 45 with
    | true => exact endT_bs l (.inr rfl)
    | false =>
      cases b == 43 with
      | true => exact endT_bs l (.inl rfl)
      | false => exact endT_bs (b :: l) (.inl rfl)
/-- A term, by its power. -/
def trmW (l : List UInt8) (i : Nat) : Value := .tuple #[.int .i64 (i : Nat), .int .i64 (rtP GD l), .string (bs (rtR l)), .bool (rtOk l)]
def cTrm : Con := ⟨120, fun args => match args with
  | [.string s] => some (.ite (Nat.beq (rtI s.data.toList) 3) (.val (trmW s.data.toList 3)) (.ite (Nat.beq (rtI s.data.toList) 2) (.val (trmW s.data.toList 2)) (.ite (Nat.beq (rtI s.data.toList) 1) (.val (trmW s.data.toList 1)) (.val (trmW s.data.toList 0)))))
  | _ => none⟩
theorem uniI_lt (l : List UInt8) : uniI l = 0 ∨ uniI l = 1 ∨ uniI l = 2 ∨ uniI l = 3 := by
  unfold uniI
  cases Lib.hasPrefix l [119, 51] <;> cases Lib.hasPrefix l [119, 50] <;> cases Lib.hasPrefix l [119] <;> simp
theorem cTrm_ok (M : Int) : ConOk M cTrm := conOk_of_evF (LT_ok M) fun args t v h hv => by
  simp only [cTrm] at h
  split at h
  · rename_i s
    cases h
    refine ⟨rfl, ?_⟩
    have : v = trmV (aft s.data.toList) (sgn s.data.toList) := by
      have e : trmV (aft s.data.toList) (sgn s.data.toList) = trmW s.data.toList (rtI s.data.toList) := rfl
      rw [e]
      simp only [OT.get] at hv
      rcases uniI_lt (digR (aft s.data.toList)) with h | h | h | h <;> (have h : rtI s.data.toList = _ := h) <;> rw [h] at hv ⊢ <;> cases hv <;> rfl
    rw [this]
    exact eTrm M s
  · cases h
/- Ring: the program's readers of texts: terms (made by mkrt.py). -/

theorem uniR_lt {r : List UInt8} (h : Nat.blt 0 (uniI r) = true) : (uniR r).length < r.length := by
  unfold uniI at h
  unfold uniR
  cases h3 : Lib.hasPrefix r [119, 51] with
  | true => have := prefix_len h3; simp only [List.length_cons, List.length_nil] at this; simp only [cond_true, List.length_drop]; omega
  | false =>
    cases h2 : Lib.hasPrefix r [119, 50] with
    | true => have := prefix_len h2; simp only [List.length_cons, List.length_nil] at this; simp only [cond_true, cond_false, List.length_drop]; omega
    | false =>
      cases h1 : Lib.hasPrefix r [119] with
      | true => have := prefix_len h1; simp only [List.length_cons, List.length_nil] at this; simp only [cond_true, cond_false, List.length_drop]; omega
      | false => rw [h3, h2, h1] at h; cases h
theorem rtR_lt {l : List UInt8} (h : rtOk l = true) : (rtR l).length < l.length := by
  have a1 := aft_le l
  have a2 := digR_le (aft l)
  have a3 := uniR_le (digR (aft l))
  unfold rtOk at h
  rw [Bool.or_eq_true] at h
  unfold rtR
  rcases h with h | h
  · unfold wrt at h
    have := Nat.le_of_ble_eq_true h
    omega
  · have := uniR_lt (r := digR (aft l)) h
    omega
def cfB (x : N) : Blk := ⟨[.int .i64 x.a, .int .i64 x.b, .int .i64 x.c, .int .i64 x.d], 59, false, none⟩
abbrev LM1 : List Con := [cTrm]
theorem LM1_ok (M : Int) : ∀ c ∈ LM1, ConOk M c := mem_cons_ok (cTrm_ok M) nil_ok
noncomputable abbrev qRt (i : Nat) : Code := nthC (pcs Tryz.prog 112) i
noncomputable abbrev BRt : Code := loopOf Tryz.prog 112 0
theorem LRt_eq : pcs Tryz.prog 112 = [qRt 0, qRt 1, .block 0 (.loop BRt), qRt 3, qRt 4] := by kernel_rfl
theorem tmpsRt (s : ByteArray) : tmps0Of Tryz.prog 112 [.string s] = .string s :: List.replicate 31 undef := by kernel_rfl
theorem headRt (M : Int) (l : List UInt8) : evP Tryz.prog (orcL LM1) (Sg1 M) 3 (fun _ => 1000) 0 [qRt 0, qRt 1] (.string (bs l) :: List.replicate 31 undef) [uni, pow, mxl M] (sees [0, 2, 3, 4]) = some (.normal, 32, [.string (bs l), .pointer (some ⟨3, 0, none⟩), .bool false, .pointer (some ⟨4, 0, none⟩)], [uni, pow, mxl M, cfB O, cfB O]) := by kernel_rfl
theorem roundRt (M : Int) (l : List UInt8) (x y : N) (t1 t5 t6 t7 t8 t9 t10 t11 t12 t13 t14 t15 t16 t17 t18 t19 t20 t21 t22 t23 t24 t25 t26 t27 t28 t29 t30 t31 : Value) : evCodeK Tryz.prog (orcL LM1) (Sg1 M) 1060 3 BRt [.string (bs l), t1, .pointer (some ⟨3, 0, none⟩), .bool false, .pointer (some ⟨4, 0, none⟩), t5, t6, t7, t8, t9, t10, t11, t12, t13, t14, t15, t16, t17, t18, t19, t20, t21, t22, t23, t24, t25, t26, t27, t28, t29, t30, t31] [uni, pow, mxl M, cfB y, cfB x] (sees [0, 2, 3, 4]) =
    bif !((bs l).toList == (bs []).toList) then (bif Nat.beq (rtI (bs l).data.toList) 3 then (bif !rtOk l then some (.ret, 32, [.string (bs l), .pointer (some ⟨3, 0, none⟩), .bool false, .pointer (some ⟨4, 0, none⟩)], [uni, pow, mxl M, cfB O, cfB x]) else bif getC x 3 != 0 then some (.ret, 32, [.string (bs l), .pointer (some ⟨3, 0, none⟩), .bool false, .pointer (some ⟨4, 0, none⟩)], [uni, pow, mxl M, cfB O, cfB x]) else some (.normal, 32, [.string (bs (rtR l)), .pointer (some ⟨3, 0, none⟩), .bool false, .pointer (some ⟨4, 0, none⟩)], [uni, pow, mxl M, cfB y, cfB (setC x 3 (rtP GD l))])) else bif Nat.beq (rtI (bs l).data.toList) 2 then (bif !rtOk l then some (.ret, 32, [.string (bs l), .pointer (some ⟨3, 0, none⟩), .bool false, .pointer (some ⟨4, 0, none⟩)], [uni, pow, mxl M, cfB O, cfB x]) else bif getC x 2 != 0 then some (.ret, 32, [.string (bs l), .pointer (some ⟨3, 0, none⟩), .bool false, .pointer (some ⟨4, 0, none⟩)], [uni, pow, mxl M, cfB O, cfB x]) else some (.normal, 32, [.string (bs (rtR l)), .pointer (some ⟨3, 0, none⟩), .bool false, .pointer (some ⟨4, 0, none⟩)], [uni, pow, mxl M, cfB y, cfB (setC x 2 (rtP GD l))])) else bif Nat.beq (rtI (bs l).data.toList) 1 then (bif !rtOk l then some (.ret, 32, [.string (bs l), .pointer (some ⟨3, 0, none⟩), .bool false, .pointer (some ⟨4, 0, none⟩)], [uni, pow, mxl M, cfB O, cfB x]) else bif getC x 1 != 0 then some (.ret, 32, [.string (bs l), .pointer (some ⟨3, 0, none⟩), .bool false, .pointer (some ⟨4, 0, none⟩)], [uni, pow, mxl M, cfB O, cfB x]) else some (.normal, 32, [.string (bs (rtR l)), .pointer (some ⟨3, 0, none⟩), .bool false, .pointer (some ⟨4, 0, none⟩)], [uni, pow, mxl M, cfB y, cfB (setC x 1 (rtP GD l))])) else (bif !rtOk l then some (.ret, 32, [.string (bs l), .pointer (some ⟨3, 0, none⟩), .bool false, .pointer (some ⟨4, 0, none⟩)], [uni, pow, mxl M, cfB O, cfB x]) else bif getC x 0 != 0 then some (.ret, 32, [.string (bs l), .pointer (some ⟨3, 0, none⟩), .bool false, .pointer (some ⟨4, 0, none⟩)], [uni, pow, mxl M, cfB O, cfB x]) else some (.normal, 32, [.string (bs (rtR l)), .pointer (some ⟨3, 0, none⟩), .bool false, .pointer (some ⟨4, 0, none⟩)], [uni, pow, mxl M, cfB y, cfB (setC x 0 (rtP GD l))])))
    else some (.exit 0, 32, [.string (bs l), .pointer (some ⟨3, 0, none⟩), .bool false, .pointer (some ⟨4, 0, none⟩)], [uni, pow, mxl M, cfB y, cfB x]) := by kernel_rfl
theorem tailRt (M : Int) (v0 : Value) (x y : N) (t1 t5 t6 t7 t8 t9 t10 t11 t12 t13 t14 t15 t16 t17 t18 t19 t20 t21 t22 t23 t24 t25 t26 t27 t28 t29 t30 t31 : Value) : evP Tryz.prog (orcL LM1) (Sg1 M) 3 (fun _ => 1000) 0 [qRt 3, qRt 4] [v0, t1, .pointer (some ⟨3, 0, none⟩), .bool false, .pointer (some ⟨4, 0, none⟩), t5, t6, t7, t8, t9, t10, t11, t12, t13, t14, t15, t16, t17, t18, t19, t20, t21, t22, t23, t24, t25, t26, t27, t28, t29, t30, t31] [uni, pow, mxl M, cfB y, cfB x] (outs Tryz.prog 112) = some (.tuple #[N.cv x, .bool true], [uni, pow, mxl M, cfB x, cfB x]) := by kernel_rfl
theorem retRt (M : Int) (v0 : Value) (x y : N) (t1 t5 t6 t7 t8 t9 t10 t11 t12 t13 t14 t15 t16 t17 t18 t19 t20 t21 t22 t23 t24 t25 t26 t27 t28 t29 t30 t31 : Value) : outOf Tryz.prog 112 [v0, t1, .pointer (some ⟨3, 0, none⟩), .bool false, .pointer (some ⟨4, 0, none⟩), t5, t6, t7, t8, t9, t10, t11, t12, t13, t14, t15, t16, t17, t18, t19, t20, t21, t22, t23, t24, t25, t26, t27, t28, t29, t30, t31] [uni, pow, mxl M, cfB y, cfB x] = some (.tuple #[N.cv y, .bool false]) := by kernel_rfl
theorem bs_empty (l : List UInt8) : (!((bs l).toList == (bs []).toList)) = !l.isEmpty := by
  have e : ∀ l, (bs l).toList = l := fun l => by simp [bs, ByteArray.toList_eq]
  rw [e, e]
  cases l <;> rfl
def rtsOf (l : List UInt8) : N × Bool := rts GD (l.length + 1) O l
def rtsV (l : List UInt8) : Value := .tuple #[N.cv (rtsOf l).1, .bool (rtsOf l).2]
theorem loopRt (M : Int) (l0 : List UInt8) (T : List Value) (hT : T.length = 32) (hp : picks T [0, 2, 3, 4] = [.string (bs l0), .pointer (some ⟨3, 0, none⟩), .bool false, .pointer (some ⟨4, 0, none⟩)]) :
    WpW Tryz.prog (Sg1 M) 3 3 (.loop BRt) T [uni, pow, mxl M, cfB O, cfB O] fun x T' S' => (x = .exit 0 ∧ T'.length = 32 ∧ ∃ (v0 : Value) (y : N), picks T' [0, 2, 3, 4] = [v0, .pointer (some ⟨3, 0, none⟩), .bool false, .pointer (some ⟨4, 0, none⟩)] ∧ S' = [uni, pow, mxl M, cfB O, cfB y] ∧ rtsOf l0 = (y, true)) ∨
      (x = .ret ∧ T'.length = 32 ∧ ∃ (v0 : Value) (y : N), picks T' [0, 2, 3, 4] = [v0, .pointer (some ⟨3, 0, none⟩), .bool false, .pointer (some ⟨4, 0, none⟩)] ∧ S' = [uni, pow, mxl M, cfB O, cfB y] ∧ rtsOf l0 = (O, false)) := by
  refine WpW.loop (fun m T S => ∃ (l : List UInt8) (f : Nat) (x : N), T.length = 32 ∧ picks T [0, 2, 3, 4] = [.string (bs l), .pointer (some ⟨3, 0, none⟩), .bool false, .pointer (some ⟨4, 0, none⟩)] ∧ S = [uni, pow, mxl M, cfB O, cfB x] ∧ m = l.length ∧ l.length < f ∧ rts GD f x l = rtsOf l0) ?_ l0.length T _ ⟨l0, l0.length + 1, O, hT, hp, rfl, rfl, Nat.lt_succ_self _, rfl⟩
  rintro m T S ⟨l, f, x, hT, hp, rfl, rfl, hf, hr⟩
  match T, hT, hp with
  | t0 :: t1 :: t2 :: t3 :: t4 :: t5 :: t6 :: t7 :: t8 :: t9 :: t10 :: t11 :: t12 :: t13 :: t14 :: t15 :: t16 :: t17 :: t18 :: t19 :: t20 :: t21 :: t22 :: t23 :: t24 :: t25 :: t26 :: t27 :: t28 :: t29 :: t30 :: t31 :: [], _, hp =>
  have hp : [t0, t2, t3, t4] = _ := hp
  cases hp
  have hR := roundRt M l x O t1 t5 t6 t7 t8 t9 t10 t11 t12 t13 t14 t15 t16 t17 t18 t19 t20 t21 t22 t23 t24 t25 t26 t27 t28 t29 t30 t31
  rw [bs_empty, bs_list] at hR
  obtain ⟨f, rfl⟩ : ∃ g, f = g + 1 := ⟨f - 1, by omega⟩
  cases he : l.isEmpty with
  | true =>
    rw [he] at hR
    refine WpW.see (sg1 M) (orcOk_of (LM1_ok M)) (Nat.le_refl _) hR fun T' hT' hp' => .inl ⟨rfl, hT', _, x, hp', rfl, ?_⟩
    rw [← hr, rts, he]; rfl
  | false =>
    rw [he] at hR
    simp only [Bool.not_false, cond_true] at hR
    have fin : ∃ i, rtI l = i ∧ evCodeK Tryz.prog (orcL LM1) (Sg1 M) 1060 3 BRt [.string (bs l), t1, .pointer (some ⟨3, 0, none⟩), .bool false, .pointer (some ⟨4, 0, none⟩), t5, t6, t7, t8, t9, t10, t11, t12, t13, t14, t15, t16, t17, t18, t19, t20, t21, t22, t23, t24, t25, t26, t27, t28, t29, t30, t31] [uni, pow, mxl M, cfB O, cfB x] (sees [0, 2, 3, 4]) =
        (bif !rtOk l then some (.ret, 32, [.string (bs l), .pointer (some ⟨3, 0, none⟩), .bool false, .pointer (some ⟨4, 0, none⟩)], [uni, pow, mxl M, cfB O, cfB x]) else bif getC x i != 0 then some (.ret, 32, [.string (bs l), .pointer (some ⟨3, 0, none⟩), .bool false, .pointer (some ⟨4, 0, none⟩)], [uni, pow, mxl M, cfB O, cfB x]) else some (.normal, 32, [.string (bs (rtR l)), .pointer (some ⟨3, 0, none⟩), .bool false, .pointer (some ⟨4, 0, none⟩)], [uni, pow, mxl M, cfB O, cfB (setC x i (rtP GD l))])) := by
      rcases uniI_lt (digR (aft l)) with hi | hi | hi | hi
      all_goals have hi : rtI l = _ := hi
      · rw [show Nat.beq (rtI l) 3 = false by rw [hi]; rfl, show Nat.beq (rtI l) 2 = false by rw [hi]; rfl, show Nat.beq (rtI l) 1 = false by rw [hi]; rfl] at hR
        exact ⟨0, hi, hR⟩
      · rw [show Nat.beq (rtI l) 3 = false by rw [hi]; rfl, show Nat.beq (rtI l) 2 = false by rw [hi]; rfl, show Nat.beq (rtI l) 1 = true by rw [hi]; rfl] at hR
        exact ⟨1, hi, hR⟩
      · rw [show Nat.beq (rtI l) 3 = false by rw [hi]; rfl, show Nat.beq (rtI l) 2 = true by rw [hi]; rfl] at hR
        exact ⟨2, hi, hR⟩
      · rw [show Nat.beq (rtI l) 3 = true by rw [hi]; rfl] at hR
        exact ⟨3, hi, hR⟩
    obtain ⟨i, hi, hR⟩ := fin
    rw [rts, he, cond_false, hi] at hr
    cases ho : rtOk l with
    | false =>
      rw [ho] at hR hr
      exact WpW.see (sg1 M) (orcOk_of (LM1_ok M)) (Nat.le_refl _) hR fun T' hT' hp' => .inr ⟨rfl, hT', _, x, hp', rfl, hr.symm⟩
    | true =>
      rw [ho] at hR hr
      cases hg : getC x i != 0 with
      | true =>
        rw [hg] at hR hr
        exact WpW.see (sg1 M) (orcOk_of (LM1_ok M)) (Nat.le_refl _) hR fun T' hT' hp' => .inr ⟨rfl, hT', _, x, hp', rfl, hr.symm⟩
      | false =>
        rw [hg] at hR hr
        have hlt := rtR_lt ho
        exact WpW.see (sg1 M) (orcOk_of (LM1_ok M)) (Nat.le_refl _) hR fun T' hT' hp' => ⟨(rtR l).length, hlt, rtR l, f, setC x i (rtP GD l), hT', hp', rfl, rfl, by omega, hr⟩
theorem wRt (M : Int) (l : List UInt8) : WpW Tryz.prog (Sg1 M) 3 3 (bodyOf Tryz.prog 112) (tmps0Of Tryz.prog 112 [.string (bs l)]) (Sg1 M) fun x T' U => (match x with | .exit _ => False | _ => True) ∧ (∃ N, U = Sg1 M ++ N) ∧ outOf Tryz.prog 112 T' U = some (rtsV l) := by
  rw [tmpsRt]
  refine WpW.of_pieces ?_
  rw [show flatC (bodyOf Tryz.prog 112) = _ from LRt_eq]
  refine WpL.see (l := [_, _]) (m := [_, _, _]) (sg1 M) (orcOk_of (LM1_ok M)) (Nat.le_refl _) (headRt M l) fun T hT hp => ?_
  refine WpL.step (WpW.block ((loopRt M l T hT hp).mono ?_))
  rintro x T S (⟨rfl, hT, v0, y, hp, rfl, hr⟩ | ⟨rfl, hT, v0, y, hp, rfl, hr⟩)
  · match T, hT, hp with
    | t0 :: t1 :: t2 :: t3 :: t4 :: t5 :: t6 :: t7 :: t8 :: t9 :: t10 :: t11 :: t12 :: t13 :: t14 :: t15 :: t16 :: t17 :: t18 :: t19 :: t20 :: t21 :: t22 :: t23 :: t24 :: t25 :: t26 :: t27 :: t28 :: t29 :: t30 :: t31 :: [], _, hp =>
    have hp : [t0, t2, t3, t4] = _ := hp
    cases hp
    refine WpL.mono (WpL.of_k (sg1 M) (orcOk_of (LM1_ok M)) (Nat.le_refl _) _ _ _ _ (tailRt M v0 y O t1 t5 t6 t7 t8 t9 t10 t11 t12 t13 t14 t15 t16 t17 t18 t19 t20 t21 t22 t23 t24 t25 t26 t27 t28 t29 t30 t31)) ?_
    intro x T' U hk
    obtain ⟨h1, rfl, h2⟩ := outs_eq hk
    have hv : rtsV l = .tuple #[N.cv y, .bool true] := by unfold rtsV; rw [hr]
    rw [← hv] at h2
    cases x with
    | normal => exact ⟨h1, ⟨_, rfl⟩, h2⟩
    | ret => exact ⟨h1, ⟨_, rfl⟩, h2⟩
    | exit id => exact h1.elim
  · match T, hT, hp with
    | t0 :: t1 :: t2 :: t3 :: t4 :: t5 :: t6 :: t7 :: t8 :: t9 :: t10 :: t11 :: t12 :: t13 :: t14 :: t15 :: t16 :: t17 :: t18 :: t19 :: t20 :: t21 :: t22 :: t23 :: t24 :: t25 :: t26 :: t27 :: t28 :: t29 :: t30 :: t31 :: [], _, hp =>
    have hp : [t0, t2, t3, t4] = _ := hp
    cases hp
    have hv : rtsV l = .tuple #[N.cv O, .bool false] := by unfold rtsV; rw [hr]
    exact ⟨trivial, ⟨_, rfl⟩, by rw [hv]; exact retRt M v0 y O t1 t5 t6 t7 t8 t9 t10 t11 t12 t13 t14 t15 t16 t17 t18 t19 t20 t21 t22 t23 t24 t25 t26 t27 t28 t29 t30 t31⟩
def cRts : Con := ⟨112, fun args => match args with
  | [.string s] => some (.val (rtsV s.data.toList))
  | _ => none⟩
theorem cRts_ok (M : Int) : ConOk M cRts := by
  intro args t v h hv w inv
  simp only [cRts] at h
  split at h
  · rename_i s
    cases h
    cases hv
    exact calls_of_W (sg1 M) (by rw [show (Tryz.prog.funcs[112]?).bind (·.body) = some (bodyOf Tryz.prog 112) from by kernel_rfl]; simp) rfl rfl rfl (wRt M s.data.toList) inv
  · cases h
/- Ring: the program's Print and Parse. -/

abbrev LPrU : List Con := [con1 54 leaT, cPrt, cItoa]
theorem LPrU_ok (M : Int) : ∀ c ∈ LPrU, ConOk M c := mem_cons_ok (cLea_ok M) (mem_cons_ok (cPrt_ok M) (mem_cons_ok (cItoa_ok M) nil_ok))
def pcN (x : N) : List UInt8 := printC ⟨x.a, x.b, x.c, x.d, 0⟩
def catOk (a b : ByteArray) : Bool := Nat.ble (a.size + b.size) 9223372036854775807
def txtV (l : List UInt8) (e : Int) : Value := .tuple #[.string (bs l), .int .i64 e]
theorem treePrt (M : Int) (m : Nat) (x : N) : runK Tryz.prog (orcL LPrU) (Sg1 M) (m + 60) 39 [N.v x] =
    bif rgB x then (bif inB x then (bif symB x.nf.a && symB x.nf.b && symB x.nf.c && symB x.nf.d then (bif x.nf.k == 0 then some (txtV (pcN x.nf) 0)
      else bif catOk (bs [40]) (bs (pcN x.nf)) then (bif catOk (bs [40] ++ bs (pcN x.nf)) (bs [41, 47, 114]) then (bif i64B x.nf.k then (bif catOk (bs [40] ++ bs (pcN x.nf) ++ bs [41, 47, 114]) (bs (itoaS x.nf.k))
        then some (.tuple #[.string (bs [40] ++ bs (pcN x.nf) ++ bs [41, 47, 114] ++ bs (itoaS x.nf.k)), .int .i64 0]) else none) else none) else none) else none) else none)
      else some (txtV [] 8)) else some (txtV [] 3) := by kernel_rfl
theorem bs_cat (a b : List UInt8) : bs a ++ bs b = bs (a ++ b) := bapp a b
theorem catOk_bs {a b : List UInt8} (h : a.length + b.length ≤ 1000) : catOk (bs a) (bs b) = true := by
  unfold catOk; rw [bs_size, bs_size]; exact Nat.ble_eq_true_of_le (by omega)
def prS (x : N) : List UInt8 × Int := bif3 x (numC x.nf, 0) fun n => ([], n)
theorem pcN_eq {x : N} (h : x.In 1073741824) : pcN x = termsC x := printC_eq (x := ⟨x.a, x.b, x.c, x.d, 0⟩) (by obtain ⟨a1, a2, b1, b2, c1, c2, d1, d2⟩ := h; constructor <;> simp only <;> omega)
theorem pz_len (st : Bool) {i : Nat} (hi : i < 4) {n : Int} (hn : n.natAbs ≤ 1073741824) : (pz st i n).length ≤ 25 := by
  have hd : (Lib.decDigits n.natAbs).length ≤ 21 := by
    have := Lib.itoa_length_le (n.natAbs : Int) (by omega) (by omega)
    rwa [Lib.itoa_nonneg] at this
  have hu : (uniOf i).length ≤ 2 := by
    have : i = 0 ∨ i = 1 ∨ i = 2 ∨ i = 3 := by omega
    rcases this with rfl | rfl | rfl | rfl <;> decide
  have hs : (sgT st n).length ≤ 1 := by unfold sgT; cases decide (n < 0) <;> cases st <;> decide
  have hm : (mgT i n).length ≤ 21 := by unfold mgT; cases Nat.blt 0 i && (n.natAbs == 1) <;> simp <;> omega
  unfold pz pieceT
  cases n == 0
  · simp only [cond_false, List.length_append]; omega
  · simp
theorem termsC_len {x : N} (h : big 1073741824 x) : (termsC x).length ≤ 100 := by
  obtain ⟨h1, h2, h3, h4⟩ := h
  unfold termsC
  cases x.zero
  · simp only [cond_false, terms, List.length_append]
    have a := pz_len false (i := 0) (by omega) (n := x.a) (by omega)
    have b := fun st => pz_len st (i := 1) (by omega) (n := x.b) (by omega)
    have c := fun st => pz_len st (i := 2) (by omega) (n := x.c) (by omega)
    have d := fun st => pz_len st (i := 3) (by omega) (n := x.d) (by omega)
    have b := b (!(pz false 0 x.a).isEmpty)
    have c := c (!(pz false 0 x.a ++ pz (!(pz false 0 x.a).isEmpty) 1 x.b).isEmpty)
    have d := d (!(pz false 0 x.a ++ pz (!(pz false 0 x.a).isEmpty) 1 x.b ++ pz (!(pz false 0 x.a ++ pz (!(pz false 0 x.a).isEmpty) 1 x.b).isEmpty) 2 x.c).isEmpty)
    omega
  · simp
theorem ePrt (M : Int) (x : N) : EvF Tryz.prog (orcL LPrU) (Sg1 M) 39 [N.v x] (txtV (prS x).1 (prS x).2) := by
  refine EvF.of_eq 60 fun m => ?_
  rw [treePrt]
  cases h1 : rgB x with
  | false => unfold prS bif3; rw [h1]; rfl
  | true =>
    cases h2 : inB x with
    | false => unfold prS bif3; rw [h1, h2]; rfl
    | true =>
      have ho : okB x = true := by unfold okB; rw [h1, h2]; rfl
      have hs := symN_of (okB_nf ho)
      obtain ⟨b1, b2, b3⟩ := big_of (okB_nf ho)
      have hin := ((okB_iff _).1 (okB_nf ho)).2.2
      unfold symN at hs
      rw [Bool.and_eq_true] at hs
      have hs := hs.1
      have hl := termsC_len b1
      have hr : prS x = (numC x.nf, 0) := by unfold prS; rw [bif3_ok ho]
      have hk : i64B x.nf.k = true := by simp [i64B]; omega
      have hd : (Lib.decDigits x.nf.k.toNat).length ≤ 21 := by
        have := Lib.itoa_length_le (x.nf.k.toNat : Int) (by omega) (by omega)
        rwa [Lib.itoa_nonneg] at this
      have hi : itoaS x.nf.k = Lib.decDigits x.nf.k.toNat := by
        rw [itoaS_eq (by omega) (by omega), show x.nf.k = (x.nf.k.toNat : Int) by omega, Lib.itoa_nonneg]; rfl
      rw [hs, hr, pcN_eq hin, hi, hk]
      unfold numC
      cases hz : x.nf.k == 0 with
      | true => rfl
      | false =>
        rw [catOk_bs (by simp; omega), bs_cat, catOk_bs (by simp; omega), bs_cat, catOk_bs (by simp; omega), bs_cat]
        rfl
def cPri : Con := con1 39 fun x => .val (txtV (prS x).1 (prS x).2)
theorem cPri_ok (M : Int) : ConOk M cPri := con1_ok (LPrU_ok M) fun x v h => by cases h; exact ePrt M x

abbrev LRe : List Con := [cRts, cDig, cPre, cCut]
theorem LRe_ok (M : Int) : ∀ c ∈ LRe, ConOk M c := mem_cons_ok (cRts_ok M) (mem_cons_ok (cDig_ok M) (mem_cons_ok (cPre_ok M) (mem_cons_ok (cCut_ok M) nil_ok)))
def reaV (x : N) (k : Int) (ok : Bool) : Value := .tuple #[N.v (withK x k), .bool ok]
def cutLU (s : ByteArray) : List UInt8 × List UInt8 × Bool := Lib.cut (bs (Lib.trimPrefix s.data.toList (bs [40]).data.toList)).data.toList (bs [41, 47, 114]).data.toList
theorem treeRea (M : Int) (m : Nat) (s : ByteArray) : runK Tryz.prog (orcL LRe) (Sg1 M) (m + 60) 88 [.string s] =
    bif !Lib.hasPrefix s.data.toList (bs [40]).data.toList then some (reaV (rtsOf s.data.toList).1 0 (rtsOf s.data.toList).2)
    else bif Nat.ble (bs (Lib.trimPrefix s.data.toList (bs [40]).data.toList)).size 4294967280 then
      (bif (rtsOf (bs (cutLU s).1).data.toList).2 then some (reaV (rtsOf (bs (cutLU s).1).data.toList).1 (digN GD 0 (bs (cutLU s).2.1).data.toList) ((bs (digR (bs (cutLU s).2.1).data.toList)).toList == (bs []).toList))
        else some (reaV (rtsOf (bs (cutLU s).1).data.toList).1 (digN GD 0 (bs (cutLU s).2.1).data.toList) false)) else none := by kernel_rfl
theorem eRea (M : Int) (s : ByteArray) (hs : s.size ≤ 4000000) : EvF Tryz.prog (orcL LRe) (Sg1 M) 88 [.string s] (.tuple #[N.v (readM s.data.toList).1, .bool (readM s.data.toList).2]) := by
  refine EvF.of_eq 60 fun m => ?_
  rw [treeRea]
  unfold readM cutLU
  simp only [bs_list]
  cases hp : Lib.hasPrefix s.data.toList [40] with
  | false => rfl
  | true =>
    have hl : (Lib.trimPrefix s.data.toList [40]).length ≤ 4000000 := by
      unfold Lib.trimPrefix
      rw [hp, if_pos rfl, List.length_drop, Array.length_toList]
      have : s.data.size ≤ 4000000 := hs
      omega
    rw [bs_size, Nat.ble_eq_true_of_le (show (Lib.trimPrefix s.data.toList [40]).length ≤ 4294967280 by omega)]
    have hb : ∀ l, ((bs l).toList == (bs []).toList) = l.isEmpty := fun l => by
      have := bs_empty l
      revert this
      cases ((bs l).toList == (bs []).toList) <;> cases l.isEmpty <;> simp
    simp only [Bool.not_true, cond_false, cond_true, hb]
    unfold rtsOf
    cases (rts GD ((Lib.cut (Lib.trimPrefix s.data.toList [40]) [41, 47, 114]).1.length + 1) O (Lib.cut (Lib.trimPrefix s.data.toList [40]) [41, 47, 114]).1).2 <;> rfl
def cRea : Con := ⟨88, fun args => match args with
  | [.string s] => some (.ite (Nat.ble s.size 4000000) (.val (.tuple #[N.v (readM s.data.toList).1, .bool (readM s.data.toList).2])) .no)
  | _ => none⟩
theorem cRea_ok (M : Int) : ConOk M cRea := conOk_of_evF (LRe_ok M) fun args t v h hv => by
  simp only [cRea] at h
  split at h
  · rename_i s
    cases h
    obtain ⟨h1, rfl⟩ := OT.pre hv
    exact ⟨rfl, eRea M s (Nat.le_of_ble_eq_true h1)⟩
  · cases h
end Go.Proofs.YtihccnfaibiiiaaGreatDoor.R
