/- Ring: texts of numbers, U7, U8, U9, Ua in one. -/
import Derived.Test.YtihccnfaibiiiaaGreatDoorK14
namespace Go.Proofs.YtihccnfaibiiiaaGreatDoor.R
open Go Go.Proofs.XX.Vm Go.Proofs.XX.Rm Go.RowKit
set_option maxRecDepth 100000

/- Ring: the program's Parse; the specification's digits. -/

abbrev LPa : List Con := [cRea, cPri]
theorem LPa_ok (M : Int) : ∀ c ∈ LPa, ConOk M c := mem_cons_ok (cRea_ok M) (mem_cons_ok (cPri_ok M) nil_ok)
theorem treePar (M : Int) (m : Nat) (s : ByteArray) : runK Tryz.prog (orcL LPa) (Sg1 M) (m + 60) 56 [.string s] =
    bif Nat.ble s.size 4000000 then (bif !(readM s.data.toList).2 then some (resV (O, 4)) else bif (prS (readM s.data.toList).1).2 != 0 then some (resV (O, 4)) else
      bif !((bs (prS (readM s.data.toList).1).1).toList == s.toList) then some (resV (O, 4)) else some (resV ((readM s.data.toList).1, 0))) else none := by kernel_rfl
/-- What Parse gives. -/
def parM (l : List UInt8) : N × Int := match progM l with
  | some x => (x, 0)
  | none => (O, 4)
theorem bs_toList (l : List UInt8) : (bs l).toList = l := by simp [bs, ByteArray.toList_eq]
theorem prS_bad {x : N} (h : okB x = false) : (prS x).2 ≠ 0 := by
  unfold prS bif3
  unfold okB at h
  cases h1 : rgB x <;> cases h2 : inB x <;> simp_all
theorem ePar (M : Int) (s : ByteArray) (hs : s.size ≤ 4000000) : EvF Tryz.prog (orcL LPa) (Sg1 M) 56 [.string s] (resV (parM s.data.toList)) := by
  refine EvF.of_eq 60 fun m => ?_
  rw [treePar, Nat.ble_eq_true_of_le hs, bs_toList, show s.toList = s.data.toList from by rw [ByteArray.toList_eq]]
  unfold parM progM
  cases h1 : (readM s.data.toList).2 with
  | false => rfl
  | true =>
    cases h2 : okB (readM s.data.toList).1 with
    | false =>
      have := prS_bad h2
      rw [show ((prS (readM s.data.toList).1).2 != 0) = true by simpa using this]; rfl
    | true =>
      have e : prS (readM s.data.toList).1 = (numC (readM s.data.toList).1.nf, 0) := by unfold prS; rw [bif3_ok h2]
      rw [e]
      cases numC (readM s.data.toList).1.nf == s.data.toList <;> rfl
def cPar : Con := ⟨56, fun args => match args with
  | [.string s] => some (.ite (Nat.ble s.size 4000000) (.val (resV (parM s.data.toList))) .no)
  | _ => none⟩
theorem cPar_ok (M : Int) : ConOk M cPar := conOk_of_evF (LPa_ok M) fun args t v h hv => by
  simp only [cPar] at h
  split at h
  · rename_i s
    cases h
    obtain ⟨h1, rfl⟩ := OT.pre hv
    exact ⟨rfl, ePar M s (Nat.le_of_ble_eq_true h1)⟩
  · cases h

def dgOk (k : Nat) (n : Int) : Bool := decide (0 ≤ n) && decide (n < (10 : Int) ^ k)
def cDgt (k : Nat) : Con := ⟨117, fun args => match args with
  | [.int .i64 n] => some (.ite (dgOk k n) (.val (.string (bs (Lib.decDigits n.toNat)))) .no)
  | _ => none⟩
def tenB : List UInt8 := [48, 49, 50, 51, 52, 53, 54, 55, 56, 57]
theorem treeDgt (M : Int) (m k : Nat) (n : Int) : runK Tryz.prog (orcL [cDgt k]) (Sg1 M) (m + 60) 117 [.int .i64 n] =
    bif decide (n < 10) then (bif decide (0 ≤ n) && decide (0 ≤ w (n + 1)) && Nat.ble n.toNat (w (n + 1)).toNat && Nat.ble (w (n + 1)).toNat (bs tenB).size then some (.string ((bs tenB).extract n.toNat (w (n + 1)).toNat)) else none)
    else bif dgOk k (w (n.tdiv 10)) then (bif dgOk k (n.tmod 10) then (bif catOk (bs (Lib.decDigits (w (n.tdiv 10)).toNat)) (bs (Lib.decDigits (n.tmod 10).toNat)) then some (.string (bs (Lib.decDigits (w (n.tdiv 10)).toNat) ++ bs (Lib.decDigits (n.tmod 10).toNat))) else none) else none) else none := by kernel_rfl
theorem zeroDgt (M : Int) (m : Nat) : runK Tryz.prog (orcL []) (Sg1 M) (m + 60) 117 [.int .i64 0] = some (.string (bs [48])) := by kernel_rfl
theorem dec_len {n : Nat} (h : n ≤ 9223372036854775807) : (Lib.decDigits n).length ≤ 21 := by
  have := Lib.itoa_length_le (n : Int) (by omega) (by omega)
  rwa [Lib.itoa_nonneg] at this
theorem one_digit {n : Nat} (h : n < 10) : (bs tenB).extract n (n + 1) = bs (Lib.decDigits n) := by
  rw [Lib.decDigits_one h, ext_take, bs_list]
  have : n = 0 ∨ n = 1 ∨ n = 2 ∨ n = 3 ∨ n = 4 ∨ n = 5 ∨ n = 6 ∨ n = 7 ∨ n = 8 ∨ n = 9 := by omega
  rcases this with rfl | rfl | rfl | rfl | rfl | rfl | rfl | rfl | rfl | rfl <;> rfl
theorem cDgt_ok (M : Int) : ∀ k, k ≤ 18 → ConOk M (cDgt k)
  | 0, _ => conOk_of_evF (nil_ok (M := M)) fun args t v h hv => by
    simp only [cDgt] at h
    split at h
    · rename_i n
      cases h
      obtain ⟨h1, rfl⟩ := OT.pre hv
      simp only [dgOk, Bool.and_eq_true, decide_eq_true_eq] at h1
      have : n = 0 := by have := h1.2; simp at this; omega
      subst this
      exact ⟨rfl, EvF.of_eq 60 fun m => (zeroDgt M m).trans (by rw [show (0 : Int).toNat = 0 from rfl, Lib.decDigits_one (by omega)]; rfl)⟩
    · cases h
  | k + 1, hk => conOk_of_evF (mem_cons_ok (cDgt_ok M k (by omega)) nil_ok) fun args t v h hv => by
    simp only [cDgt] at h
    split at h
    · rename_i n
      cases h
      obtain ⟨h1, rfl⟩ := OT.pre hv
      simp only [dgOk, Bool.and_eq_true, decide_eq_true_eq] at h1
      obtain ⟨h0, h1⟩ := h1
      have h18 : (10 : Int) ^ (k + 1) ≤ 10 ^ 18 := by
        have : (10 : Nat) ^ (k + 1) ≤ 10 ^ 18 := Nat.pow_le_pow_right (by omega) hk
        exact_mod_cast this
      have hlt : n < 1000000000000000000 := by have : (10 : Int) ^ 18 = 1000000000000000000 := by decide
                                               omega
      refine ⟨rfl, EvF.of_eq 60 fun m => ?_⟩
      refine (treeDgt M m k n).trans ?_
      by_cases hs : n < 10
      · rw [decide_eq_true hs, decide_eq_true h0, w_eq (n + 1) (by omega) (by omega), decide_eq_true (show 0 ≤ n + 1 by omega), Nat.ble_eq_true_of_le (show n.toNat ≤ (n + 1).toNat by omega), bs_size, Nat.ble_eq_true_of_le (show (n + 1).toNat ≤ tenB.length by show _ ≤ 10; omega), show (n + 1).toNat = n.toNat + 1 by omega, one_digit (show n.toNat < 10 by omega)]
        rfl
      · have ht : n.tdiv 10 = ((n.toNat / 10 : Nat) : Int) := by rw [Int.tdiv_eq_ediv_of_nonneg h0]; omega
        have hm : n.tmod 10 = ((n.toNat % 10 : Nat) : Int) := by rw [Int.tmod_eq_emod_of_nonneg h0]; omega
        have hp : (10 : Int) ^ (k + 1) = 10 ^ k * 10 := Int.pow_succ ..
        have hk1 : (1 : Int) ≤ 10 ^ k := by
          have : (1 : Nat) ≤ 10 ^ k := Nat.one_le_pow _ _ (by omega)
          exact_mod_cast this
        have hkk : k ≠ 0 := by
          intro e; subst e
          simp at h1; omega
        have hk10 : (10 : Int) ≤ 10 ^ k := by
          have : (10 : Nat) ^ 1 ≤ 10 ^ k := Nat.pow_le_pow_right (by omega) (by omega)
          exact_mod_cast this
        have hw : w ((n.toNat / 10 : Nat) : Int) = ((n.toNat / 10 : Nat) : Int) := w_eq _ (by omega) (by omega)
        rw [decide_eq_false hs, ht, hm, hw]
        have d1 : dgOk k ((n.toNat / 10 : Nat) : Int) = true := by
          simp only [dgOk, Bool.and_eq_true, decide_eq_true_eq]; omega
        have d2 : dgOk k ((n.toNat % 10 : Nat) : Int) = true := by
          simp only [dgOk, Bool.and_eq_true, decide_eq_true_eq]; omega
        have l1 := dec_len (n := n.toNat / 10) (by omega)
        have l2 := dec_len (n := n.toNat % 10) (by omega)
        rw [d1, d2, Int.toNat_natCast, Int.toNat_natCast, catOk_bs (by omega), bs_cat]
        have e : Lib.decDigits n.toNat = Lib.decDigits (n.toNat / 10) ++ Lib.decDigits (n.toNat % 10) := by
          rw [Lib.decDigits, dif_neg (by omega), Lib.decDigits_one (show n.toNat % 10 < 10 by omega)]
        rw [e]; rfl
    · cases h
/- Ring: the specification's text of a number (made by mktx.py). -/

abbrev LTx : List Con := [cZer, cDgt 18]
theorem LTx_ok (M : Int) : ∀ c ∈ LTx, ConOk M c := mem_cons_ok (cZer_ok M) (mem_cons_ok (cDgt_ok M 18 (by omega)) nil_ok)
def slX (x : N) : Blk := ⟨[.int .i64 x.a, .int .i64 x.b, .int .i64 x.c, .int .i64 x.d], 3, false, none⟩
def uB : Blk := ⟨[.string (bs []), .string (bs [119]), .string (bs [119, 50]), .string (bs [119, 51])], 9, false, none⟩
noncomputable abbrev qTx (i : Nat) : Code := nthC (pcs Tryz.prog 104) i
noncomputable abbrev BTx : Code := loopOf Tryz.prog 104 0
theorem LTx_eq : pcs Tryz.prog 104 = [qTx 0, qTx 1, qTx 2, qTx 3, qTx 4, qTx 5, .block 0 (.loop BTx), qTx 7, qTx 8, qTx 9, qTx 10] := by kernel_rfl
theorem tmpsTx (x : N) : tmps0Of Tryz.prog 104 [N.v x] = N.v x :: List.replicate 64 undef := by kernel_rfl
theorem headTx (M : Int) (x : N) : evP Tryz.prog (orcL LTx) (Sg1 M) 3 (fun _ => 1000) 0 [qTx 0, qTx 1, qTx 2, qTx 3, qTx 4, qTx 5] (N.v x :: List.replicate 64 undef) [uni, pow, mxl M] (sees [1, 2, 3, 4, 5]) =
    bif x.zero then some (.ret, 65, [.pointer (some ⟨3, 0, none⟩), .string (bs [48]), undef, undef, undef], [uni, pow, mxl M, rb x]) else some (.normal, 65, [.pointer (some ⟨3, 0, none⟩), .string (bs []), .string (bs []), .slice (some ⟨4, 0, none⟩) 4 4, .int .i64 0], [uni, pow, mxl M, rb x, slX x]) := by kernel_rfl
theorem outTx (S : List Blk) (o : ByteArray) (t0 t1 t3 t4 t5 t6 t7 t8 t9 t10 t11 t12 t13 t14 t15 t16 t17 t18 t19 t20 t21 t22 t23 t24 t25 t26 t27 t28 t29 t30 t31 t32 t33 t34 t35 t36 t37 t38 t39 t40 t41 t42 t43 t44 t45 t46 t47 t48 t49 t50 t51 t52 t53 t54 t55 t56 t57 t58 t59 t60 t61 t62 t63 t64 : Value) : outOf Tryz.prog 104 [t0, t1, .string o, t3, t4, t5, t6, t7, t8, t9, t10, t11, t12, t13, t14, t15, t16, t17, t18, t19, t20, t21, t22, t23, t24, t25, t26, t27, t28, t29, t30, t31, t32, t33, t34, t35, t36, t37, t38, t39, t40, t41, t42, t43, t44, t45, t46, t47, t48, t49, t50, t51, t52, t53, t54, t55, t56, t57, t58, t59, t60, t61, t62, t63, t64] S = some (.string o) := by kernel_rfl
section
variable {α : Type}
def txU (i : Nat) (o : ByteArray) (k : ByteArray → Option α) : Option α := bif catOk o (bs (uniOf i)) then k (o ++ bs (uniOf i)) else none
def txM (i : Nat) (o : ByteArray) (m : Int) (k : ByteArray → Option α) : Option α := bif dgOk 18 m then (bif catOk o (bs (Lib.decDigits m.toNat)) then txU i (o ++ bs (Lib.decDigits m.toNat)) k else none) else none
def txD (i : Nat) (o : ByteArray) (m : Int) (k : ByteArray → Option α) : Option α := bif m != 1 then txM i o m k else match i with
  | 0 => txM i o m k
  | _ + 1 => txU i o k
def txS (i : Nat) (o : ByteArray) (n : Int) (k0 : Option α) (k : ByteArray → Option α) : Option α :=
  bif n == 0 then k0 else bif decide (n < 0) then (bif catOk o (bs [45]) then txD i (o ++ bs [45]) (w (0 - n)) k else none)
  else bif !(o.toList == (bs []).toList) then (bif catOk o (bs [43]) then txD i (o ++ bs [43]) n k else none) else txD i o n k
end
theorem rTx00 (M : Int) (x : N) (o : ByteArray) (t0 t2 t6 t7 t8 t9 t10 t11 t12 t13 t14 t15 t16 t17 t18 t19 t20 t21 t22 t23 t24 t25 t26 t27 t28 t29 t30 t31 t32 t33 t34 t35 t36 t37 t38 t39 t40 t41 t42 t43 t44 t45 t46 t47 t48 t49 t50 t51 t52 t53 t54 t55 t56 t57 t58 t59 t60 t61 t62 t63 t64 : Value) : evCodeK Tryz.prog (orcL LTx) (Sg1 M) 1060 3 BTx [t0, .pointer (some ⟨3, 0, none⟩), t2, .string o, .slice (some ⟨4, 0, none⟩) 4 4, .int .i64 0, t6, t7, t8, t9, t10, t11, t12, t13, t14, t15, t16, t17, t18, t19, t20, t21, t22, t23, t24, t25, t26, t27, t28, t29, t30, t31, t32, t33, t34, t35, t36, t37, t38, t39, t40, t41, t42, t43, t44, t45, t46, t47, t48, t49, t50, t51, t52, t53, t54, t55, t56, t57, t58, t59, t60, t61, t62, t63, t64] [uni, pow, mxl M, rb x, slX x] (sees [1, 3, 4, 5]) =
    txS 0 o x.a (some (.normal, 65, [.pointer (some ⟨3, 0, none⟩), .string o, .slice (some ⟨4, 0, none⟩) 4 4, .int .i64 1], [uni, pow, mxl M, rb x, slX x])) fun o => some (.normal, 65, [.pointer (some ⟨3, 0, none⟩), .string o, .slice (some ⟨4, 0, none⟩) 4 4, .int .i64 1], [uni, pow, mxl M, rb x, slX x, uB]) := by kernel_rfl
theorem rTx10 (M : Int) (x : N) (o : ByteArray) (t0 t2 t6 t7 t8 t9 t10 t11 t12 t13 t14 t15 t16 t17 t18 t19 t20 t21 t22 t23 t24 t25 t26 t27 t28 t29 t30 t31 t32 t33 t34 t35 t36 t37 t38 t39 t40 t41 t42 t43 t44 t45 t46 t47 t48 t49 t50 t51 t52 t53 t54 t55 t56 t57 t58 t59 t60 t61 t62 t63 t64 : Value) : evCodeK Tryz.prog (orcL LTx) (Sg1 M) 1060 3 BTx [t0, .pointer (some ⟨3, 0, none⟩), t2, .string o, .slice (some ⟨4, 0, none⟩) 4 4, .int .i64 1, t6, t7, t8, t9, t10, t11, t12, t13, t14, t15, t16, t17, t18, t19, t20, t21, t22, t23, t24, t25, t26, t27, t28, t29, t30, t31, t32, t33, t34, t35, t36, t37, t38, t39, t40, t41, t42, t43, t44, t45, t46, t47, t48, t49, t50, t51, t52, t53, t54, t55, t56, t57, t58, t59, t60, t61, t62, t63, t64] [uni, pow, mxl M, rb x, slX x] (sees [1, 3, 4, 5]) =
    txS 1 o x.b (some (.normal, 65, [.pointer (some ⟨3, 0, none⟩), .string o, .slice (some ⟨4, 0, none⟩) 4 4, .int .i64 2], [uni, pow, mxl M, rb x, slX x])) fun o => some (.normal, 65, [.pointer (some ⟨3, 0, none⟩), .string o, .slice (some ⟨4, 0, none⟩) 4 4, .int .i64 2], [uni, pow, mxl M, rb x, slX x, uB]) := by kernel_rfl
theorem rTx11 (M : Int) (x : N) (o : ByteArray) (t0 t2 t6 t7 t8 t9 t10 t11 t12 t13 t14 t15 t16 t17 t18 t19 t20 t21 t22 t23 t24 t25 t26 t27 t28 t29 t30 t31 t32 t33 t34 t35 t36 t37 t38 t39 t40 t41 t42 t43 t44 t45 t46 t47 t48 t49 t50 t51 t52 t53 t54 t55 t56 t57 t58 t59 t60 t61 t62 t63 t64 : Value) : evCodeK Tryz.prog (orcL LTx) (Sg1 M) 1060 3 BTx [t0, .pointer (some ⟨3, 0, none⟩), t2, .string o, .slice (some ⟨4, 0, none⟩) 4 4, .int .i64 1, t6, t7, t8, t9, t10, t11, t12, t13, t14, t15, t16, t17, t18, t19, t20, t21, t22, t23, t24, t25, t26, t27, t28, t29, t30, t31, t32, t33, t34, t35, t36, t37, t38, t39, t40, t41, t42, t43, t44, t45, t46, t47, t48, t49, t50, t51, t52, t53, t54, t55, t56, t57, t58, t59, t60, t61, t62, t63, t64] [uni, pow, mxl M, rb x, slX x, uB] (sees [1, 3, 4, 5]) =
    txS 1 o x.b (some (.normal, 65, [.pointer (some ⟨3, 0, none⟩), .string o, .slice (some ⟨4, 0, none⟩) 4 4, .int .i64 2], [uni, pow, mxl M, rb x, slX x, uB])) fun o => some (.normal, 65, [.pointer (some ⟨3, 0, none⟩), .string o, .slice (some ⟨4, 0, none⟩) 4 4, .int .i64 2], [uni, pow, mxl M, rb x, slX x, uB, uB]) := by kernel_rfl
theorem rTx20 (M : Int) (x : N) (o : ByteArray) (t0 t2 t6 t7 t8 t9 t10 t11 t12 t13 t14 t15 t16 t17 t18 t19 t20 t21 t22 t23 t24 t25 t26 t27 t28 t29 t30 t31 t32 t33 t34 t35 t36 t37 t38 t39 t40 t41 t42 t43 t44 t45 t46 t47 t48 t49 t50 t51 t52 t53 t54 t55 t56 t57 t58 t59 t60 t61 t62 t63 t64 : Value) : evCodeK Tryz.prog (orcL LTx) (Sg1 M) 1060 3 BTx [t0, .pointer (some ⟨3, 0, none⟩), t2, .string o, .slice (some ⟨4, 0, none⟩) 4 4, .int .i64 2, t6, t7, t8, t9, t10, t11, t12, t13, t14, t15, t16, t17, t18, t19, t20, t21, t22, t23, t24, t25, t26, t27, t28, t29, t30, t31, t32, t33, t34, t35, t36, t37, t38, t39, t40, t41, t42, t43, t44, t45, t46, t47, t48, t49, t50, t51, t52, t53, t54, t55, t56, t57, t58, t59, t60, t61, t62, t63, t64] [uni, pow, mxl M, rb x, slX x] (sees [1, 3, 4, 5]) =
    txS 2 o x.c (some (.normal, 65, [.pointer (some ⟨3, 0, none⟩), .string o, .slice (some ⟨4, 0, none⟩) 4 4, .int .i64 3], [uni, pow, mxl M, rb x, slX x])) fun o => some (.normal, 65, [.pointer (some ⟨3, 0, none⟩), .string o, .slice (some ⟨4, 0, none⟩) 4 4, .int .i64 3], [uni, pow, mxl M, rb x, slX x, uB]) := by kernel_rfl
theorem rTx21 (M : Int) (x : N) (o : ByteArray) (t0 t2 t6 t7 t8 t9 t10 t11 t12 t13 t14 t15 t16 t17 t18 t19 t20 t21 t22 t23 t24 t25 t26 t27 t28 t29 t30 t31 t32 t33 t34 t35 t36 t37 t38 t39 t40 t41 t42 t43 t44 t45 t46 t47 t48 t49 t50 t51 t52 t53 t54 t55 t56 t57 t58 t59 t60 t61 t62 t63 t64 : Value) : evCodeK Tryz.prog (orcL LTx) (Sg1 M) 1060 3 BTx [t0, .pointer (some ⟨3, 0, none⟩), t2, .string o, .slice (some ⟨4, 0, none⟩) 4 4, .int .i64 2, t6, t7, t8, t9, t10, t11, t12, t13, t14, t15, t16, t17, t18, t19, t20, t21, t22, t23, t24, t25, t26, t27, t28, t29, t30, t31, t32, t33, t34, t35, t36, t37, t38, t39, t40, t41, t42, t43, t44, t45, t46, t47, t48, t49, t50, t51, t52, t53, t54, t55, t56, t57, t58, t59, t60, t61, t62, t63, t64] [uni, pow, mxl M, rb x, slX x, uB] (sees [1, 3, 4, 5]) =
    txS 2 o x.c (some (.normal, 65, [.pointer (some ⟨3, 0, none⟩), .string o, .slice (some ⟨4, 0, none⟩) 4 4, .int .i64 3], [uni, pow, mxl M, rb x, slX x, uB])) fun o => some (.normal, 65, [.pointer (some ⟨3, 0, none⟩), .string o, .slice (some ⟨4, 0, none⟩) 4 4, .int .i64 3], [uni, pow, mxl M, rb x, slX x, uB, uB]) := by kernel_rfl
theorem rTx22 (M : Int) (x : N) (o : ByteArray) (t0 t2 t6 t7 t8 t9 t10 t11 t12 t13 t14 t15 t16 t17 t18 t19 t20 t21 t22 t23 t24 t25 t26 t27 t28 t29 t30 t31 t32 t33 t34 t35 t36 t37 t38 t39 t40 t41 t42 t43 t44 t45 t46 t47 t48 t49 t50 t51 t52 t53 t54 t55 t56 t57 t58 t59 t60 t61 t62 t63 t64 : Value) : evCodeK Tryz.prog (orcL LTx) (Sg1 M) 1060 3 BTx [t0, .pointer (some ⟨3, 0, none⟩), t2, .string o, .slice (some ⟨4, 0, none⟩) 4 4, .int .i64 2, t6, t7, t8, t9, t10, t11, t12, t13, t14, t15, t16, t17, t18, t19, t20, t21, t22, t23, t24, t25, t26, t27, t28, t29, t30, t31, t32, t33, t34, t35, t36, t37, t38, t39, t40, t41, t42, t43, t44, t45, t46, t47, t48, t49, t50, t51, t52, t53, t54, t55, t56, t57, t58, t59, t60, t61, t62, t63, t64] [uni, pow, mxl M, rb x, slX x, uB, uB] (sees [1, 3, 4, 5]) =
    txS 2 o x.c (some (.normal, 65, [.pointer (some ⟨3, 0, none⟩), .string o, .slice (some ⟨4, 0, none⟩) 4 4, .int .i64 3], [uni, pow, mxl M, rb x, slX x, uB, uB])) fun o => some (.normal, 65, [.pointer (some ⟨3, 0, none⟩), .string o, .slice (some ⟨4, 0, none⟩) 4 4, .int .i64 3], [uni, pow, mxl M, rb x, slX x, uB, uB, uB]) := by kernel_rfl
theorem rTx30 (M : Int) (x : N) (o : ByteArray) (t0 t2 t6 t7 t8 t9 t10 t11 t12 t13 t14 t15 t16 t17 t18 t19 t20 t21 t22 t23 t24 t25 t26 t27 t28 t29 t30 t31 t32 t33 t34 t35 t36 t37 t38 t39 t40 t41 t42 t43 t44 t45 t46 t47 t48 t49 t50 t51 t52 t53 t54 t55 t56 t57 t58 t59 t60 t61 t62 t63 t64 : Value) : evCodeK Tryz.prog (orcL LTx) (Sg1 M) 1060 3 BTx [t0, .pointer (some ⟨3, 0, none⟩), t2, .string o, .slice (some ⟨4, 0, none⟩) 4 4, .int .i64 3, t6, t7, t8, t9, t10, t11, t12, t13, t14, t15, t16, t17, t18, t19, t20, t21, t22, t23, t24, t25, t26, t27, t28, t29, t30, t31, t32, t33, t34, t35, t36, t37, t38, t39, t40, t41, t42, t43, t44, t45, t46, t47, t48, t49, t50, t51, t52, t53, t54, t55, t56, t57, t58, t59, t60, t61, t62, t63, t64] [uni, pow, mxl M, rb x, slX x] (sees [1, 3, 4, 5]) =
    txS 3 o x.d (some (.normal, 65, [.pointer (some ⟨3, 0, none⟩), .string o, .slice (some ⟨4, 0, none⟩) 4 4, .int .i64 4], [uni, pow, mxl M, rb x, slX x])) fun o => some (.normal, 65, [.pointer (some ⟨3, 0, none⟩), .string o, .slice (some ⟨4, 0, none⟩) 4 4, .int .i64 4], [uni, pow, mxl M, rb x, slX x, uB]) := by kernel_rfl
theorem rTx31 (M : Int) (x : N) (o : ByteArray) (t0 t2 t6 t7 t8 t9 t10 t11 t12 t13 t14 t15 t16 t17 t18 t19 t20 t21 t22 t23 t24 t25 t26 t27 t28 t29 t30 t31 t32 t33 t34 t35 t36 t37 t38 t39 t40 t41 t42 t43 t44 t45 t46 t47 t48 t49 t50 t51 t52 t53 t54 t55 t56 t57 t58 t59 t60 t61 t62 t63 t64 : Value) : evCodeK Tryz.prog (orcL LTx) (Sg1 M) 1060 3 BTx [t0, .pointer (some ⟨3, 0, none⟩), t2, .string o, .slice (some ⟨4, 0, none⟩) 4 4, .int .i64 3, t6, t7, t8, t9, t10, t11, t12, t13, t14, t15, t16, t17, t18, t19, t20, t21, t22, t23, t24, t25, t26, t27, t28, t29, t30, t31, t32, t33, t34, t35, t36, t37, t38, t39, t40, t41, t42, t43, t44, t45, t46, t47, t48, t49, t50, t51, t52, t53, t54, t55, t56, t57, t58, t59, t60, t61, t62, t63, t64] [uni, pow, mxl M, rb x, slX x, uB] (sees [1, 3, 4, 5]) =
    txS 3 o x.d (some (.normal, 65, [.pointer (some ⟨3, 0, none⟩), .string o, .slice (some ⟨4, 0, none⟩) 4 4, .int .i64 4], [uni, pow, mxl M, rb x, slX x, uB])) fun o => some (.normal, 65, [.pointer (some ⟨3, 0, none⟩), .string o, .slice (some ⟨4, 0, none⟩) 4 4, .int .i64 4], [uni, pow, mxl M, rb x, slX x, uB, uB]) := by kernel_rfl
theorem rTx32 (M : Int) (x : N) (o : ByteArray) (t0 t2 t6 t7 t8 t9 t10 t11 t12 t13 t14 t15 t16 t17 t18 t19 t20 t21 t22 t23 t24 t25 t26 t27 t28 t29 t30 t31 t32 t33 t34 t35 t36 t37 t38 t39 t40 t41 t42 t43 t44 t45 t46 t47 t48 t49 t50 t51 t52 t53 t54 t55 t56 t57 t58 t59 t60 t61 t62 t63 t64 : Value) : evCodeK Tryz.prog (orcL LTx) (Sg1 M) 1060 3 BTx [t0, .pointer (some ⟨3, 0, none⟩), t2, .string o, .slice (some ⟨4, 0, none⟩) 4 4, .int .i64 3, t6, t7, t8, t9, t10, t11, t12, t13, t14, t15, t16, t17, t18, t19, t20, t21, t22, t23, t24, t25, t26, t27, t28, t29, t30, t31, t32, t33, t34, t35, t36, t37, t38, t39, t40, t41, t42, t43, t44, t45, t46, t47, t48, t49, t50, t51, t52, t53, t54, t55, t56, t57, t58, t59, t60, t61, t62, t63, t64] [uni, pow, mxl M, rb x, slX x, uB, uB] (sees [1, 3, 4, 5]) =
    txS 3 o x.d (some (.normal, 65, [.pointer (some ⟨3, 0, none⟩), .string o, .slice (some ⟨4, 0, none⟩) 4 4, .int .i64 4], [uni, pow, mxl M, rb x, slX x, uB, uB])) fun o => some (.normal, 65, [.pointer (some ⟨3, 0, none⟩), .string o, .slice (some ⟨4, 0, none⟩) 4 4, .int .i64 4], [uni, pow, mxl M, rb x, slX x, uB, uB, uB]) := by kernel_rfl
theorem rTx33 (M : Int) (x : N) (o : ByteArray) (t0 t2 t6 t7 t8 t9 t10 t11 t12 t13 t14 t15 t16 t17 t18 t19 t20 t21 t22 t23 t24 t25 t26 t27 t28 t29 t30 t31 t32 t33 t34 t35 t36 t37 t38 t39 t40 t41 t42 t43 t44 t45 t46 t47 t48 t49 t50 t51 t52 t53 t54 t55 t56 t57 t58 t59 t60 t61 t62 t63 t64 : Value) : evCodeK Tryz.prog (orcL LTx) (Sg1 M) 1060 3 BTx [t0, .pointer (some ⟨3, 0, none⟩), t2, .string o, .slice (some ⟨4, 0, none⟩) 4 4, .int .i64 3, t6, t7, t8, t9, t10, t11, t12, t13, t14, t15, t16, t17, t18, t19, t20, t21, t22, t23, t24, t25, t26, t27, t28, t29, t30, t31, t32, t33, t34, t35, t36, t37, t38, t39, t40, t41, t42, t43, t44, t45, t46, t47, t48, t49, t50, t51, t52, t53, t54, t55, t56, t57, t58, t59, t60, t61, t62, t63, t64] [uni, pow, mxl M, rb x, slX x, uB, uB, uB] (sees [1, 3, 4, 5]) =
    txS 3 o x.d (some (.normal, 65, [.pointer (some ⟨3, 0, none⟩), .string o, .slice (some ⟨4, 0, none⟩) 4 4, .int .i64 4], [uni, pow, mxl M, rb x, slX x, uB, uB, uB])) fun o => some (.normal, 65, [.pointer (some ⟨3, 0, none⟩), .string o, .slice (some ⟨4, 0, none⟩) 4 4, .int .i64 4], [uni, pow, mxl M, rb x, slX x, uB, uB, uB, uB]) := by kernel_rfl
theorem rTx4 (M : Int) (o : ByteArray) (S : List Blk) (t0 t2 t6 t7 t8 t9 t10 t11 t12 t13 t14 t15 t16 t17 t18 t19 t20 t21 t22 t23 t24 t25 t26 t27 t28 t29 t30 t31 t32 t33 t34 t35 t36 t37 t38 t39 t40 t41 t42 t43 t44 t45 t46 t47 t48 t49 t50 t51 t52 t53 t54 t55 t56 t57 t58 t59 t60 t61 t62 t63 t64 : Value) : evCodeK Tryz.prog (orcL LTx) (Sg1 M) 1060 3 BTx [t0, .pointer (some ⟨3, 0, none⟩), t2, .string o, .slice (some ⟨4, 0, none⟩) 4 4, .int .i64 4, t6, t7, t8, t9, t10, t11, t12, t13, t14, t15, t16, t17, t18, t19, t20, t21, t22, t23, t24, t25, t26, t27, t28, t29, t30, t31, t32, t33, t34, t35, t36, t37, t38, t39, t40, t41, t42, t43, t44, t45, t46, t47, t48, t49, t50, t51, t52, t53, t54, t55, t56, t57, t58, t59, t60, t61, t62, t63, t64] S (sees [1, 3, 4, 5]) = some (.exit 0, 65, [.pointer (some ⟨3, 0, none⟩), .string o, .slice (some ⟨4, 0, none⟩) 4 4, .int .i64 4], S) := by kernel_rfl
theorem tailTx (M : Int) (x : N) (o : ByteArray) (S : List Blk) (t0 t2 t6 t7 t8 t9 t10 t11 t12 t13 t14 t15 t16 t17 t18 t19 t20 t21 t22 t23 t24 t25 t26 t27 t28 t29 t30 t31 t32 t33 t34 t35 t36 t37 t38 t39 t40 t41 t42 t43 t44 t45 t46 t47 t48 t49 t50 t51 t52 t53 t54 t55 t56 t57 t58 t59 t60 t61 t62 t63 t64 : Value) : evP Tryz.prog (orcL LTx) (Sg1 M) 3 (fun _ => 1000) 0 [qTx 7, qTx 8, qTx 9, qTx 10] [t0, .pointer (some ⟨3, 0, none⟩), t2, .string o, .slice (some ⟨4, 0, none⟩) 4 4, .int .i64 4, t6, t7, t8, t9, t10, t11, t12, t13, t14, t15, t16, t17, t18, t19, t20, t21, t22, t23, t24, t25, t26, t27, t28, t29, t30, t31, t32, t33, t34, t35, t36, t37, t38, t39, t40, t41, t42, t43, t44, t45, t46, t47, t48, t49, t50, t51, t52, t53, t54, t55, t56, t57, t58, t59, t60, t61, t62, t63, t64] (uni :: pow :: mxl M :: rb x :: S) (outs Tryz.prog 104) =
    bif decide (x.k > 0) then (bif catOk (bs [40]) o then (bif catOk (bs [40] ++ o) (bs [41, 47, 114]) then (bif dgOk 18 x.k then (bif catOk (bs [40] ++ o ++ bs [41, 47, 114]) (bs (Lib.decDigits x.k.toNat)) then some (.string (bs [40] ++ o ++ bs [41, 47, 114] ++ bs (Lib.decDigits x.k.toNat)), uni :: pow :: mxl M :: rb x :: S) else none) else none) else none) else none)
    else some (.string o, uni :: pow :: mxl M :: rb x :: S) := by kernel_rfl
/- Ring: the specification's text of a number, whole (made by mktx.py). -/

theorem txU_eq {α : Type} {i : Nat} (hi : i < 4) {a : List UInt8} (ha : a.length ≤ 400) (k : ByteArray → Option α) : txU i (bs a) k = k (bs (a ++ uniOf i)) := by
  have hu : (uniOf i).length ≤ 2 := by
    have : i = 0 ∨ i = 1 ∨ i = 2 ∨ i = 3 := by omega
    rcases this with rfl | rfl | rfl | rfl <;> decide
  unfold txU
  rw [catOk_bs (by omega), bs_cat]; rfl
theorem txM_eq {α : Type} {i : Nat} (hi : i < 4) {a : List UInt8} (ha : a.length ≤ 300) {m : Nat} (hm : m ≤ 1073741824) (k : ByteArray → Option α) : txM i (bs a) (m : Int) k = k (bs (a ++ (Lib.decDigits m ++ uniOf i))) := by
  have hd := dec_len (n := m) (by omega)
  have h1 : dgOk 18 (m : Int) = true := by
    unfold dgOk
    rw [decide_eq_true (show (0 : Int) ≤ m by omega), show (10 : Int) ^ 18 = 1000000000000000000 by decide, decide_eq_true (show (m : Int) < 1000000000000000000 by omega)]; rfl
  unfold txM
  rw [h1, Int.toNat_natCast, catOk_bs (by omega), bs_cat, txU_eq hi (by simp only [List.length_append]; omega), List.append_assoc]; rfl
theorem txD_eq {α : Type} {i : Nat} (hi : i < 4) {a : List UInt8} (ha : a.length ≤ 300) {n m : Int} (hm : m = (n.natAbs : Int)) (hn : n.natAbs ≤ 1073741824) (k : ByteArray → Option α) : txD i (bs a) m k = k (bs (a ++ (mgT i n ++ uniOf i))) := by
  have key := txM_eq hi ha hn k
  rw [← hm] at key
  unfold txD mgT
  by_cases h1 : n.natAbs = 1
  · have hb : (n.natAbs == 1) = true := by simpa using h1
    have hm1 : (m != 1) = false := by rw [hm, h1]; rfl
    rw [hb, hm1]
    cases i with
    | zero => exact key
    | succ j => exact txU_eq hi (by omega) k
  · have hb : (n.natAbs == 1) = false := by simpa using h1
    have hm1 : (m != 1) = true := by rw [bne_iff_ne]; omega
    rw [hb, hm1, Bool.and_false]
    exact key
theorem txS_eq {α : Type} {i : Nat} (hi : i < 4) {a : List UInt8} (ha : a.length ≤ 200) {n : Int} (hn : n.natAbs ≤ 1073741824) (k0 : Option α) (k : ByteArray → Option α) : txS i (bs a) n k0 k = bif n == 0 then k0 else k (bs (a ++ pieceT (!a.isEmpty) i n)) := by
  unfold txS pieceT sgT
  cases hz : n == 0 with
  | true => rfl
  | false =>
    have hz' : n ≠ 0 := by simpa using hz
    simp only [cond_false]
    by_cases hneg : n < 0
    · have hw : w (0 - n) = 0 - n := w_eq _ (by omega) (by omega)
      rw [decide_eq_true hneg, catOk_bs (by simp; omega), bs_cat, hw, txD_eq hi (by simp; omega) (n := n) (by omega) hn, List.append_assoc]; rfl
    · rw [decide_eq_false hneg, bs_empty]
      simp only [cond_false]
      cases a.isEmpty with
      | true => rw [txD_eq hi (by omega) (n := n) (by omega) hn]; rfl
      | false => rw [catOk_bs (by simp; omega), bs_cat, txD_eq hi (by simp; omega) (n := n) (by omega) hn, List.append_assoc]; rfl
def accX (x : N) : Nat → List UInt8
  | 0 => []
  | i + 1 => accX x i ++ pz (!(accX x i).isEmpty) i (getC x i)
theorem getC_big {x : N} (h : big 1073741824 x) {i : Nat} (hi : i < 4) : (getC x i).natAbs ≤ 1073741824 := by
  obtain ⟨h1, h2, h3, h4⟩ := h
  have : i = 0 ∨ i = 1 ∨ i = 2 ∨ i = 3 := by omega
  rcases this with rfl | rfl | rfl | rfl
  · show x.a.natAbs ≤ _; omega
  · show x.b.natAbs ≤ _; omega
  · show x.c.natAbs ≤ _; omega
  · show x.d.natAbs ≤ _; omega
theorem accX_len {x : N} (h : big 1073741824 x) : ∀ i, i ≤ 4 → (accX x i).length ≤ 25 * i
  | 0, _ => Nat.le_refl _
  | i + 1, hi => by
    have a := accX_len h i (by omega)
    have b := pz_len (!(accX x i).isEmpty) (i := i) (by omega) (getC_big h (i := i) (by omega))
    show (accX x i ++ pz (!(accX x i).isEmpty) i (getC x i)).length ≤ _
    rw [List.length_append]; omega
theorem accX_terms (x : N) : accX x 4 = terms x := by
  show (((([] ++ pz false 0 x.a) ++ pz _ 1 x.b) ++ pz _ 2 x.c) ++ pz _ 3 x.d) = _
  unfold terms
  simp only [List.nil_append]
  show _ = pz false 0 x.a ++ (pz _ 1 x.b ++ (pz _ 2 x.c ++ pz _ 3 x.d))
  simp only [← List.append_assoc]
  rfl
theorem accX_step {x : N} (h : big 1073741824 x) {α : Type} {i : Nat} (hi : i < 4) (k0 : Option α) (k : ByteArray → Option α) : txS i (bs (accX x i)) (getC x i) k0 k = bif getC x i == 0 then k0 else k (bs (accX x (i + 1))) := by
  have hl := accX_len h i (by omega)
  rw [txS_eq hi (by omega) (getC_big h hi)]
  show _ = bif getC x i == 0 then k0 else k (bs (accX x i ++ pz (!(accX x i).isEmpty) i (getC x i)))
  unfold pz
  cases getC x i == 0 <;> rfl
theorem accX_same {x : N} {i : Nat} (h : (getC x i == 0) = true) : accX x (i + 1) = accX x i := by
  show accX x i ++ pz (!(accX x i).isEmpty) i (getC x i) = _
  unfold pz
  rw [h]; simp
def heapX (M : Int) (x : N) (e : Nat) : List Blk := [uni, pow, mxl M, rb x, slX x] ++ List.replicate e uB
def StX (M : Int) (x : N) (i : Nat) (T : List Value) (S : List Blk) : Prop := ∃ e, e ≤ i ∧ T.length = 65 ∧ picks T [1, 3, 4, 5] = [.pointer (some ⟨3, 0, none⟩), .string (bs (accX x i)), .slice (some ⟨4, 0, none⟩) 4 4, .int .i64 (i : Int)] ∧ S = heapX M x e
theorem sTx00 (M : Int) {x : N} (h : big 1073741824 x) (T : List Value) (hT : T.length = 65) (hp : picks T [1, 3, 4, 5] = [.pointer (some ⟨3, 0, none⟩), .string (bs (accX x 0)), .slice (some ⟨4, 0, none⟩) 4 4, .int .i64 ((0 : Nat) : Int)]) :
    WpW Tryz.prog (Sg1 M) 3 3 BTx T (heapX M x 0) fun y T' S' => y = .normal ∧ StX M x 1 T' S' := by
  have hp : [nthD T 1, nthD T 3, nthD T 4, nthD T 5] = _ := hp
  injection hp with h1 hp
  injection hp with h3 hp
  injection hp with h4 hp
  injection hp with h5 hp
  have eT : T = [nthD T 0, .pointer (some ⟨3, 0, none⟩), nthD T 2, .string (bs (accX x 0)), .slice (some ⟨4, 0, none⟩) 4 4, .int .i64 ((0 : Nat) : Int), nthD T 6, nthD T 7, nthD T 8, nthD T 9, nthD T 10, nthD T 11, nthD T 12, nthD T 13, nthD T 14, nthD T 15, nthD T 16, nthD T 17, nthD T 18, nthD T 19, nthD T 20, nthD T 21, nthD T 22, nthD T 23, nthD T 24, nthD T 25, nthD T 26, nthD T 27, nthD T 28, nthD T 29, nthD T 30, nthD T 31, nthD T 32, nthD T 33, nthD T 34, nthD T 35, nthD T 36, nthD T 37, nthD T 38, nthD T 39, nthD T 40, nthD T 41, nthD T 42, nthD T 43, nthD T 44, nthD T 45, nthD T 46, nthD T 47, nthD T 48, nthD T 49, nthD T 50, nthD T 51, nthD T 52, nthD T 53, nthD T 54, nthD T 55, nthD T 56, nthD T 57, nthD T 58, nthD T 59, nthD T 60, nthD T 61, nthD T 62, nthD T 63, nthD T 64] := (spread hT).trans (by
    show [nthD T 0, nthD T 1, nthD T 2, nthD T 3, nthD T 4, nthD T 5, nthD T 6, nthD T 7, nthD T 8, nthD T 9, nthD T 10, nthD T 11, nthD T 12, nthD T 13, nthD T 14, nthD T 15, nthD T 16, nthD T 17, nthD T 18, nthD T 19, nthD T 20, nthD T 21, nthD T 22, nthD T 23, nthD T 24, nthD T 25, nthD T 26, nthD T 27, nthD T 28, nthD T 29, nthD T 30, nthD T 31, nthD T 32, nthD T 33, nthD T 34, nthD T 35, nthD T 36, nthD T 37, nthD T 38, nthD T 39, nthD T 40, nthD T 41, nthD T 42, nthD T 43, nthD T 44, nthD T 45, nthD T 46, nthD T 47, nthD T 48, nthD T 49, nthD T 50, nthD T 51, nthD T 52, nthD T 53, nthD T 54, nthD T 55, nthD T 56, nthD T 57, nthD T 58, nthD T 59, nthD T 60, nthD T 61, nthD T 62, nthD T 63, nthD T 64] = _
    rw [h1, h3, h4, h5])
  rw [eT]
  have hR := (rTx00 M x (bs (accX x 0)) (nthD T 0) (nthD T 2) (nthD T 6) (nthD T 7) (nthD T 8) (nthD T 9) (nthD T 10) (nthD T 11) (nthD T 12) (nthD T 13) (nthD T 14) (nthD T 15) (nthD T 16) (nthD T 17) (nthD T 18) (nthD T 19) (nthD T 20) (nthD T 21) (nthD T 22) (nthD T 23) (nthD T 24) (nthD T 25) (nthD T 26) (nthD T 27) (nthD T 28) (nthD T 29) (nthD T 30) (nthD T 31) (nthD T 32) (nthD T 33) (nthD T 34) (nthD T 35) (nthD T 36) (nthD T 37) (nthD T 38) (nthD T 39) (nthD T 40) (nthD T 41) (nthD T 42) (nthD T 43) (nthD T 44) (nthD T 45) (nthD T 46) (nthD T 47) (nthD T 48) (nthD T 49) (nthD T 50) (nthD T 51) (nthD T 52) (nthD T 53) (nthD T 54) (nthD T 55) (nthD T 56) (nthD T 57) (nthD T 58) (nthD T 59) (nthD T 60) (nthD T 61) (nthD T 62) (nthD T 63) (nthD T 64)).trans (accX_step h (i := 0) (by omega) _ _)
  cases hz : getC x 0 == 0 with
  | true =>
    rw [hz] at hR
    exact WpW.see (sg1 M) (orcOk_of (LTx_ok M)) (Nat.le_refl _) hR fun T' hT' hp' => ⟨rfl, 0, by omega, hT', by rw [accX_same hz]; exact hp', rfl⟩
  | false =>
    rw [hz] at hR
    exact WpW.see (sg1 M) (orcOk_of (LTx_ok M)) (Nat.le_refl _) hR fun T' hT' hp' => ⟨rfl, 1, by omega, hT', hp', rfl⟩
theorem sTx10 (M : Int) {x : N} (h : big 1073741824 x) (T : List Value) (hT : T.length = 65) (hp : picks T [1, 3, 4, 5] = [.pointer (some ⟨3, 0, none⟩), .string (bs (accX x 1)), .slice (some ⟨4, 0, none⟩) 4 4, .int .i64 ((1 : Nat) : Int)]) :
    WpW Tryz.prog (Sg1 M) 3 3 BTx T (heapX M x 0) fun y T' S' => y = .normal ∧ StX M x 2 T' S' := by
  have hp : [nthD T 1, nthD T 3, nthD T 4, nthD T 5] = _ := hp
  injection hp with h1 hp
  injection hp with h3 hp
  injection hp with h4 hp
  injection hp with h5 hp
  have eT : T = [nthD T 0, .pointer (some ⟨3, 0, none⟩), nthD T 2, .string (bs (accX x 1)), .slice (some ⟨4, 0, none⟩) 4 4, .int .i64 ((1 : Nat) : Int), nthD T 6, nthD T 7, nthD T 8, nthD T 9, nthD T 10, nthD T 11, nthD T 12, nthD T 13, nthD T 14, nthD T 15, nthD T 16, nthD T 17, nthD T 18, nthD T 19, nthD T 20, nthD T 21, nthD T 22, nthD T 23, nthD T 24, nthD T 25, nthD T 26, nthD T 27, nthD T 28, nthD T 29, nthD T 30, nthD T 31, nthD T 32, nthD T 33, nthD T 34, nthD T 35, nthD T 36, nthD T 37, nthD T 38, nthD T 39, nthD T 40, nthD T 41, nthD T 42, nthD T 43, nthD T 44, nthD T 45, nthD T 46, nthD T 47, nthD T 48, nthD T 49, nthD T 50, nthD T 51, nthD T 52, nthD T 53, nthD T 54, nthD T 55, nthD T 56, nthD T 57, nthD T 58, nthD T 59, nthD T 60, nthD T 61, nthD T 62, nthD T 63, nthD T 64] := (spread hT).trans (by
    show [nthD T 0, nthD T 1, nthD T 2, nthD T 3, nthD T 4, nthD T 5, nthD T 6, nthD T 7, nthD T 8, nthD T 9, nthD T 10, nthD T 11, nthD T 12, nthD T 13, nthD T 14, nthD T 15, nthD T 16, nthD T 17, nthD T 18, nthD T 19, nthD T 20, nthD T 21, nthD T 22, nthD T 23, nthD T 24, nthD T 25, nthD T 26, nthD T 27, nthD T 28, nthD T 29, nthD T 30, nthD T 31, nthD T 32, nthD T 33, nthD T 34, nthD T 35, nthD T 36, nthD T 37, nthD T 38, nthD T 39, nthD T 40, nthD T 41, nthD T 42, nthD T 43, nthD T 44, nthD T 45, nthD T 46, nthD T 47, nthD T 48, nthD T 49, nthD T 50, nthD T 51, nthD T 52, nthD T 53, nthD T 54, nthD T 55, nthD T 56, nthD T 57, nthD T 58, nthD T 59, nthD T 60, nthD T 61, nthD T 62, nthD T 63, nthD T 64] = _
    rw [h1, h3, h4, h5])
  rw [eT]
  have hR := (rTx10 M x (bs (accX x 1)) (nthD T 0) (nthD T 2) (nthD T 6) (nthD T 7) (nthD T 8) (nthD T 9) (nthD T 10) (nthD T 11) (nthD T 12) (nthD T 13) (nthD T 14) (nthD T 15) (nthD T 16) (nthD T 17) (nthD T 18) (nthD T 19) (nthD T 20) (nthD T 21) (nthD T 22) (nthD T 23) (nthD T 24) (nthD T 25) (nthD T 26) (nthD T 27) (nthD T 28) (nthD T 29) (nthD T 30) (nthD T 31) (nthD T 32) (nthD T 33) (nthD T 34) (nthD T 35) (nthD T 36) (nthD T 37) (nthD T 38) (nthD T 39) (nthD T 40) (nthD T 41) (nthD T 42) (nthD T 43) (nthD T 44) (nthD T 45) (nthD T 46) (nthD T 47) (nthD T 48) (nthD T 49) (nthD T 50) (nthD T 51) (nthD T 52) (nthD T 53) (nthD T 54) (nthD T 55) (nthD T 56) (nthD T 57) (nthD T 58) (nthD T 59) (nthD T 60) (nthD T 61) (nthD T 62) (nthD T 63) (nthD T 64)).trans (accX_step h (i := 1) (by omega) _ _)
  cases hz : getC x 1 == 0 with
  | true =>
    rw [hz] at hR
    exact WpW.see (sg1 M) (orcOk_of (LTx_ok M)) (Nat.le_refl _) hR fun T' hT' hp' => ⟨rfl, 0, by omega, hT', by rw [accX_same hz]; exact hp', rfl⟩
  | false =>
    rw [hz] at hR
    exact WpW.see (sg1 M) (orcOk_of (LTx_ok M)) (Nat.le_refl _) hR fun T' hT' hp' => ⟨rfl, 1, by omega, hT', hp', rfl⟩
theorem sTx11 (M : Int) {x : N} (h : big 1073741824 x) (T : List Value) (hT : T.length = 65) (hp : picks T [1, 3, 4, 5] = [.pointer (some ⟨3, 0, none⟩), .string (bs (accX x 1)), .slice (some ⟨4, 0, none⟩) 4 4, .int .i64 ((1 : Nat) : Int)]) :
    WpW Tryz.prog (Sg1 M) 3 3 BTx T (heapX M x 1) fun y T' S' => y = .normal ∧ StX M x 2 T' S' := by
  have hp : [nthD T 1, nthD T 3, nthD T 4, nthD T 5] = _ := hp
  injection hp with h1 hp
  injection hp with h3 hp
  injection hp with h4 hp
  injection hp with h5 hp
  have eT : T = [nthD T 0, .pointer (some ⟨3, 0, none⟩), nthD T 2, .string (bs (accX x 1)), .slice (some ⟨4, 0, none⟩) 4 4, .int .i64 ((1 : Nat) : Int), nthD T 6, nthD T 7, nthD T 8, nthD T 9, nthD T 10, nthD T 11, nthD T 12, nthD T 13, nthD T 14, nthD T 15, nthD T 16, nthD T 17, nthD T 18, nthD T 19, nthD T 20, nthD T 21, nthD T 22, nthD T 23, nthD T 24, nthD T 25, nthD T 26, nthD T 27, nthD T 28, nthD T 29, nthD T 30, nthD T 31, nthD T 32, nthD T 33, nthD T 34, nthD T 35, nthD T 36, nthD T 37, nthD T 38, nthD T 39, nthD T 40, nthD T 41, nthD T 42, nthD T 43, nthD T 44, nthD T 45, nthD T 46, nthD T 47, nthD T 48, nthD T 49, nthD T 50, nthD T 51, nthD T 52, nthD T 53, nthD T 54, nthD T 55, nthD T 56, nthD T 57, nthD T 58, nthD T 59, nthD T 60, nthD T 61, nthD T 62, nthD T 63, nthD T 64] := (spread hT).trans (by
    show [nthD T 0, nthD T 1, nthD T 2, nthD T 3, nthD T 4, nthD T 5, nthD T 6, nthD T 7, nthD T 8, nthD T 9, nthD T 10, nthD T 11, nthD T 12, nthD T 13, nthD T 14, nthD T 15, nthD T 16, nthD T 17, nthD T 18, nthD T 19, nthD T 20, nthD T 21, nthD T 22, nthD T 23, nthD T 24, nthD T 25, nthD T 26, nthD T 27, nthD T 28, nthD T 29, nthD T 30, nthD T 31, nthD T 32, nthD T 33, nthD T 34, nthD T 35, nthD T 36, nthD T 37, nthD T 38, nthD T 39, nthD T 40, nthD T 41, nthD T 42, nthD T 43, nthD T 44, nthD T 45, nthD T 46, nthD T 47, nthD T 48, nthD T 49, nthD T 50, nthD T 51, nthD T 52, nthD T 53, nthD T 54, nthD T 55, nthD T 56, nthD T 57, nthD T 58, nthD T 59, nthD T 60, nthD T 61, nthD T 62, nthD T 63, nthD T 64] = _
    rw [h1, h3, h4, h5])
  rw [eT]
  have hR := (rTx11 M x (bs (accX x 1)) (nthD T 0) (nthD T 2) (nthD T 6) (nthD T 7) (nthD T 8) (nthD T 9) (nthD T 10) (nthD T 11) (nthD T 12) (nthD T 13) (nthD T 14) (nthD T 15) (nthD T 16) (nthD T 17) (nthD T 18) (nthD T 19) (nthD T 20) (nthD T 21) (nthD T 22) (nthD T 23) (nthD T 24) (nthD T 25) (nthD T 26) (nthD T 27) (nthD T 28) (nthD T 29) (nthD T 30) (nthD T 31) (nthD T 32) (nthD T 33) (nthD T 34) (nthD T 35) (nthD T 36) (nthD T 37) (nthD T 38) (nthD T 39) (nthD T 40) (nthD T 41) (nthD T 42) (nthD T 43) (nthD T 44) (nthD T 45) (nthD T 46) (nthD T 47) (nthD T 48) (nthD T 49) (nthD T 50) (nthD T 51) (nthD T 52) (nthD T 53) (nthD T 54) (nthD T 55) (nthD T 56) (nthD T 57) (nthD T 58) (nthD T 59) (nthD T 60) (nthD T 61) (nthD T 62) (nthD T 63) (nthD T 64)).trans (accX_step h (i := 1) (by omega) _ _)
  cases hz : getC x 1 == 0 with
  | true =>
    rw [hz] at hR
    exact WpW.see (sg1 M) (orcOk_of (LTx_ok M)) (Nat.le_refl _) hR fun T' hT' hp' => ⟨rfl, 1, by omega, hT', by rw [accX_same hz]; exact hp', rfl⟩
  | false =>
    rw [hz] at hR
    exact WpW.see (sg1 M) (orcOk_of (LTx_ok M)) (Nat.le_refl _) hR fun T' hT' hp' => ⟨rfl, 2, by omega, hT', hp', rfl⟩
theorem sTx20 (M : Int) {x : N} (h : big 1073741824 x) (T : List Value) (hT : T.length = 65) (hp : picks T [1, 3, 4, 5] = [.pointer (some ⟨3, 0, none⟩), .string (bs (accX x 2)), .slice (some ⟨4, 0, none⟩) 4 4, .int .i64 ((2 : Nat) : Int)]) :
    WpW Tryz.prog (Sg1 M) 3 3 BTx T (heapX M x 0) fun y T' S' => y = .normal ∧ StX M x 3 T' S' := by
  have hp : [nthD T 1, nthD T 3, nthD T 4, nthD T 5] = _ := hp
  injection hp with h1 hp
  injection hp with h3 hp
  injection hp with h4 hp
  injection hp with h5 hp
  have eT : T = [nthD T 0, .pointer (some ⟨3, 0, none⟩), nthD T 2, .string (bs (accX x 2)), .slice (some ⟨4, 0, none⟩) 4 4, .int .i64 ((2 : Nat) : Int), nthD T 6, nthD T 7, nthD T 8, nthD T 9, nthD T 10, nthD T 11, nthD T 12, nthD T 13, nthD T 14, nthD T 15, nthD T 16, nthD T 17, nthD T 18, nthD T 19, nthD T 20, nthD T 21, nthD T 22, nthD T 23, nthD T 24, nthD T 25, nthD T 26, nthD T 27, nthD T 28, nthD T 29, nthD T 30, nthD T 31, nthD T 32, nthD T 33, nthD T 34, nthD T 35, nthD T 36, nthD T 37, nthD T 38, nthD T 39, nthD T 40, nthD T 41, nthD T 42, nthD T 43, nthD T 44, nthD T 45, nthD T 46, nthD T 47, nthD T 48, nthD T 49, nthD T 50, nthD T 51, nthD T 52, nthD T 53, nthD T 54, nthD T 55, nthD T 56, nthD T 57, nthD T 58, nthD T 59, nthD T 60, nthD T 61, nthD T 62, nthD T 63, nthD T 64] := (spread hT).trans (by
    show [nthD T 0, nthD T 1, nthD T 2, nthD T 3, nthD T 4, nthD T 5, nthD T 6, nthD T 7, nthD T 8, nthD T 9, nthD T 10, nthD T 11, nthD T 12, nthD T 13, nthD T 14, nthD T 15, nthD T 16, nthD T 17, nthD T 18, nthD T 19, nthD T 20, nthD T 21, nthD T 22, nthD T 23, nthD T 24, nthD T 25, nthD T 26, nthD T 27, nthD T 28, nthD T 29, nthD T 30, nthD T 31, nthD T 32, nthD T 33, nthD T 34, nthD T 35, nthD T 36, nthD T 37, nthD T 38, nthD T 39, nthD T 40, nthD T 41, nthD T 42, nthD T 43, nthD T 44, nthD T 45, nthD T 46, nthD T 47, nthD T 48, nthD T 49, nthD T 50, nthD T 51, nthD T 52, nthD T 53, nthD T 54, nthD T 55, nthD T 56, nthD T 57, nthD T 58, nthD T 59, nthD T 60, nthD T 61, nthD T 62, nthD T 63, nthD T 64] = _
    rw [h1, h3, h4, h5])
  rw [eT]
  have hR := (rTx20 M x (bs (accX x 2)) (nthD T 0) (nthD T 2) (nthD T 6) (nthD T 7) (nthD T 8) (nthD T 9) (nthD T 10) (nthD T 11) (nthD T 12) (nthD T 13) (nthD T 14) (nthD T 15) (nthD T 16) (nthD T 17) (nthD T 18) (nthD T 19) (nthD T 20) (nthD T 21) (nthD T 22) (nthD T 23) (nthD T 24) (nthD T 25) (nthD T 26) (nthD T 27) (nthD T 28) (nthD T 29) (nthD T 30) (nthD T 31) (nthD T 32) (nthD T 33) (nthD T 34) (nthD T 35) (nthD T 36) (nthD T 37) (nthD T 38) (nthD T 39) (nthD T 40) (nthD T 41) (nthD T 42) (nthD T 43) (nthD T 44) (nthD T 45) (nthD T 46) (nthD T 47) (nthD T 48) (nthD T 49) (nthD T 50) (nthD T 51) (nthD T 52) (nthD T 53) (nthD T 54) (nthD T 55) (nthD T 56) (nthD T 57) (nthD T 58) (nthD T 59) (nthD T 60) (nthD T 61) (nthD T 62) (nthD T 63) (nthD T 64)).trans (accX_step h (i := 2) (by omega) _ _)
  cases hz : getC x 2 == 0 with
  | true =>
    rw [hz] at hR
    exact WpW.see (sg1 M) (orcOk_of (LTx_ok M)) (Nat.le_refl _) hR fun T' hT' hp' => ⟨rfl, 0, by omega, hT', by rw [accX_same hz]; exact hp', rfl⟩
  | false =>
    rw [hz] at hR
    exact WpW.see (sg1 M) (orcOk_of (LTx_ok M)) (Nat.le_refl _) hR fun T' hT' hp' => ⟨rfl, 1, by omega, hT', hp', rfl⟩
theorem sTx21 (M : Int) {x : N} (h : big 1073741824 x) (T : List Value) (hT : T.length = 65) (hp : picks T [1, 3, 4, 5] = [.pointer (some ⟨3, 0, none⟩), .string (bs (accX x 2)), .slice (some ⟨4, 0, none⟩) 4 4, .int .i64 ((2 : Nat) : Int)]) :
    WpW Tryz.prog (Sg1 M) 3 3 BTx T (heapX M x 1) fun y T' S' => y = .normal ∧ StX M x 3 T' S' := by
  have hp : [nthD T 1, nthD T 3, nthD T 4, nthD T 5] = _ := hp
  injection hp with h1 hp
  injection hp with h3 hp
  injection hp with h4 hp
  injection hp with h5 hp
  have eT : T = [nthD T 0, .pointer (some ⟨3, 0, none⟩), nthD T 2, .string (bs (accX x 2)), .slice (some ⟨4, 0, none⟩) 4 4, .int .i64 ((2 : Nat) : Int), nthD T 6, nthD T 7, nthD T 8, nthD T 9, nthD T 10, nthD T 11, nthD T 12, nthD T 13, nthD T 14, nthD T 15, nthD T 16, nthD T 17, nthD T 18, nthD T 19, nthD T 20, nthD T 21, nthD T 22, nthD T 23, nthD T 24, nthD T 25, nthD T 26, nthD T 27, nthD T 28, nthD T 29, nthD T 30, nthD T 31, nthD T 32, nthD T 33, nthD T 34, nthD T 35, nthD T 36, nthD T 37, nthD T 38, nthD T 39, nthD T 40, nthD T 41, nthD T 42, nthD T 43, nthD T 44, nthD T 45, nthD T 46, nthD T 47, nthD T 48, nthD T 49, nthD T 50, nthD T 51, nthD T 52, nthD T 53, nthD T 54, nthD T 55, nthD T 56, nthD T 57, nthD T 58, nthD T 59, nthD T 60, nthD T 61, nthD T 62, nthD T 63, nthD T 64] := (spread hT).trans (by
    show [nthD T 0, nthD T 1, nthD T 2, nthD T 3, nthD T 4, nthD T 5, nthD T 6, nthD T 7, nthD T 8, nthD T 9, nthD T 10, nthD T 11, nthD T 12, nthD T 13, nthD T 14, nthD T 15, nthD T 16, nthD T 17, nthD T 18, nthD T 19, nthD T 20, nthD T 21, nthD T 22, nthD T 23, nthD T 24, nthD T 25, nthD T 26, nthD T 27, nthD T 28, nthD T 29, nthD T 30, nthD T 31, nthD T 32, nthD T 33, nthD T 34, nthD T 35, nthD T 36, nthD T 37, nthD T 38, nthD T 39, nthD T 40, nthD T 41, nthD T 42, nthD T 43, nthD T 44, nthD T 45, nthD T 46, nthD T 47, nthD T 48, nthD T 49, nthD T 50, nthD T 51, nthD T 52, nthD T 53, nthD T 54, nthD T 55, nthD T 56, nthD T 57, nthD T 58, nthD T 59, nthD T 60, nthD T 61, nthD T 62, nthD T 63, nthD T 64] = _
    rw [h1, h3, h4, h5])
  rw [eT]
  have hR := (rTx21 M x (bs (accX x 2)) (nthD T 0) (nthD T 2) (nthD T 6) (nthD T 7) (nthD T 8) (nthD T 9) (nthD T 10) (nthD T 11) (nthD T 12) (nthD T 13) (nthD T 14) (nthD T 15) (nthD T 16) (nthD T 17) (nthD T 18) (nthD T 19) (nthD T 20) (nthD T 21) (nthD T 22) (nthD T 23) (nthD T 24) (nthD T 25) (nthD T 26) (nthD T 27) (nthD T 28) (nthD T 29) (nthD T 30) (nthD T 31) (nthD T 32) (nthD T 33) (nthD T 34) (nthD T 35) (nthD T 36) (nthD T 37) (nthD T 38) (nthD T 39) (nthD T 40) (nthD T 41) (nthD T 42) (nthD T 43) (nthD T 44) (nthD T 45) (nthD T 46) (nthD T 47) (nthD T 48) (nthD T 49) (nthD T 50) (nthD T 51) (nthD T 52) (nthD T 53) (nthD T 54) (nthD T 55) (nthD T 56) (nthD T 57) (nthD T 58) (nthD T 59) (nthD T 60) (nthD T 61) (nthD T 62) (nthD T 63) (nthD T 64)).trans (accX_step h (i := 2) (by omega) _ _)
  cases hz : getC x 2 == 0 with
  | true =>
    rw [hz] at hR
    exact WpW.see (sg1 M) (orcOk_of (LTx_ok M)) (Nat.le_refl _) hR fun T' hT' hp' => ⟨rfl, 1, by omega, hT', by rw [accX_same hz]; exact hp', rfl⟩
  | false =>
    rw [hz] at hR
    exact WpW.see (sg1 M) (orcOk_of (LTx_ok M)) (Nat.le_refl _) hR fun T' hT' hp' => ⟨rfl, 2, by omega, hT', hp', rfl⟩
theorem sTx22 (M : Int) {x : N} (h : big 1073741824 x) (T : List Value) (hT : T.length = 65) (hp : picks T [1, 3, 4, 5] = [.pointer (some ⟨3, 0, none⟩), .string (bs (accX x 2)), .slice (some ⟨4, 0, none⟩) 4 4, .int .i64 ((2 : Nat) : Int)]) :
    WpW Tryz.prog (Sg1 M) 3 3 BTx T (heapX M x 2) fun y T' S' => y = .normal ∧ StX M x 3 T' S' := by
  have hp : [nthD T 1, nthD T 3, nthD T 4, nthD T 5] = _ := hp
  injection hp with h1 hp
  injection hp with h3 hp
  injection hp with h4 hp
  injection hp with h5 hp
  have eT : T = [nthD T 0, .pointer (some ⟨3, 0, none⟩), nthD T 2, .string (bs (accX x 2)), .slice (some ⟨4, 0, none⟩) 4 4, .int .i64 ((2 : Nat) : Int), nthD T 6, nthD T 7, nthD T 8, nthD T 9, nthD T 10, nthD T 11, nthD T 12, nthD T 13, nthD T 14, nthD T 15, nthD T 16, nthD T 17, nthD T 18, nthD T 19, nthD T 20, nthD T 21, nthD T 22, nthD T 23, nthD T 24, nthD T 25, nthD T 26, nthD T 27, nthD T 28, nthD T 29, nthD T 30, nthD T 31, nthD T 32, nthD T 33, nthD T 34, nthD T 35, nthD T 36, nthD T 37, nthD T 38, nthD T 39, nthD T 40, nthD T 41, nthD T 42, nthD T 43, nthD T 44, nthD T 45, nthD T 46, nthD T 47, nthD T 48, nthD T 49, nthD T 50, nthD T 51, nthD T 52, nthD T 53, nthD T 54, nthD T 55, nthD T 56, nthD T 57, nthD T 58, nthD T 59, nthD T 60, nthD T 61, nthD T 62, nthD T 63, nthD T 64] := (spread hT).trans (by
    show [nthD T 0, nthD T 1, nthD T 2, nthD T 3, nthD T 4, nthD T 5, nthD T 6, nthD T 7, nthD T 8, nthD T 9, nthD T 10, nthD T 11, nthD T 12, nthD T 13, nthD T 14, nthD T 15, nthD T 16, nthD T 17, nthD T 18, nthD T 19, nthD T 20, nthD T 21, nthD T 22, nthD T 23, nthD T 24, nthD T 25, nthD T 26, nthD T 27, nthD T 28, nthD T 29, nthD T 30, nthD T 31, nthD T 32, nthD T 33, nthD T 34, nthD T 35, nthD T 36, nthD T 37, nthD T 38, nthD T 39, nthD T 40, nthD T 41, nthD T 42, nthD T 43, nthD T 44, nthD T 45, nthD T 46, nthD T 47, nthD T 48, nthD T 49, nthD T 50, nthD T 51, nthD T 52, nthD T 53, nthD T 54, nthD T 55, nthD T 56, nthD T 57, nthD T 58, nthD T 59, nthD T 60, nthD T 61, nthD T 62, nthD T 63, nthD T 64] = _
    rw [h1, h3, h4, h5])
  rw [eT]
  have hR := (rTx22 M x (bs (accX x 2)) (nthD T 0) (nthD T 2) (nthD T 6) (nthD T 7) (nthD T 8) (nthD T 9) (nthD T 10) (nthD T 11) (nthD T 12) (nthD T 13) (nthD T 14) (nthD T 15) (nthD T 16) (nthD T 17) (nthD T 18) (nthD T 19) (nthD T 20) (nthD T 21) (nthD T 22) (nthD T 23) (nthD T 24) (nthD T 25) (nthD T 26) (nthD T 27) (nthD T 28) (nthD T 29) (nthD T 30) (nthD T 31) (nthD T 32) (nthD T 33) (nthD T 34) (nthD T 35) (nthD T 36) (nthD T 37) (nthD T 38) (nthD T 39) (nthD T 40) (nthD T 41) (nthD T 42) (nthD T 43) (nthD T 44) (nthD T 45) (nthD T 46) (nthD T 47) (nthD T 48) (nthD T 49) (nthD T 50) (nthD T 51) (nthD T 52) (nthD T 53) (nthD T 54) (nthD T 55) (nthD T 56) (nthD T 57) (nthD T 58) (nthD T 59) (nthD T 60) (nthD T 61) (nthD T 62) (nthD T 63) (nthD T 64)).trans (accX_step h (i := 2) (by omega) _ _)
  cases hz : getC x 2 == 0 with
  | true =>
    rw [hz] at hR
    exact WpW.see (sg1 M) (orcOk_of (LTx_ok M)) (Nat.le_refl _) hR fun T' hT' hp' => ⟨rfl, 2, by omega, hT', by rw [accX_same hz]; exact hp', rfl⟩
  | false =>
    rw [hz] at hR
    exact WpW.see (sg1 M) (orcOk_of (LTx_ok M)) (Nat.le_refl _) hR fun T' hT' hp' => ⟨rfl, 3, by omega, hT', hp', rfl⟩
theorem sTx30 (M : Int) {x : N} (h : big 1073741824 x) (T : List Value) (hT : T.length = 65) (hp : picks T [1, 3, 4, 5] = [.pointer (some ⟨3, 0, none⟩), .string (bs (accX x 3)), .slice (some ⟨4, 0, none⟩) 4 4, .int .i64 ((3 : Nat) : Int)]) :
    WpW Tryz.prog (Sg1 M) 3 3 BTx T (heapX M x 0) fun y T' S' => y = .normal ∧ StX M x 4 T' S' := by
  have hp : [nthD T 1, nthD T 3, nthD T 4, nthD T 5] = _ := hp
  injection hp with h1 hp
  injection hp with h3 hp
  injection hp with h4 hp
  injection hp with h5 hp
  have eT : T = [nthD T 0, .pointer (some ⟨3, 0, none⟩), nthD T 2, .string (bs (accX x 3)), .slice (some ⟨4, 0, none⟩) 4 4, .int .i64 ((3 : Nat) : Int), nthD T 6, nthD T 7, nthD T 8, nthD T 9, nthD T 10, nthD T 11, nthD T 12, nthD T 13, nthD T 14, nthD T 15, nthD T 16, nthD T 17, nthD T 18, nthD T 19, nthD T 20, nthD T 21, nthD T 22, nthD T 23, nthD T 24, nthD T 25, nthD T 26, nthD T 27, nthD T 28, nthD T 29, nthD T 30, nthD T 31, nthD T 32, nthD T 33, nthD T 34, nthD T 35, nthD T 36, nthD T 37, nthD T 38, nthD T 39, nthD T 40, nthD T 41, nthD T 42, nthD T 43, nthD T 44, nthD T 45, nthD T 46, nthD T 47, nthD T 48, nthD T 49, nthD T 50, nthD T 51, nthD T 52, nthD T 53, nthD T 54, nthD T 55, nthD T 56, nthD T 57, nthD T 58, nthD T 59, nthD T 60, nthD T 61, nthD T 62, nthD T 63, nthD T 64] := (spread hT).trans (by
    show [nthD T 0, nthD T 1, nthD T 2, nthD T 3, nthD T 4, nthD T 5, nthD T 6, nthD T 7, nthD T 8, nthD T 9, nthD T 10, nthD T 11, nthD T 12, nthD T 13, nthD T 14, nthD T 15, nthD T 16, nthD T 17, nthD T 18, nthD T 19, nthD T 20, nthD T 21, nthD T 22, nthD T 23, nthD T 24, nthD T 25, nthD T 26, nthD T 27, nthD T 28, nthD T 29, nthD T 30, nthD T 31, nthD T 32, nthD T 33, nthD T 34, nthD T 35, nthD T 36, nthD T 37, nthD T 38, nthD T 39, nthD T 40, nthD T 41, nthD T 42, nthD T 43, nthD T 44, nthD T 45, nthD T 46, nthD T 47, nthD T 48, nthD T 49, nthD T 50, nthD T 51, nthD T 52, nthD T 53, nthD T 54, nthD T 55, nthD T 56, nthD T 57, nthD T 58, nthD T 59, nthD T 60, nthD T 61, nthD T 62, nthD T 63, nthD T 64] = _
    rw [h1, h3, h4, h5])
  rw [eT]
  have hR := (rTx30 M x (bs (accX x 3)) (nthD T 0) (nthD T 2) (nthD T 6) (nthD T 7) (nthD T 8) (nthD T 9) (nthD T 10) (nthD T 11) (nthD T 12) (nthD T 13) (nthD T 14) (nthD T 15) (nthD T 16) (nthD T 17) (nthD T 18) (nthD T 19) (nthD T 20) (nthD T 21) (nthD T 22) (nthD T 23) (nthD T 24) (nthD T 25) (nthD T 26) (nthD T 27) (nthD T 28) (nthD T 29) (nthD T 30) (nthD T 31) (nthD T 32) (nthD T 33) (nthD T 34) (nthD T 35) (nthD T 36) (nthD T 37) (nthD T 38) (nthD T 39) (nthD T 40) (nthD T 41) (nthD T 42) (nthD T 43) (nthD T 44) (nthD T 45) (nthD T 46) (nthD T 47) (nthD T 48) (nthD T 49) (nthD T 50) (nthD T 51) (nthD T 52) (nthD T 53) (nthD T 54) (nthD T 55) (nthD T 56) (nthD T 57) (nthD T 58) (nthD T 59) (nthD T 60) (nthD T 61) (nthD T 62) (nthD T 63) (nthD T 64)).trans (accX_step h (i := 3) (by omega) _ _)
  cases hz : getC x 3 == 0 with
  | true =>
    rw [hz] at hR
    exact WpW.see (sg1 M) (orcOk_of (LTx_ok M)) (Nat.le_refl _) hR fun T' hT' hp' => ⟨rfl, 0, by omega, hT', by rw [accX_same hz]; exact hp', rfl⟩
  | false =>
    rw [hz] at hR
    exact WpW.see (sg1 M) (orcOk_of (LTx_ok M)) (Nat.le_refl _) hR fun T' hT' hp' => ⟨rfl, 1, by omega, hT', hp', rfl⟩
theorem sTx31 (M : Int) {x : N} (h : big 1073741824 x) (T : List Value) (hT : T.length = 65) (hp : picks T [1, 3, 4, 5] = [.pointer (some ⟨3, 0, none⟩), .string (bs (accX x 3)), .slice (some ⟨4, 0, none⟩) 4 4, .int .i64 ((3 : Nat) : Int)]) :
    WpW Tryz.prog (Sg1 M) 3 3 BTx T (heapX M x 1) fun y T' S' => y = .normal ∧ StX M x 4 T' S' := by
  have hp : [nthD T 1, nthD T 3, nthD T 4, nthD T 5] = _ := hp
  injection hp with h1 hp
  injection hp with h3 hp
  injection hp with h4 hp
  injection hp with h5 hp
  have eT : T = [nthD T 0, .pointer (some ⟨3, 0, none⟩), nthD T 2, .string (bs (accX x 3)), .slice (some ⟨4, 0, none⟩) 4 4, .int .i64 ((3 : Nat) : Int), nthD T 6, nthD T 7, nthD T 8, nthD T 9, nthD T 10, nthD T 11, nthD T 12, nthD T 13, nthD T 14, nthD T 15, nthD T 16, nthD T 17, nthD T 18, nthD T 19, nthD T 20, nthD T 21, nthD T 22, nthD T 23, nthD T 24, nthD T 25, nthD T 26, nthD T 27, nthD T 28, nthD T 29, nthD T 30, nthD T 31, nthD T 32, nthD T 33, nthD T 34, nthD T 35, nthD T 36, nthD T 37, nthD T 38, nthD T 39, nthD T 40, nthD T 41, nthD T 42, nthD T 43, nthD T 44, nthD T 45, nthD T 46, nthD T 47, nthD T 48, nthD T 49, nthD T 50, nthD T 51, nthD T 52, nthD T 53, nthD T 54, nthD T 55, nthD T 56, nthD T 57, nthD T 58, nthD T 59, nthD T 60, nthD T 61, nthD T 62, nthD T 63, nthD T 64] := (spread hT).trans (by
    show [nthD T 0, nthD T 1, nthD T 2, nthD T 3, nthD T 4, nthD T 5, nthD T 6, nthD T 7, nthD T 8, nthD T 9, nthD T 10, nthD T 11, nthD T 12, nthD T 13, nthD T 14, nthD T 15, nthD T 16, nthD T 17, nthD T 18, nthD T 19, nthD T 20, nthD T 21, nthD T 22, nthD T 23, nthD T 24, nthD T 25, nthD T 26, nthD T 27, nthD T 28, nthD T 29, nthD T 30, nthD T 31, nthD T 32, nthD T 33, nthD T 34, nthD T 35, nthD T 36, nthD T 37, nthD T 38, nthD T 39, nthD T 40, nthD T 41, nthD T 42, nthD T 43, nthD T 44, nthD T 45, nthD T 46, nthD T 47, nthD T 48, nthD T 49, nthD T 50, nthD T 51, nthD T 52, nthD T 53, nthD T 54, nthD T 55, nthD T 56, nthD T 57, nthD T 58, nthD T 59, nthD T 60, nthD T 61, nthD T 62, nthD T 63, nthD T 64] = _
    rw [h1, h3, h4, h5])
  rw [eT]
  have hR := (rTx31 M x (bs (accX x 3)) (nthD T 0) (nthD T 2) (nthD T 6) (nthD T 7) (nthD T 8) (nthD T 9) (nthD T 10) (nthD T 11) (nthD T 12) (nthD T 13) (nthD T 14) (nthD T 15) (nthD T 16) (nthD T 17) (nthD T 18) (nthD T 19) (nthD T 20) (nthD T 21) (nthD T 22) (nthD T 23) (nthD T 24) (nthD T 25) (nthD T 26) (nthD T 27) (nthD T 28) (nthD T 29) (nthD T 30) (nthD T 31) (nthD T 32) (nthD T 33) (nthD T 34) (nthD T 35) (nthD T 36) (nthD T 37) (nthD T 38) (nthD T 39) (nthD T 40) (nthD T 41) (nthD T 42) (nthD T 43) (nthD T 44) (nthD T 45) (nthD T 46) (nthD T 47) (nthD T 48) (nthD T 49) (nthD T 50) (nthD T 51) (nthD T 52) (nthD T 53) (nthD T 54) (nthD T 55) (nthD T 56) (nthD T 57) (nthD T 58) (nthD T 59) (nthD T 60) (nthD T 61) (nthD T 62) (nthD T 63) (nthD T 64)).trans (accX_step h (i := 3) (by omega) _ _)
  cases hz : getC x 3 == 0 with
  | true =>
    rw [hz] at hR
    exact WpW.see (sg1 M) (orcOk_of (LTx_ok M)) (Nat.le_refl _) hR fun T' hT' hp' => ⟨rfl, 1, by omega, hT', by rw [accX_same hz]; exact hp', rfl⟩
  | false =>
    rw [hz] at hR
    exact WpW.see (sg1 M) (orcOk_of (LTx_ok M)) (Nat.le_refl _) hR fun T' hT' hp' => ⟨rfl, 2, by omega, hT', hp', rfl⟩
theorem sTx32 (M : Int) {x : N} (h : big 1073741824 x) (T : List Value) (hT : T.length = 65) (hp : picks T [1, 3, 4, 5] = [.pointer (some ⟨3, 0, none⟩), .string (bs (accX x 3)), .slice (some ⟨4, 0, none⟩) 4 4, .int .i64 ((3 : Nat) : Int)]) :
    WpW Tryz.prog (Sg1 M) 3 3 BTx T (heapX M x 2) fun y T' S' => y = .normal ∧ StX M x 4 T' S' := by
  have hp : [nthD T 1, nthD T 3, nthD T 4, nthD T 5] = _ := hp
  injection hp with h1 hp
  injection hp with h3 hp
  injection hp with h4 hp
  injection hp with h5 hp
  have eT : T = [nthD T 0, .pointer (some ⟨3, 0, none⟩), nthD T 2, .string (bs (accX x 3)), .slice (some ⟨4, 0, none⟩) 4 4, .int .i64 ((3 : Nat) : Int), nthD T 6, nthD T 7, nthD T 8, nthD T 9, nthD T 10, nthD T 11, nthD T 12, nthD T 13, nthD T 14, nthD T 15, nthD T 16, nthD T 17, nthD T 18, nthD T 19, nthD T 20, nthD T 21, nthD T 22, nthD T 23, nthD T 24, nthD T 25, nthD T 26, nthD T 27, nthD T 28, nthD T 29, nthD T 30, nthD T 31, nthD T 32, nthD T 33, nthD T 34, nthD T 35, nthD T 36, nthD T 37, nthD T 38, nthD T 39, nthD T 40, nthD T 41, nthD T 42, nthD T 43, nthD T 44, nthD T 45, nthD T 46, nthD T 47, nthD T 48, nthD T 49, nthD T 50, nthD T 51, nthD T 52, nthD T 53, nthD T 54, nthD T 55, nthD T 56, nthD T 57, nthD T 58, nthD T 59, nthD T 60, nthD T 61, nthD T 62, nthD T 63, nthD T 64] := (spread hT).trans (by
    show [nthD T 0, nthD T 1, nthD T 2, nthD T 3, nthD T 4, nthD T 5, nthD T 6, nthD T 7, nthD T 8, nthD T 9, nthD T 10, nthD T 11, nthD T 12, nthD T 13, nthD T 14, nthD T 15, nthD T 16, nthD T 17, nthD T 18, nthD T 19, nthD T 20, nthD T 21, nthD T 22, nthD T 23, nthD T 24, nthD T 25, nthD T 26, nthD T 27, nthD T 28, nthD T 29, nthD T 30, nthD T 31, nthD T 32, nthD T 33, nthD T 34, nthD T 35, nthD T 36, nthD T 37, nthD T 38, nthD T 39, nthD T 40, nthD T 41, nthD T 42, nthD T 43, nthD T 44, nthD T 45, nthD T 46, nthD T 47, nthD T 48, nthD T 49, nthD T 50, nthD T 51, nthD T 52, nthD T 53, nthD T 54, nthD T 55, nthD T 56, nthD T 57, nthD T 58, nthD T 59, nthD T 60, nthD T 61, nthD T 62, nthD T 63, nthD T 64] = _
    rw [h1, h3, h4, h5])
  rw [eT]
  have hR := (rTx32 M x (bs (accX x 3)) (nthD T 0) (nthD T 2) (nthD T 6) (nthD T 7) (nthD T 8) (nthD T 9) (nthD T 10) (nthD T 11) (nthD T 12) (nthD T 13) (nthD T 14) (nthD T 15) (nthD T 16) (nthD T 17) (nthD T 18) (nthD T 19) (nthD T 20) (nthD T 21) (nthD T 22) (nthD T 23) (nthD T 24) (nthD T 25) (nthD T 26) (nthD T 27) (nthD T 28) (nthD T 29) (nthD T 30) (nthD T 31) (nthD T 32) (nthD T 33) (nthD T 34) (nthD T 35) (nthD T 36) (nthD T 37) (nthD T 38) (nthD T 39) (nthD T 40) (nthD T 41) (nthD T 42) (nthD T 43) (nthD T 44) (nthD T 45) (nthD T 46) (nthD T 47) (nthD T 48) (nthD T 49) (nthD T 50) (nthD T 51) (nthD T 52) (nthD T 53) (nthD T 54) (nthD T 55) (nthD T 56) (nthD T 57) (nthD T 58) (nthD T 59) (nthD T 60) (nthD T 61) (nthD T 62) (nthD T 63) (nthD T 64)).trans (accX_step h (i := 3) (by omega) _ _)
  cases hz : getC x 3 == 0 with
  | true =>
    rw [hz] at hR
    exact WpW.see (sg1 M) (orcOk_of (LTx_ok M)) (Nat.le_refl _) hR fun T' hT' hp' => ⟨rfl, 2, by omega, hT', by rw [accX_same hz]; exact hp', rfl⟩
  | false =>
    rw [hz] at hR
    exact WpW.see (sg1 M) (orcOk_of (LTx_ok M)) (Nat.le_refl _) hR fun T' hT' hp' => ⟨rfl, 3, by omega, hT', hp', rfl⟩
theorem sTx33 (M : Int) {x : N} (h : big 1073741824 x) (T : List Value) (hT : T.length = 65) (hp : picks T [1, 3, 4, 5] = [.pointer (some ⟨3, 0, none⟩), .string (bs (accX x 3)), .slice (some ⟨4, 0, none⟩) 4 4, .int .i64 ((3 : Nat) : Int)]) :
    WpW Tryz.prog (Sg1 M) 3 3 BTx T (heapX M x 3) fun y T' S' => y = .normal ∧ StX M x 4 T' S' := by
  have hp : [nthD T 1, nthD T 3, nthD T 4, nthD T 5] = _ := hp
  injection hp with h1 hp
  injection hp with h3 hp
  injection hp with h4 hp
  injection hp with h5 hp
  have eT : T = [nthD T 0, .pointer (some ⟨3, 0, none⟩), nthD T 2, .string (bs (accX x 3)), .slice (some ⟨4, 0, none⟩) 4 4, .int .i64 ((3 : Nat) : Int), nthD T 6, nthD T 7, nthD T 8, nthD T 9, nthD T 10, nthD T 11, nthD T 12, nthD T 13, nthD T 14, nthD T 15, nthD T 16, nthD T 17, nthD T 18, nthD T 19, nthD T 20, nthD T 21, nthD T 22, nthD T 23, nthD T 24, nthD T 25, nthD T 26, nthD T 27, nthD T 28, nthD T 29, nthD T 30, nthD T 31, nthD T 32, nthD T 33, nthD T 34, nthD T 35, nthD T 36, nthD T 37, nthD T 38, nthD T 39, nthD T 40, nthD T 41, nthD T 42, nthD T 43, nthD T 44, nthD T 45, nthD T 46, nthD T 47, nthD T 48, nthD T 49, nthD T 50, nthD T 51, nthD T 52, nthD T 53, nthD T 54, nthD T 55, nthD T 56, nthD T 57, nthD T 58, nthD T 59, nthD T 60, nthD T 61, nthD T 62, nthD T 63, nthD T 64] := (spread hT).trans (by
    show [nthD T 0, nthD T 1, nthD T 2, nthD T 3, nthD T 4, nthD T 5, nthD T 6, nthD T 7, nthD T 8, nthD T 9, nthD T 10, nthD T 11, nthD T 12, nthD T 13, nthD T 14, nthD T 15, nthD T 16, nthD T 17, nthD T 18, nthD T 19, nthD T 20, nthD T 21, nthD T 22, nthD T 23, nthD T 24, nthD T 25, nthD T 26, nthD T 27, nthD T 28, nthD T 29, nthD T 30, nthD T 31, nthD T 32, nthD T 33, nthD T 34, nthD T 35, nthD T 36, nthD T 37, nthD T 38, nthD T 39, nthD T 40, nthD T 41, nthD T 42, nthD T 43, nthD T 44, nthD T 45, nthD T 46, nthD T 47, nthD T 48, nthD T 49, nthD T 50, nthD T 51, nthD T 52, nthD T 53, nthD T 54, nthD T 55, nthD T 56, nthD T 57, nthD T 58, nthD T 59, nthD T 60, nthD T 61, nthD T 62, nthD T 63, nthD T 64] = _
    rw [h1, h3, h4, h5])
  rw [eT]
  have hR := (rTx33 M x (bs (accX x 3)) (nthD T 0) (nthD T 2) (nthD T 6) (nthD T 7) (nthD T 8) (nthD T 9) (nthD T 10) (nthD T 11) (nthD T 12) (nthD T 13) (nthD T 14) (nthD T 15) (nthD T 16) (nthD T 17) (nthD T 18) (nthD T 19) (nthD T 20) (nthD T 21) (nthD T 22) (nthD T 23) (nthD T 24) (nthD T 25) (nthD T 26) (nthD T 27) (nthD T 28) (nthD T 29) (nthD T 30) (nthD T 31) (nthD T 32) (nthD T 33) (nthD T 34) (nthD T 35) (nthD T 36) (nthD T 37) (nthD T 38) (nthD T 39) (nthD T 40) (nthD T 41) (nthD T 42) (nthD T 43) (nthD T 44) (nthD T 45) (nthD T 46) (nthD T 47) (nthD T 48) (nthD T 49) (nthD T 50) (nthD T 51) (nthD T 52) (nthD T 53) (nthD T 54) (nthD T 55) (nthD T 56) (nthD T 57) (nthD T 58) (nthD T 59) (nthD T 60) (nthD T 61) (nthD T 62) (nthD T 63) (nthD T 64)).trans (accX_step h (i := 3) (by omega) _ _)
  cases hz : getC x 3 == 0 with
  | true =>
    rw [hz] at hR
    exact WpW.see (sg1 M) (orcOk_of (LTx_ok M)) (Nat.le_refl _) hR fun T' hT' hp' => ⟨rfl, 3, by omega, hT', by rw [accX_same hz]; exact hp', rfl⟩
  | false =>
    rw [hz] at hR
    exact WpW.see (sg1 M) (orcOk_of (LTx_ok M)) (Nat.le_refl _) hR fun T' hT' hp' => ⟨rfl, 4, by omega, hT', hp', rfl⟩
theorem loopTx (M : Int) {x : N} (h : big 1073741824 x) (T : List Value) (S : List Blk) (h0 : StX M x 0 T S) :
    WpW Tryz.prog (Sg1 M) 3 3 (.loop BTx) T S fun y T' S' => y = .exit 0 ∧ StX M x 4 T' S' := by
  refine WpW.loop (fun m T S => ∃ i, i ≤ 4 ∧ m = 4 - i ∧ StX M x i T S) ?_ 4 T S ⟨0, by omega, rfl, h0⟩
  rintro m T S ⟨i, hi, rfl, e, he, hT, hp, rfl⟩
  have hi : i = 0 ∨ i = 1 ∨ i = 2 ∨ i = 3 ∨ i = 4 := by omega
  have go : ∀ {i : Nat}, i < 4 → ∀ {T : List Value} {S : List Blk} {R : Ex → List Value → List Blk → Prop}, WpW Tryz.prog (Sg1 M) 3 3 BTx T S (fun y T' S' => y = .normal ∧ StX M x (i + 1) T' S') → (∀ y T' S', (y = .normal ∧ StX M x (i + 1) T' S') → R y T' S') → WpW Tryz.prog (Sg1 M) 3 3 BTx T S R := fun _ _ _ _ hw hq => hw.mono hq
  rcases hi with rfl | rfl | rfl | rfl | rfl
  · have he : e = 0 := by omega
    refine go (i := 0) (by omega) (?_) (fun y T' S' ⟨hy, hs⟩ => by subst hy; exact ⟨4 - 1, by omega, 1, by omega, rfl, hs⟩)
    rcases he with rfl
    · exact sTx00 M h T hT hp
  · have he : e = 0 ∨ e = 1 := by omega
    refine go (i := 1) (by omega) (?_) (fun y T' S' ⟨hy, hs⟩ => by subst hy; exact ⟨4 - 2, by omega, 2, by omega, rfl, hs⟩)
    rcases he with rfl | rfl
    · exact sTx10 M h T hT hp
    · exact sTx11 M h T hT hp
  · have he : e = 0 ∨ e = 1 ∨ e = 2 := by omega
    refine go (i := 2) (by omega) (?_) (fun y T' S' ⟨hy, hs⟩ => by subst hy; exact ⟨4 - 3, by omega, 3, by omega, rfl, hs⟩)
    rcases he with rfl | rfl | rfl
    · exact sTx20 M h T hT hp
    · exact sTx21 M h T hT hp
    · exact sTx22 M h T hT hp
  · have he : e = 0 ∨ e = 1 ∨ e = 2 ∨ e = 3 := by omega
    refine go (i := 3) (by omega) (?_) (fun y T' S' ⟨hy, hs⟩ => by subst hy; exact ⟨4 - 4, by omega, 4, by omega, rfl, hs⟩)
    rcases he with rfl | rfl | rfl | rfl
    · exact sTx30 M h T hT hp
    · exact sTx31 M h T hT hp
    · exact sTx32 M h T hT hp
    · exact sTx33 M h T hT hp
  · skip
    have hp : [nthD T 1, nthD T 3, nthD T 4, nthD T 5] = _ := hp
    injection hp with h1 hp
    injection hp with h3 hp
    injection hp with h4 hp
    injection hp with h5 hp
    have eT : T = [nthD T 0, .pointer (some ⟨3, 0, none⟩), nthD T 2, .string (bs (accX x 4)), .slice (some ⟨4, 0, none⟩) 4 4, .int .i64 ((4 : Nat) : Int), nthD T 6, nthD T 7, nthD T 8, nthD T 9, nthD T 10, nthD T 11, nthD T 12, nthD T 13, nthD T 14, nthD T 15, nthD T 16, nthD T 17, nthD T 18, nthD T 19, nthD T 20, nthD T 21, nthD T 22, nthD T 23, nthD T 24, nthD T 25, nthD T 26, nthD T 27, nthD T 28, nthD T 29, nthD T 30, nthD T 31, nthD T 32, nthD T 33, nthD T 34, nthD T 35, nthD T 36, nthD T 37, nthD T 38, nthD T 39, nthD T 40, nthD T 41, nthD T 42, nthD T 43, nthD T 44, nthD T 45, nthD T 46, nthD T 47, nthD T 48, nthD T 49, nthD T 50, nthD T 51, nthD T 52, nthD T 53, nthD T 54, nthD T 55, nthD T 56, nthD T 57, nthD T 58, nthD T 59, nthD T 60, nthD T 61, nthD T 62, nthD T 63, nthD T 64] := (spread hT).trans (by
      show [nthD T 0, nthD T 1, nthD T 2, nthD T 3, nthD T 4, nthD T 5, nthD T 6, nthD T 7, nthD T 8, nthD T 9, nthD T 10, nthD T 11, nthD T 12, nthD T 13, nthD T 14, nthD T 15, nthD T 16, nthD T 17, nthD T 18, nthD T 19, nthD T 20, nthD T 21, nthD T 22, nthD T 23, nthD T 24, nthD T 25, nthD T 26, nthD T 27, nthD T 28, nthD T 29, nthD T 30, nthD T 31, nthD T 32, nthD T 33, nthD T 34, nthD T 35, nthD T 36, nthD T 37, nthD T 38, nthD T 39, nthD T 40, nthD T 41, nthD T 42, nthD T 43, nthD T 44, nthD T 45, nthD T 46, nthD T 47, nthD T 48, nthD T 49, nthD T 50, nthD T 51, nthD T 52, nthD T 53, nthD T 54, nthD T 55, nthD T 56, nthD T 57, nthD T 58, nthD T 59, nthD T 60, nthD T 61, nthD T 62, nthD T 63, nthD T 64] = _
      rw [h1, h3, h4, h5])
    rw [eT]
    exact WpW.see (sg1 M) (orcOk_of (LTx_ok M)) (Nat.le_refl _) (rTx4 M (bs (accX x 4)) (heapX M x e) (nthD T 0) (nthD T 2) (nthD T 6) (nthD T 7) (nthD T 8) (nthD T 9) (nthD T 10) (nthD T 11) (nthD T 12) (nthD T 13) (nthD T 14) (nthD T 15) (nthD T 16) (nthD T 17) (nthD T 18) (nthD T 19) (nthD T 20) (nthD T 21) (nthD T 22) (nthD T 23) (nthD T 24) (nthD T 25) (nthD T 26) (nthD T 27) (nthD T 28) (nthD T 29) (nthD T 30) (nthD T 31) (nthD T 32) (nthD T 33) (nthD T 34) (nthD T 35) (nthD T 36) (nthD T 37) (nthD T 38) (nthD T 39) (nthD T 40) (nthD T 41) (nthD T 42) (nthD T 43) (nthD T 44) (nthD T 45) (nthD T 46) (nthD T 47) (nthD T 48) (nthD T 49) (nthD T 50) (nthD T 51) (nthD T 52) (nthD T 53) (nthD T 54) (nthD T 55) (nthD T 56) (nthD T 57) (nthD T 58) (nthD T 59) (nthD T 60) (nthD T 61) (nthD T 62) (nthD T 63) (nthD T 64)) fun T' hT' hp' => ⟨rfl, e, he, hT', hp', rfl⟩
theorem wTx (M : Int) {x : N} (h : okB x = true) (hz : x.zero = true → x.k = 0) : WpW Tryz.prog (Sg1 M) 3 3 (bodyOf Tryz.prog 104) (tmps0Of Tryz.prog 104 [N.v x]) (Sg1 M) fun y T' U => (match y with | .exit _ => False | _ => True) ∧ (∃ N, U = Sg1 M ++ N) ∧ outOf Tryz.prog 104 T' U = some (.string (bs (numC x))) := by
  obtain ⟨hb, hk0, hk1⟩ := big_of h
  rw [tmpsTx]
  refine WpW.of_pieces ?_
  rw [show flatC (bodyOf Tryz.prog 104) = _ from LTx_eq]
  have hH := headTx M x
  cases hx : x.zero with
  | true =>
    rw [hx] at hH
    have e : numC x = [48] := by unfold numC termsC; rw [hz hx, hx]; rfl
    refine WpL.append (l := [qTx 0, qTx 1, qTx 2, qTx 3, qTx 4, qTx 5]) (WpL.seeEnd (sg1 M) (orcOk_of (LTx_ok M)) (Nat.le_refl _) hH fun T hT hp => ?_)
    have hp : [nthD T 1, nthD T 2, nthD T 3, nthD T 4, nthD T 5] = _ := hp
    injection hp with h1 hp
    injection hp with h2 hp
    injection hp with h3 hp
    injection hp with h4 hp
    injection hp with h5 hp
    have eT : T = [nthD T 0, .pointer (some ⟨3, 0, none⟩), .string (bs [48]), undef, undef, undef, nthD T 6, nthD T 7, nthD T 8, nthD T 9, nthD T 10, nthD T 11, nthD T 12, nthD T 13, nthD T 14, nthD T 15, nthD T 16, nthD T 17, nthD T 18, nthD T 19, nthD T 20, nthD T 21, nthD T 22, nthD T 23, nthD T 24, nthD T 25, nthD T 26, nthD T 27, nthD T 28, nthD T 29, nthD T 30, nthD T 31, nthD T 32, nthD T 33, nthD T 34, nthD T 35, nthD T 36, nthD T 37, nthD T 38, nthD T 39, nthD T 40, nthD T 41, nthD T 42, nthD T 43, nthD T 44, nthD T 45, nthD T 46, nthD T 47, nthD T 48, nthD T 49, nthD T 50, nthD T 51, nthD T 52, nthD T 53, nthD T 54, nthD T 55, nthD T 56, nthD T 57, nthD T 58, nthD T 59, nthD T 60, nthD T 61, nthD T 62, nthD T 63, nthD T 64] := (spread hT).trans (by
      show [nthD T 0, nthD T 1, nthD T 2, nthD T 3, nthD T 4, nthD T 5, nthD T 6, nthD T 7, nthD T 8, nthD T 9, nthD T 10, nthD T 11, nthD T 12, nthD T 13, nthD T 14, nthD T 15, nthD T 16, nthD T 17, nthD T 18, nthD T 19, nthD T 20, nthD T 21, nthD T 22, nthD T 23, nthD T 24, nthD T 25, nthD T 26, nthD T 27, nthD T 28, nthD T 29, nthD T 30, nthD T 31, nthD T 32, nthD T 33, nthD T 34, nthD T 35, nthD T 36, nthD T 37, nthD T 38, nthD T 39, nthD T 40, nthD T 41, nthD T 42, nthD T 43, nthD T 44, nthD T 45, nthD T 46, nthD T 47, nthD T 48, nthD T 49, nthD T 50, nthD T 51, nthD T 52, nthD T 53, nthD T 54, nthD T 55, nthD T 56, nthD T 57, nthD T 58, nthD T 59, nthD T 60, nthD T 61, nthD T 62, nthD T 63, nthD T 64] = _
      rw [h1, h2, h3, h4, h5])
    refine ⟨trivial, ⟨[rb x], rfl⟩, ?_⟩
    rw [e, eT]
    exact outTx _ _ (nthD T 0) (.pointer (some ⟨3, 0, none⟩)) undef undef undef (nthD T 6) (nthD T 7) (nthD T 8) (nthD T 9) (nthD T 10) (nthD T 11) (nthD T 12) (nthD T 13) (nthD T 14) (nthD T 15) (nthD T 16) (nthD T 17) (nthD T 18) (nthD T 19) (nthD T 20) (nthD T 21) (nthD T 22) (nthD T 23) (nthD T 24) (nthD T 25) (nthD T 26) (nthD T 27) (nthD T 28) (nthD T 29) (nthD T 30) (nthD T 31) (nthD T 32) (nthD T 33) (nthD T 34) (nthD T 35) (nthD T 36) (nthD T 37) (nthD T 38) (nthD T 39) (nthD T 40) (nthD T 41) (nthD T 42) (nthD T 43) (nthD T 44) (nthD T 45) (nthD T 46) (nthD T 47) (nthD T 48) (nthD T 49) (nthD T 50) (nthD T 51) (nthD T 52) (nthD T 53) (nthD T 54) (nthD T 55) (nthD T 56) (nthD T 57) (nthD T 58) (nthD T 59) (nthD T 60) (nthD T 61) (nthD T 62) (nthD T 63) (nthD T 64)
  | false =>
    rw [hx] at hH
    refine WpL.see (l := [_, _, _, _, _, _]) (m := [_, _, _, _, _]) (sg1 M) (orcOk_of (LTx_ok M)) (Nat.le_refl _) hH fun T hT hp => ?_
    have hs : StX M x 0 T [uni, pow, mxl M, rb x, slX x] := ⟨0, Nat.le_refl _, hT, by
      have hp : [nthD T 1, nthD T 2, nthD T 3, nthD T 4, nthD T 5] = _ := hp
      injection hp with h1 hp
      injection hp with h2 hp
      show [nthD T 1, nthD T 3, nthD T 4, nthD T 5] = _
      rw [h1, hp]; rfl, rfl⟩
    refine WpL.step (WpW.block ((loopTx M hb T _ hs).mono ?_))
    rintro y T S ⟨rfl, e, he, hT, hp, rfl⟩
    have hp : [nthD T 1, nthD T 3, nthD T 4, nthD T 5] = _ := hp
    injection hp with h1 hp
    injection hp with h3 hp
    injection hp with h4 hp
    injection hp with h5 hp
    have eT : T = [nthD T 0, .pointer (some ⟨3, 0, none⟩), nthD T 2, .string (bs (accX x 4)), .slice (some ⟨4, 0, none⟩) 4 4, .int .i64 ((4 : Nat) : Int), nthD T 6, nthD T 7, nthD T 8, nthD T 9, nthD T 10, nthD T 11, nthD T 12, nthD T 13, nthD T 14, nthD T 15, nthD T 16, nthD T 17, nthD T 18, nthD T 19, nthD T 20, nthD T 21, nthD T 22, nthD T 23, nthD T 24, nthD T 25, nthD T 26, nthD T 27, nthD T 28, nthD T 29, nthD T 30, nthD T 31, nthD T 32, nthD T 33, nthD T 34, nthD T 35, nthD T 36, nthD T 37, nthD T 38, nthD T 39, nthD T 40, nthD T 41, nthD T 42, nthD T 43, nthD T 44, nthD T 45, nthD T 46, nthD T 47, nthD T 48, nthD T 49, nthD T 50, nthD T 51, nthD T 52, nthD T 53, nthD T 54, nthD T 55, nthD T 56, nthD T 57, nthD T 58, nthD T 59, nthD T 60, nthD T 61, nthD T 62, nthD T 63, nthD T 64] := (spread hT).trans (by
      show [nthD T 0, nthD T 1, nthD T 2, nthD T 3, nthD T 4, nthD T 5, nthD T 6, nthD T 7, nthD T 8, nthD T 9, nthD T 10, nthD T 11, nthD T 12, nthD T 13, nthD T 14, nthD T 15, nthD T 16, nthD T 17, nthD T 18, nthD T 19, nthD T 20, nthD T 21, nthD T 22, nthD T 23, nthD T 24, nthD T 25, nthD T 26, nthD T 27, nthD T 28, nthD T 29, nthD T 30, nthD T 31, nthD T 32, nthD T 33, nthD T 34, nthD T 35, nthD T 36, nthD T 37, nthD T 38, nthD T 39, nthD T 40, nthD T 41, nthD T 42, nthD T 43, nthD T 44, nthD T 45, nthD T 46, nthD T 47, nthD T 48, nthD T 49, nthD T 50, nthD T 51, nthD T 52, nthD T 53, nthD T 54, nthD T 55, nthD T 56, nthD T 57, nthD T 58, nthD T 59, nthD T 60, nthD T 61, nthD T 62, nthD T 63, nthD T 64] = _
      rw [h1, h3, h4, h5])
    rw [eT]
    have ht := tailTx M x (bs (accX x 4)) (slX x :: List.replicate e uB) (nthD T 0) (nthD T 2) (nthD T 6) (nthD T 7) (nthD T 8) (nthD T 9) (nthD T 10) (nthD T 11) (nthD T 12) (nthD T 13) (nthD T 14) (nthD T 15) (nthD T 16) (nthD T 17) (nthD T 18) (nthD T 19) (nthD T 20) (nthD T 21) (nthD T 22) (nthD T 23) (nthD T 24) (nthD T 25) (nthD T 26) (nthD T 27) (nthD T 28) (nthD T 29) (nthD T 30) (nthD T 31) (nthD T 32) (nthD T 33) (nthD T 34) (nthD T 35) (nthD T 36) (nthD T 37) (nthD T 38) (nthD T 39) (nthD T 40) (nthD T 41) (nthD T 42) (nthD T 43) (nthD T 44) (nthD T 45) (nthD T 46) (nthD T 47) (nthD T 48) (nthD T 49) (nthD T 50) (nthD T 51) (nthD T 52) (nthD T 53) (nthD T 54) (nthD T 55) (nthD T 56) (nthD T 57) (nthD T 58) (nthD T 59) (nthD T 60) (nthD T 61) (nthD T 62) (nthD T 63) (nthD T 64)
    have e1 : accX x 4 = termsC x := by rw [accX_terms]; unfold termsC; rw [hx]; rfl
    have hl := termsC_len hb
    have hd := dec_len (n := x.k.toNat) (by omega)
    have hout : evP Tryz.prog (orcL LTx) (Sg1 M) 3 (fun _ => 1000) 0 [qTx 7, qTx 8, qTx 9, qTx 10] [nthD T 0, .pointer (some ⟨3, 0, none⟩), nthD T 2, .string (bs (accX x 4)), .slice (some ⟨4, 0, none⟩) 4 4, .int .i64 4, nthD T 6, nthD T 7, nthD T 8, nthD T 9, nthD T 10, nthD T 11, nthD T 12, nthD T 13, nthD T 14, nthD T 15, nthD T 16, nthD T 17, nthD T 18, nthD T 19, nthD T 20, nthD T 21, nthD T 22, nthD T 23, nthD T 24, nthD T 25, nthD T 26, nthD T 27, nthD T 28, nthD T 29, nthD T 30, nthD T 31, nthD T 32, nthD T 33, nthD T 34, nthD T 35, nthD T 36, nthD T 37, nthD T 38, nthD T 39, nthD T 40, nthD T 41, nthD T 42, nthD T 43, nthD T 44, nthD T 45, nthD T 46, nthD T 47, nthD T 48, nthD T 49, nthD T 50, nthD T 51, nthD T 52, nthD T 53, nthD T 54, nthD T 55, nthD T 56, nthD T 57, nthD T 58, nthD T 59, nthD T 60, nthD T 61, nthD T 62, nthD T 63, nthD T 64] (uni :: pow :: mxl M :: rb x :: slX x :: List.replicate e uB) (outs Tryz.prog 104) = some (.string (bs (numC x)), uni :: pow :: mxl M :: rb x :: slX x :: List.replicate e uB) := by
      rw [ht, e1]
      unfold numC
      by_cases hk : x.k = 0
      · rw [decide_eq_false (show ¬ x.k > 0 by omega), show (x.k == 0) = true by simpa using hk]; rfl
      · have hdg : dgOk 18 x.k = true := by
          unfold dgOk
          rw [decide_eq_true hk0, show (10 : Int) ^ 18 = 1000000000000000000 by decide, decide_eq_true (show x.k < 1000000000000000000 by omega)]; rfl
        rw [decide_eq_true (show x.k > 0 by omega), show (x.k == 0) = false by simpa using hk, hdg, catOk_bs (by simp; omega), bs_cat, catOk_bs (by simp; omega), bs_cat, catOk_bs (by simp; omega), bs_cat]; rfl
    refine WpL.mono (WpL.of_k (sg1 M) (orcOk_of (LTx_ok M)) (Nat.le_refl _) _ _ _ _ hout) ?_
    intro y T' U hk
    obtain ⟨h1, rfl, h2⟩ := outs_eq hk
    cases y with
    | normal => exact ⟨h1, ⟨_, rfl⟩, h2⟩
    | ret => exact ⟨h1, ⟨_, rfl⟩, h2⟩
    | exit id => exact h1.elim
def cTxt : Con := con1 104 fun x => .ite (okB x && !(x.zero && x.k != 0)) (.val (.string (bs (numC x)))) .no
theorem cTxt_ok (M : Int) : ConOk M cTxt := by
  intro args t v h hv w inv
  simp only [cTxt, con1] at h
  split at h
  · rename_i u
    split at h
    · rename_i x hx
      rw [asN_eq hx]
      cases h
      obtain ⟨h1, rfl⟩ := OT.pre hv
      simp only [Bool.and_eq_true] at h1
      refine calls_of_W (sg1 M) (by rw [show (Tryz.prog.funcs[104]?).bind (·.body) = some (bodyOf Tryz.prog 104) from by kernel_rfl]; simp) rfl rfl rfl (wTx M h1.1 fun hz => ?_) inv
      have h2 := h1.2
      rw [hz] at h2
      simpa using h2
    · cases h
  · cases h
/- Ring: the specification's reader of digits (made by mknm.py). -/

noncomputable abbrev qNm (i : Nat) : Code := nthC (pcs Tryz.prog 105) i
noncomputable abbrev BNm : Code := loopOf Tryz.prog 105 0
theorem LNm_eq : pcs Tryz.prog 105 = [qNm 0, qNm 1, .block 0 (.loop BNm), qNm 3, qNm 4] := by kernel_rfl
theorem tmpsNm (s : ByteArray) (a : Int) : tmps0Of Tryz.prog 105 [.string s, .int .i64 a] = .string s :: .int .i64 a :: List.replicate 34 undef := by kernel_rfl
theorem headNm (M : Int) (s : ByteArray) (a : Int) : evP Tryz.prog (orcL []) (Sg1 M) 3 (fun _ => 1000) 0 [qNm 0, qNm 1] (.string s :: .int .i64 a :: List.replicate 34 undef) [uni, pow, mxl M] (sees [0, 1, 6]) = some (.normal, 36, [.string s, .int .i64 a, .int .i64 0], [uni, pow, mxl M]) := by kernel_rfl
def ix {α : Type} (s : ByteArray) (a : Int) (k : Option α) : Option α := bif decide (0 ≤ a) && decide (a < (s.size : Int)) then k else none
def w8 (n : Int) : Int := IntKind.u8.wrap n
theorem roundNm (M : Int) (s : ByteArray) (a n : Int) (t2 t3 t4 t5 t7 t8 t9 t10 t11 t12 t13 t14 t15 t16 t17 t18 t19 t20 t21 t22 t23 t24 t25 t26 t27 t28 t29 t30 t31 t32 t33 t34 t35 : Value) : evCodeK Tryz.prog (orcL []) (Sg1 M) 1060 3 BNm [.string s, .int .i64 a, t2, t3, t4, t5, .int .i64 n, t7, t8, t9, t10, t11, t12, t13, t14, t15, t16, t17, t18, t19, t20, t21, t22, t23, t24, t25, t26, t27, t28, t29, t30, t31, t32, t33, t34, t35] [uni, pow, mxl M] (sees [0, 1, 6]) =
    bif decide (a < (s.size : Int)) then ix s a (bif decide (byteN s a ≥ 48) then ix s a (bif decide (byteN s a ≤ 57) then ix s a (some (.normal, 36, [.string s, .int .i64 (w (a + 1)), .int .i64 (mn (w (w (10 * n) + w (w8 (byteN s a - 48)))) 2147483648)], [uni, pow, mxl M])) else some (.exit 0, 36, [.string s, .int .i64 a, .int .i64 n], [uni, pow, mxl M])) else some (.exit 0, 36, [.string s, .int .i64 a, .int .i64 n], [uni, pow, mxl M])) else some (.exit 0, 36, [.string s, .int .i64 a, .int .i64 n], [uni, pow, mxl M]) := by kernel_rfl
theorem tailNm (M : Int) (s : ByteArray) (a n : Int) (t2 t3 t4 t5 t7 t8 t9 t10 t11 t12 t13 t14 t15 t16 t17 t18 t19 t20 t21 t22 t23 t24 t25 t26 t27 t28 t29 t30 t31 t32 t33 t34 t35 : Value) : evP Tryz.prog (orcL []) (Sg1 M) 3 (fun _ => 1000) 0 [qNm 3, qNm 4] [.string s, .int .i64 a, t2, t3, t4, t5, .int .i64 n, t7, t8, t9, t10, t11, t12, t13, t14, t15, t16, t17, t18, t19, t20, t21, t22, t23, t24, t25, t26, t27, t28, t29, t30, t31, t32, t33, t34, t35] [uni, pow, mxl M] (outs Tryz.prog 105) = some (.tuple #[.int .i64 n, .int .i64 a], [uni, pow, mxl M]) := by kernel_rfl
/-- Digits from a place on, and where they end. -/
def nmN (s : ByteArray) (a : Int) : Int := digN GS 0 (s.data.toList.drop a.toNat)
def nmTo (s : ByteArray) (a : Int) : Int := a + (((s.data.toList.drop a.toNat).length - (digR (s.data.toList.drop a.toNat)).length : Nat) : Int)
def nmOk (s : ByteArray) (a : Int) : Bool := Nat.ble s.size 1000000 && decide (0 ≤ a) && decide (a ≤ 2000000)
def nmV (s : ByteArray) (a : Int) : Value := .tuple #[.int .i64 (nmN s a), .int .i64 (nmTo s a)]
theorem byteN_at {s : ByteArray} {p : Nat} (h : p < s.size) : ∃ b : UInt8, s.data.toList.drop p = b :: s.data.toList.drop (p + 1) ∧ byteN s (p : Int) = (b.toNat : Int) := by
  have hl : p < s.data.toList.length := by rw [Array.length_toList]; exact h
  refine ⟨s.data.toList[p], List.drop_eq_getElem_cons hl, ?_⟩
  unfold byteN
  rw [Int.toNat_natCast, List.getElem?_eq_getElem hl]; rfl
theorem ix_at {α : Type} {s : ByteArray} {p : Nat} (h : p < s.size) (k : Option α) : ix s (p : Int) k = k := by
  unfold ix
  rw [decide_eq_true (show (0 : Int) ≤ p by omega), decide_eq_true (show (p : Int) < (s.size : Int) by omega)]; rfl
theorem loopNm (M : Int) (s : ByteArray) (hs : s.size ≤ 1000000) (p0 : Nat) (hp0 : p0 ≤ 2000000) (T : List Value) (hT : T.length = 36) (hp : picks T [0, 1, 6] = [.string s, .int .i64 (p0 : Int), .int .i64 0]) :
    WpW Tryz.prog (Sg1 M) 3 3 (.loop BNm) T [uni, pow, mxl M] fun x T' S' => x = .exit 0 ∧ T'.length = 36 ∧ picks T' [0, 1, 6] = [.string s, .int .i64 (nmTo s p0), .int .i64 (nmN s p0)] ∧ S' = [uni, pow, mxl M] := by
  refine WpW.loop (fun m T S => ∃ (p : Nat) (n : Int), T.length = 36 ∧ picks T [0, 1, 6] = [.string s, .int .i64 (p : Int), .int .i64 n] ∧ S = [uni, pow, mxl M] ∧ m = s.size - p ∧ p0 ≤ p ∧ p ≤ 2000001 ∧ 0 ≤ n ∧ n ≤ GS ∧
    digN GS n (s.data.toList.drop p) = nmN s p0 ∧ digR (s.data.toList.drop p) = digR (s.data.toList.drop p0) ∧ (p - p0) + (s.data.toList.drop p).length = (s.data.toList.drop p0).length) ?_ (s.size - p0) T _
    ⟨p0, 0, hT, hp, rfl, rfl, Nat.le_refl _, by omega, by decide, by decide, by unfold nmN; rw [Int.toNat_natCast], rfl, by omega⟩
  rintro m T S ⟨p, n, hT, hp, rfl, rfl, g1, g2, h2, h3, h4, h5, h6⟩
  have hp : [nthD T 0, nthD T 1, nthD T 6] = _ := hp
  injection hp with h0 hp
  injection hp with h1 hp
  injection hp with h6 hp
  have eT : T = [.string s, .int .i64 (p : Int), nthD T 2, nthD T 3, nthD T 4, nthD T 5, .int .i64 n, nthD T 7, nthD T 8, nthD T 9, nthD T 10, nthD T 11, nthD T 12, nthD T 13, nthD T 14, nthD T 15, nthD T 16, nthD T 17, nthD T 18, nthD T 19, nthD T 20, nthD T 21, nthD T 22, nthD T 23, nthD T 24, nthD T 25, nthD T 26, nthD T 27, nthD T 28, nthD T 29, nthD T 30, nthD T 31, nthD T 32, nthD T 33, nthD T 34, nthD T 35] := (spread hT).trans (by
    show [nthD T 0, nthD T 1, nthD T 2, nthD T 3, nthD T 4, nthD T 5, nthD T 6, nthD T 7, nthD T 8, nthD T 9, nthD T 10, nthD T 11, nthD T 12, nthD T 13, nthD T 14, nthD T 15, nthD T 16, nthD T 17, nthD T 18, nthD T 19, nthD T 20, nthD T 21, nthD T 22, nthD T 23, nthD T 24, nthD T 25, nthD T 26, nthD T 27, nthD T 28, nthD T 29, nthD T 30, nthD T 31, nthD T 32, nthD T 33, nthD T 34, nthD T 35] = _
    rw [h0, h1, h6])
  rw [eT]
  have hR := roundNm M s (p : Int) n (nthD T 2) (nthD T 3) (nthD T 4) (nthD T 5) (nthD T 7) (nthD T 8) (nthD T 9) (nthD T 10) (nthD T 11) (nthD T 12) (nthD T 13) (nthD T 14) (nthD T 15) (nthD T 16) (nthD T 17) (nthD T 18) (nthD T 19) (nthD T 20) (nthD T 21) (nthD T 22) (nthD T 23) (nthD T 24) (nthD T 25) (nthD T 26) (nthD T 27) (nthD T 28) (nthD T 29) (nthD T 30) (nthD T 31) (nthD T 32) (nthD T 33) (nthD T 34) (nthD T 35)
  have stop : digR (s.data.toList.drop p) = s.data.toList.drop p → digN GS n (s.data.toList.drop p) = n → evCodeK Tryz.prog (orcL []) (Sg1 M) 1060 3 BNm [.string s, .int .i64 (p : Int), nthD T 2, nthD T 3, nthD T 4, nthD T 5, .int .i64 n, nthD T 7, nthD T 8, nthD T 9, nthD T 10, nthD T 11, nthD T 12, nthD T 13, nthD T 14, nthD T 15, nthD T 16, nthD T 17, nthD T 18, nthD T 19, nthD T 20, nthD T 21, nthD T 22, nthD T 23, nthD T 24, nthD T 25, nthD T 26, nthD T 27, nthD T 28, nthD T 29, nthD T 30, nthD T 31, nthD T 32, nthD T 33, nthD T 34, nthD T 35] [uni, pow, mxl M] (sees [0, 1, 6]) = some (.exit 0, 36, [.string s, .int .i64 (p : Int), .int .i64 n], [uni, pow, mxl M]) →
      WpW Tryz.prog (Sg1 M) 3 3 BNm [.string s, .int .i64 (p : Int), nthD T 2, nthD T 3, nthD T 4, nthD T 5, .int .i64 n, nthD T 7, nthD T 8, nthD T 9, nthD T 10, nthD T 11, nthD T 12, nthD T 13, nthD T 14, nthD T 15, nthD T 16, nthD T 17, nthD T 18, nthD T 19, nthD T 20, nthD T 21, nthD T 22, nthD T 23, nthD T 24, nthD T 25, nthD T 26, nthD T 27, nthD T 28, nthD T 29, nthD T 30, nthD T 31, nthD T 32, nthD T 33, nthD T 34, nthD T 35] [uni, pow, mxl M] fun x T' S' => x = .exit 0 ∧ T'.length = 36 ∧ picks T' [0, 1, 6] = [.string s, .int .i64 (nmTo s p0), .int .i64 (nmN s p0)] ∧ S' = [uni, pow, mxl M] := by
    intro e1 e2 e3
    refine WpW.see (sg1 M) (orcOk_of (nil_ok (M := M))) (Nat.le_refl _) e3 fun T' hT' hp' => ⟨rfl, hT', ?_, rfl⟩
    rw [hp', ← h4, e2]
    have : nmTo s (p0 : Int) = (p : Int) := by
      unfold nmTo
      rw [Int.toNat_natCast, ← h5, e1]; omega
    rw [this]
  have fin : ∀ {R : Ex → List Value → List Blk → Prop}, WpW Tryz.prog (Sg1 M) 3 3 BNm [.string s, .int .i64 (p : Int), nthD T 2, nthD T 3, nthD T 4, nthD T 5, .int .i64 n, nthD T 7, nthD T 8, nthD T 9, nthD T 10, nthD T 11, nthD T 12, nthD T 13, nthD T 14, nthD T 15, nthD T 16, nthD T 17, nthD T 18, nthD T 19, nthD T 20, nthD T 21, nthD T 22, nthD T 23, nthD T 24, nthD T 25, nthD T 26, nthD T 27, nthD T 28, nthD T 29, nthD T 30, nthD T 31, nthD T 32, nthD T 33, nthD T 34, nthD T 35] [uni, pow, mxl M] (fun x T' S' => x = .exit 0 ∧ T'.length = 36 ∧ picks T' [0, 1, 6] = [.string s, .int .i64 (nmTo s p0), .int .i64 (nmN s p0)] ∧ S' = [uni, pow, mxl M]) → (∀ T' S', (T'.length = 36 ∧ picks T' [0, 1, 6] = [.string s, .int .i64 (nmTo s p0), .int .i64 (nmN s p0)] ∧ S' = [uni, pow, mxl M]) → R (.exit 0) T' S') → WpW Tryz.prog (Sg1 M) 3 3 BNm [.string s, .int .i64 (p : Int), nthD T 2, nthD T 3, nthD T 4, nthD T 5, .int .i64 n, nthD T 7, nthD T 8, nthD T 9, nthD T 10, nthD T 11, nthD T 12, nthD T 13, nthD T 14, nthD T 15, nthD T 16, nthD T 17, nthD T 18, nthD T 19, nthD T 20, nthD T 21, nthD T 22, nthD T 23, nthD T 24, nthD T 25, nthD T 26, nthD T 27, nthD T 28, nthD T 29, nthD T 30, nthD T 31, nthD T 32, nthD T 33, nthD T 34, nthD T 35] [uni, pow, mxl M] R :=
    fun hw hq => hw.mono fun x T' S' ⟨hx, h⟩ => by subst hx; exact hq T' S' h
  by_cases hlt : p < s.size
  · obtain ⟨b, hd, hb⟩ := byteN_at hlt
    rw [decide_eq_true (show (p : Int) < (s.size : Int) by omega), ix_at hlt, ix_at hlt, ix_at hlt, hb] at hR
    have hdg : dgB b = (decide ((b.toNat : Int) ≥ 48) && decide ((b.toNat : Int) ≤ 57)) := by
      rw [Bool.eq_iff_iff]
      simp only [dgB, Bool.and_eq_true, decide_eq_true_eq, Nat.ble_eq]; omega
    cases hg : dgB b with
    | true =>
      rw [hg, eq_comm, Bool.and_eq_true] at hdg
      rw [hdg.1, hdg.2] at hR
      simp only [decide_eq_true_eq] at hdg
      have hdn : digN GS n (s.data.toList.drop p) = digN GS (mn (10 * n + ((b.toNat : Int) - 48)) GS) (s.data.toList.drop (p + 1)) := by rw [hd]; simp only [digN, hg, cond_true]
      have hdr : digR (s.data.toList.drop p) = digR (s.data.toList.drop (p + 1)) := by rw [hd]; simp only [digR, hg, cond_true]
      have hln : (s.data.toList.drop p).length = (s.data.toList.drop (p + 1)).length + 1 := by rw [hd]; rfl
      have e1 : w (w (10 * n) + w (w8 ((b.toNat : Int) - 48))) = 10 * n + ((b.toNat : Int) - 48) := by
        unfold GS at h3
        have : w8 ((b.toNat : Int) - 48) = (b.toNat : Int) - 48 := by
          unfold w8 IntKind.wrap; simp [IntKind.bits, IntKind.signed]; omega
        rw [this, w_eq ((b.toNat : Int) - 48) (by omega) (by omega), w_eq (10 * n) (by omega) (by omega), w_eq _ (by omega) (by omega)]
      have e2 : w ((p : Int) + 1) = ((p + 1 : Nat) : Int) := by rw [w_eq _ (by omega) (by omega)]; omega
      rw [e1, e2] at hR
      refine WpW.see (sg1 M) (orcOk_of (nil_ok (M := M))) (Nat.le_refl _) hR fun T' hT' hp' => ?_
      refine ⟨s.size - (p + 1), by omega, p + 1, _, hT', hp', rfl, rfl, by omega, by omega, ?_, ?_, ?_, ?_, by omega⟩
      · unfold mn; split <;> omega
      · unfold mn GS; split <;> omega
      · rw [← h4, hdn]; rfl
      · rw [← h5, hdr]
    | false =>
      have hdn : digN GS n (s.data.toList.drop p) = n := by rw [hd]; simp only [digN, hg, cond_false]
      have hdr : digR (s.data.toList.drop p) = s.data.toList.drop p := by rw [hd]; simp only [digR, hg, cond_false]
      refine fin (stop hdr hdn ?_) fun T' S' h => ⟨rfl, h⟩
      rw [hR]
      rw [hg] at hdg
      cases ha : decide ((b.toNat : Int) ≥ 48) with
      | false => rfl
      | true =>
        rw [ha, Bool.true_and] at hdg
        rw [← hdg]; rfl
  · have hdr : s.data.toList.drop p = [] := List.drop_eq_nil_of_le (by rw [Array.length_toList]; exact Nat.le_of_not_lt hlt)
    rw [decide_eq_false (show ¬ (p : Int) < (s.size : Int) by omega)] at hR
    exact fin (stop (by rw [hdr]; rfl) (by rw [hdr]; rfl) hR) fun T' S' h => ⟨rfl, h⟩
theorem wNm (M : Int) (s : ByteArray) (hs : s.size ≤ 1000000) (p0 : Nat) (hp0 : p0 ≤ 2000000) : WpW Tryz.prog (Sg1 M) 3 3 (bodyOf Tryz.prog 105) (tmps0Of Tryz.prog 105 [.string s, .int .i64 (p0 : Int)]) (Sg1 M) fun x T' U => (match x with | .exit _ => False | _ => True) ∧ (∃ N, U = Sg1 M ++ N) ∧ outOf Tryz.prog 105 T' U = some (nmV s p0) := by
  rw [tmpsNm]
  refine WpW.of_pieces ?_
  rw [show flatC (bodyOf Tryz.prog 105) = _ from LNm_eq]
  refine WpL.see (l := [_, _]) (m := [_, _, _]) (sg1 M) (orcOk_of (nil_ok (M := M))) (Nat.le_refl _) (headNm M s p0) fun T hT hp => ?_
  refine WpL.step (WpW.block ((loopNm M s hs p0 hp0 T hT hp).mono ?_))
  rintro x T S ⟨rfl, hT, hp, rfl⟩
  have hp : [nthD T 0, nthD T 1, nthD T 6] = _ := hp
  injection hp with h0 hp
  injection hp with h1 hp
  injection hp with h6 hp
  have eT : T = [.string s, .int .i64 (nmTo s p0), nthD T 2, nthD T 3, nthD T 4, nthD T 5, .int .i64 (nmN s p0), nthD T 7, nthD T 8, nthD T 9, nthD T 10, nthD T 11, nthD T 12, nthD T 13, nthD T 14, nthD T 15, nthD T 16, nthD T 17, nthD T 18, nthD T 19, nthD T 20, nthD T 21, nthD T 22, nthD T 23, nthD T 24, nthD T 25, nthD T 26, nthD T 27, nthD T 28, nthD T 29, nthD T 30, nthD T 31, nthD T 32, nthD T 33, nthD T 34, nthD T 35] := (spread hT).trans (by
    show [nthD T 0, nthD T 1, nthD T 2, nthD T 3, nthD T 4, nthD T 5, nthD T 6, nthD T 7, nthD T 8, nthD T 9, nthD T 10, nthD T 11, nthD T 12, nthD T 13, nthD T 14, nthD T 15, nthD T 16, nthD T 17, nthD T 18, nthD T 19, nthD T 20, nthD T 21, nthD T 22, nthD T 23, nthD T 24, nthD T 25, nthD T 26, nthD T 27, nthD T 28, nthD T 29, nthD T 30, nthD T 31, nthD T 32, nthD T 33, nthD T 34, nthD T 35] = _
    rw [h0, h1, h6])
  rw [eT]
  refine WpL.mono (WpL.of_k (sg1 M) (orcOk_of (nil_ok (M := M))) (Nat.le_refl _) _ _ _ _ (tailNm M s (nmTo s p0) (nmN s p0) (nthD T 2) (nthD T 3) (nthD T 4) (nthD T 5) (nthD T 7) (nthD T 8) (nthD T 9) (nthD T 10) (nthD T 11) (nthD T 12) (nthD T 13) (nthD T 14) (nthD T 15) (nthD T 16) (nthD T 17) (nthD T 18) (nthD T 19) (nthD T 20) (nthD T 21) (nthD T 22) (nthD T 23) (nthD T 24) (nthD T 25) (nthD T 26) (nthD T 27) (nthD T 28) (nthD T 29) (nthD T 30) (nthD T 31) (nthD T 32) (nthD T 33) (nthD T 34) (nthD T 35))) ?_
  intro x T' U hk
  obtain ⟨h1, rfl, h2⟩ := outs_eq hk
  cases x with
  | normal => exact ⟨h1, ⟨[], rfl⟩, h2⟩
  | ret => exact ⟨h1, ⟨[], rfl⟩, h2⟩
  | exit id => exact h1.elim
def cNmb : Con := ⟨105, fun args => match args with
  | [.string s, .int .i64 a] => some (.ite (nmOk s a) (.val (nmV s a)) .no)
  | _ => none⟩
theorem cNmb_ok (M : Int) : ConOk M cNmb := by
  intro args t v h hv w inv
  simp only [cNmb] at h
  split at h
  · rename_i s a
    cases h
    obtain ⟨h1, rfl⟩ := OT.pre hv
    simp only [nmOk, Bool.and_eq_true, decide_eq_true_eq] at h1
    obtain ⟨⟨h1, h2⟩, h3⟩ := h1
    have ha : a = ((a.toNat : Nat) : Int) := by omega
    rw [ha]
    exact calls_of_W (sg1 M) (by rw [show (Tryz.prog.funcs[105]?).bind (·.body) = some (bodyOf Tryz.prog 105) from by kernel_rfl]; simp) rfl rfl rfl (wNm M s (Nat.le_of_ble_eq_true h1) a.toNat (by omega)) inv
  · cases h
end Go.Proofs.YtihccnfaibiiiaaGreatDoor.R
