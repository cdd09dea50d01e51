/- Ring: texts of numbers, Ub, Uc, Ud in one. -/
import Derived.Test.YtihccnfaibiiiaaGreatDoorK15
import Derived.Test.YtihccnfaibiiiaaGreatDoorK07
import Derived.Test.YtihccnfaibiiiaaGreatDoorK10
import Derived.Test.YtihccnfaibiiiaaGreatDoorK11
namespace Go.Proofs.YtihccnfaibiiiaaGreatDoor.R
open Go Go.Proofs.XX.Vm Go.Proofs.XX.Rm Go.RowKit
set_option maxRecDepth 100000

/- Ring: the specification's Parse: its pieces (made by mkps.py). -/

abbrev LPs : List Con := [cNmb, con1 57 fun x => .val (.int .i64 (chkS x)), cFrm, cTxt]
theorem LPs_ok (M : Int) : ∀ c ∈ LPs, ConOk M c := mem_cons_ok (cNmb_ok M) (mem_cons_ok (con1_val (g := chkT) (cChkR_ok M) chkS_get) (mem_cons_ok (cFrm_ok M) (mem_cons_ok (cTxt_ok M) nil_ok)))
noncomputable abbrev qPs (i : Nat) : Code := nthC (pcs Tryz.prog 78) i
noncomputable abbrev BPs : Code := loopOf Tryz.prog 78 0
theorem LPs_eq : pcs Tryz.prog 78 = [qPs 0, qPs 1, qPs 2, qPs 3, qPs 4, .block 0 (.loop BPs), qPs 6, qPs 7, qPs 8, qPs 9, qPs 10, qPs 11] := by kernel_rfl
theorem tmpsPs (s : ByteArray) : tmps0Of Tryz.prog 78 [.string s] = .string s :: List.replicate 146 undef := by kernel_rfl
theorem headPs (M : Int) (s : ByteArray) : evP Tryz.prog (orcL LPs) (Sg1 M) 3 (fun _ => 1000) 0 [qPs 0, qPs 1, qPs 2, qPs 3, qPs 4] (.string s :: List.replicate 146 undef) [uni, pow, mxl M] (sees [0, 2, 3, 4, 5]) =
    bif !(s.toList == (bs []).toList) then ix s 0 (bif byteN s 0 == 40 then some (.normal, 147, [.string s, .pointer (some ⟨3, 0, none⟩), .int .i64 0, .pointer (some ⟨4, 0, none⟩), .int .i64 1], [uni, pow, mxl M, rb O, rb O]) else some (.normal, 147, [.string s, .pointer (some ⟨3, 0, none⟩), .int .i64 0, .pointer (some ⟨4, 0, none⟩), .int .i64 0], [uni, pow, mxl M, rb O, rb O])) else some (.normal, 147, [.string s, .pointer (some ⟨3, 0, none⟩), .int .i64 0, .pointer (some ⟨4, 0, none⟩), .int .i64 0], [uni, pow, mxl M, rb O, rb O]) := by kernel_rfl
section
variable {α : Type}
def pS (s : ByteArray) (a : Int) (kx body : Option α) : Option α := bif decide (a < (s.size : Int)) then ix s a (bif byteN s a != 41 then body else kx) else kx
def pSgn (s : ByteArray) (a : Int) (k : Int → Int → Option α) : Option α :=
  ix s a (bif byteN s a == 45 then ix s a (bif byteN s a == 45 then k (-1) (w (a + 1)) else ix s a (bif byteN s a == 43 then k (-1) (w (a + 1)) else k (-1) a))
    else ix s a (bif byteN s a == 45 then k 1 (w (a + 1)) else ix s a (bif byteN s a == 43 then k 1 (w (a + 1)) else k 1 a)))
def pNum (s : ByteArray) (a : Int) (k : Int → Int → Option α) : Option α := bif nmOk s a then (bif nmTo s a == a then k 1 (nmTo s a) else k (nmN s a) (nmTo s a)) else none
def pUni (s : ByteArray) (a : Int) (k : Int → Int → Option α) : Option α :=
  bif decide (a < (s.size : Int)) then ix s a (bif byteN s a == 50 then ix s a (k (w (w8 (byteN s a - 48))) (w (a + 1))) else ix s a (bif byteN s a == 51 then ix s a (k (w (w8 (byteN s a - 48))) (w (a + 1))) else k 1 a)) else k 1 a
def pPow (s : ByteArray) (a : Int) (k : Int → Int → Option α) : Option α := bif decide (a < (s.size : Int)) then ix s a (bif byteN s a == 119 then pUni s (w (a + 1)) k else k 0 a) else k 0 a
def pSet (pw v : Int) (x : N) (k : N → Option α) : Option α := bif pw == 0 then k (setC x 0 v) else bif pw == 1 then k (setC x 1 v) else bif pw == 2 then k (setC x 2 v) else k (setC x 3 v)
end
theorem roundPs (M : Int) (s : ByteArray) (a : Int) (x : N) (t1 t6 t7 t8 t9 t10 t11 t12 t13 t14 t15 t16 t17 t18 t19 t20 t21 t22 t23 t24 t25 t26 t27 t28 t29 t30 t31 t32 t33 t34 t35 t36 t37 t38 t39 t40 t41 t42 t43 t44 t45 t46 t47 t48 t49 t50 t51 t52 t53 t54 t55 t56 t57 t58 t59 t60 t61 t62 t63 t64 t65 t66 t67 t68 t69 t70 t71 t72 t73 t74 t75 t76 t77 t78 t79 t80 t81 t82 t83 t84 t85 t86 t87 t88 t89 t90 t91 t92 t93 t94 t95 t96 t97 t98 t99 t100 t101 t102 t103 t104 t105 t106 t107 t108 t109 t110 t111 t112 t113 t114 t115 t116 t117 t118 t119 t120 t121 t122 t123 t124 t125 t126 t127 t128 t129 t130 t131 t132 t133 t134 t135 t136 t137 t138 t139 t140 t141 t142 t143 t144 t145 t146 : Value) : evCodeK Tryz.prog (orcL LPs) (Sg1 M) 1060 3 BPs [.string s, t1, .pointer (some ⟨3, 0, none⟩), .int .i64 0, .pointer (some ⟨4, 0, none⟩), .int .i64 a, t6, t7, t8, t9, t10, t11, t12, t13, t14, t15, t16, t17, t18, t19, t20, t21, t22, t23, t24, t25, t26, t27, t28, t29, t30, t31, t32, t33, t34, t35, t36, t37, t38, t39, t40, t41, t42, t43, t44, t45, t46, t47, t48, t49, t50, t51, t52, t53, t54, t55, t56, t57, t58, t59, t60, t61, t62, t63, t64, t65, t66, t67, t68, t69, t70, t71, t72, t73, t74, t75, t76, t77, t78, t79, t80, t81, t82, t83, t84, t85, t86, t87, t88, t89, t90, t91, t92, t93, t94, t95, t96, t97, t98, t99, t100, t101, t102, t103, t104, t105, t106, t107, t108, t109, t110, t111, t112, t113, t114, t115, t116, t117, t118, t119, t120, t121, t122, t123, t124, t125, t126, t127, t128, t129, t130, t131, t132, t133, t134, t135, t136, t137, t138, t139, t140, t141, t142, t143, t144, t145, t146] [uni, pow, mxl M, rb O, rb x] (sees [0, 2, 3, 4, 5]) =
    pS s a (some (.exit 0, 147, [.string s, .pointer (some ⟨3, 0, none⟩), .int .i64 0, .pointer (some ⟨4, 0, none⟩), .int .i64 a], [uni, pow, mxl M, rb O, rb x])) (pSgn s a fun sg a1 => pNum s a1 fun n a2 => pPow s a2 fun pw a3 => bif a3 == a then some (.ret, 147, [.string s, .pointer (some ⟨3, 0, none⟩), .int .i64 4, .pointer (some ⟨4, 0, none⟩), .int .i64 a3], [uni, pow, mxl M, rb O, rb x]) else pSet pw (w (sg * n)) x fun y => some (.normal, 147, [.string s, .pointer (some ⟨3, 0, none⟩), .int .i64 0, .pointer (some ⟨4, 0, none⟩), .int .i64 a3], [uni, pow, mxl M, rb O, rb y])) := by kernel_rfl
theorem retPs (M : Int) (x : N) (e : Int) (v0 v5 : Value) (t1 t6 t7 t8 t9 t10 t11 t12 t13 t14 t15 t16 t17 t18 t19 t20 t21 t22 t23 t24 t25 t26 t27 t28 t29 t30 t31 t32 t33 t34 t35 t36 t37 t38 t39 t40 t41 t42 t43 t44 t45 t46 t47 t48 t49 t50 t51 t52 t53 t54 t55 t56 t57 t58 t59 t60 t61 t62 t63 t64 t65 t66 t67 t68 t69 t70 t71 t72 t73 t74 t75 t76 t77 t78 t79 t80 t81 t82 t83 t84 t85 t86 t87 t88 t89 t90 t91 t92 t93 t94 t95 t96 t97 t98 t99 t100 t101 t102 t103 t104 t105 t106 t107 t108 t109 t110 t111 t112 t113 t114 t115 t116 t117 t118 t119 t120 t121 t122 t123 t124 t125 t126 t127 t128 t129 t130 t131 t132 t133 t134 t135 t136 t137 t138 t139 t140 t141 t142 t143 t144 t145 t146 : Value) : outOf Tryz.prog 78 [v0, t1, .pointer (some ⟨3, 0, none⟩), .int .i64 e, .pointer (some ⟨4, 0, none⟩), v5, t6, t7, t8, t9, t10, t11, t12, t13, t14, t15, t16, t17, t18, t19, t20, t21, t22, t23, t24, t25, t26, t27, t28, t29, t30, t31, t32, t33, t34, t35, t36, t37, t38, t39, t40, t41, t42, t43, t44, t45, t46, t47, t48, t49, t50, t51, t52, t53, t54, t55, t56, t57, t58, t59, t60, t61, t62, t63, t64, t65, t66, t67, t68, t69, t70, t71, t72, t73, t74, t75, t76, t77, t78, t79, t80, t81, t82, t83, t84, t85, t86, t87, t88, t89, t90, t91, t92, t93, t94, t95, t96, t97, t98, t99, t100, t101, t102, t103, t104, t105, t106, t107, t108, t109, t110, t111, t112, t113, t114, t115, t116, t117, t118, t119, t120, t121, t122, t123, t124, t125, t126, t127, t128, t129, t130, t131, t132, t133, t134, t135, t136, t137, t138, t139, t140, t141, t142, t143, t144, t145, t146] [uni, pow, mxl M, rb O, rb x] = some (resV (O, e)) := by kernel_rfl
def pEnd (s : ByteArray) (x : N) (bad good : Option (Value × List Blk)) : Option (Value × List Blk) :=
  bif chkS x != 0 then bad else bif symN x then (bif !(eqN x.nf x) then bad else bif okB x && !(x.zero && x.k != 0) then (bif !((bs (numC x)).toList == s.toList) then bad else good) else none) else none
theorem tailPs (M : Int) (s : ByteArray) (a : Int) (x : N) (t1 t6 t7 t8 t9 t10 t11 t12 t13 t14 t15 t16 t17 t18 t19 t20 t21 t22 t23 t24 t25 t26 t27 t28 t29 t30 t31 t32 t33 t34 t35 t36 t37 t38 t39 t40 t41 t42 t43 t44 t45 t46 t47 t48 t49 t50 t51 t52 t53 t54 t55 t56 t57 t58 t59 t60 t61 t62 t63 t64 t65 t66 t67 t68 t69 t70 t71 t72 t73 t74 t75 t76 t77 t78 t79 t80 t81 t82 t83 t84 t85 t86 t87 t88 t89 t90 t91 t92 t93 t94 t95 t96 t97 t98 t99 t100 t101 t102 t103 t104 t105 t106 t107 t108 t109 t110 t111 t112 t113 t114 t115 t116 t117 t118 t119 t120 t121 t122 t123 t124 t125 t126 t127 t128 t129 t130 t131 t132 t133 t134 t135 t136 t137 t138 t139 t140 t141 t142 t143 t144 t145 t146 : Value) : evP Tryz.prog (orcL LPs) (Sg1 M) 3 (fun _ => 1000) 0 [qPs 6, qPs 7, qPs 8, qPs 9, qPs 10, qPs 11] [.string s, t1, .pointer (some ⟨3, 0, none⟩), .int .i64 0, .pointer (some ⟨4, 0, none⟩), .int .i64 a, t6, t7, t8, t9, t10, t11, t12, t13, t14, t15, t16, t17, t18, t19, t20, t21, t22, t23, t24, t25, t26, t27, t28, t29, t30, t31, t32, t33, t34, t35, t36, t37, t38, t39, t40, t41, t42, t43, t44, t45, t46, t47, t48, t49, t50, t51, t52, t53, t54, t55, t56, t57, t58, t59, t60, t61, t62, t63, t64, t65, t66, t67, t68, t69, t70, t71, t72, t73, t74, t75, t76, t77, t78, t79, t80, t81, t82, t83, t84, t85, t86, t87, t88, t89, t90, t91, t92, t93, t94, t95, t96, t97, t98, t99, t100, t101, t102, t103, t104, t105, t106, t107, t108, t109, t110, t111, t112, t113, t114, t115, t116, t117, t118, t119, t120, t121, t122, t123, t124, t125, t126, t127, t128, t129, t130, t131, t132, t133, t134, t135, t136, t137, t138, t139, t140, t141, t142, t143, t144, t145, t146] [uni, pow, mxl M, rb O, rb x] (outs Tryz.prog 78) =
    bif decide (w (a + 2) < (s.size : Int)) then (bif nmOk s (w (a + 3)) then pEnd s (withK x (nmN s (w (a + 3)))) (some (resV (O, 4), [uni, pow, mxl M, rb O, rb (withK x (nmN s (w (a + 3))))])) (some (resV (withK x (nmN s (w (a + 3))), 0), [uni, pow, mxl M, rb (withK x (nmN s (w (a + 3)))), rb (withK x (nmN s (w (a + 3))))])) else none)
    else pEnd s x (some (resV (O, 4), [uni, pow, mxl M, rb O, rb x])) (some (resV (x, 0), [uni, pow, mxl M, rb x, rb x])) := by kernel_rfl
/- Ring: the specification's Parse, whole (made by mkps.py). -/

theorem digR_drop : ∀ m : List UInt8, digR m = m.drop (m.length - (digR m).length)
  | [] => rfl
  | b :: l => by
    have h := digR_drop l
    have hl := digR_le l
    unfold digR
    cases dgB b with
    | false => simp
    | true =>
      simp only [cond_true, List.length_cons]
      rw [show l.length + 1 - (digR l).length = (l.length - (digR l).length) + 1 by omega, List.drop_succ_cons]
      exact h
/-- What stands behind a place. -/
def Beh (s : ByteArray) (a : Nat) (m : List UInt8) : Prop := s.data.toList.drop a = m ∧ a ≤ s.size
theorem Beh.len {s : ByteArray} {a : Nat} {m : List UInt8} (h : Beh s a m) : m.length + a = s.size := by
  have h2 := h.2
  rw [← h.1, List.length_drop, Array.length_toList]
  show s.size - a + a = s.size
  omega
theorem Beh.cons {s : ByteArray} {a : Nat} {b : UInt8} {m : List UInt8} (h : Beh s a (b :: m)) : a < s.size ∧ byteN s (a : Int) = (b.toNat : Int) ∧ Beh s (a + 1) m := by
  have hl := h.len
  have hlt : a < s.size := by rw [List.length_cons] at hl; omega
  obtain ⟨c, h1, h2⟩ := byteN_at hlt
  rw [h.1] at h1
  injection h1 with e1 e2
  exact ⟨hlt, by rw [h2, e1], e2.symm, by omega⟩
theorem Beh.nil {s : ByteArray} {a : Nat} (h : Beh s a []) : ¬ a < s.size := by have := h.len; simp at this; omega
theorem byte_eq (b : UInt8) (c : Nat) (hc : c < 256) : (((b.toNat : Nat) : Int) == (c : Int)) = (b == UInt8.ofNat c) := by
  rw [Bool.eq_iff_iff, beq_iff_eq, beq_iff_eq]
  constructor
  · intro e
    have : b.toNat = c := by omega
    rw [← this, UInt8.ofNat_toNat]
  · rintro rfl
    simp; omega
section
variable {α : Type} {s : ByteArray}
theorem pSgn_eq (hs : s.size ≤ 1000000) {a : Nat} {b : UInt8} {l : List UInt8} (h : Beh s a (b :: l)) (k : Int → Int → Option α) : ∃ a1 : Nat, Beh s a1 (aft (b :: l)) ∧ pSgn s (a : Int) k = k (sgn (b :: l)) (a1 : Int) := by
  obtain ⟨h1, h2, h3⟩ := h.cons
  have hw : w ((a : Int) + 1) = ((a + 1 : Nat) : Int) := by rw [w_eq _ (by omega) (by omega)]; omega
  have h45 := byte_eq b 45 (by omega)
  have h43 := byte_eq b 43 (by omega)
  unfold pSgn
  simp only [ix_at h1, h2, hw]
  rw [show (((b.toNat : Nat) : Int) == 45) = (b == 45) from h45, show (((b.toNat : Nat) : Int) == 43) = (b == 43) from h43]
  show ∃ a1 : Nat, Beh s a1 (bif b == 45 then l else bif b == 43 then l else b :: l) ∧ _ = k (bif b == 45 then -1 else 1) (a1 : Int)
  cases b == 45 with
  | true => exact ⟨a + 1, h3, rfl⟩
  | false =>
    cases b == 43 with
    | true => exact ⟨a + 1, h3, rfl⟩
    | false => exact ⟨a, h, rfl⟩
theorem pNum_eq (hs : s.size ≤ 1000000) {a : Nat} {m : List UInt8} (h : Beh s a m) (k : Int → Int → Option α) : ∃ a2 : Nat, Beh s a2 (digR m) ∧ pNum s (a : Int) k = k (mag GS m) (a2 : Int) := by
  have ha := h.2
  have hl := h.len
  have hd := digR_le m
  have hok : nmOk s (a : Int) = true := by
    unfold nmOk
    rw [Nat.ble_eq_true_of_le hs, decide_eq_true (show (0 : Int) ≤ a by omega), decide_eq_true (show (a : Int) ≤ 2000000 by omega)]; rfl
  have hN : nmN s (a : Int) = digN GS 0 m := by unfold nmN; rw [Int.toNat_natCast, h.1]
  have hT : nmTo s (a : Int) = ((a + (m.length - (digR m).length) : Nat) : Int) := by unfold nmTo; rw [Int.toNat_natCast, h.1]; omega
  refine ⟨a + (m.length - (digR m).length), ⟨by rw [← List.drop_drop, h.1, ← digR_drop], by omega⟩, ?_⟩
  unfold pNum mag wrt
  rw [hok, hN, hT]
  by_cases he : (digR m).length < m.length
  · rw [show Nat.blt (digR m).length m.length = true from Nat.ble_eq_true_of_le he, show (((a + (m.length - (digR m).length) : Nat) : Int) == (a : Int)) = false by rw [beq_eq_false_iff_ne]; omega]; rfl
  · rw [show Nat.blt (digR m).length m.length = false by rw [Bool.eq_false_iff]; intro e; exact he (Nat.le_of_ble_eq_true e), show (((a + (m.length - (digR m).length) : Nat) : Int) == (a : Int)) = true by rw [beq_iff_eq]; omega]; rfl
theorem pUni_eq (hs : s.size ≤ 1000000) {a : Nat} {m : List UInt8} (h : Beh s a m) (k : Int → Int → Option α) : ∃ a3 : Nat, Beh s a3 (uniR (119 :: m)) ∧ pUni s (a : Int) k = k (uniI (119 :: m) : Nat) (a3 : Int) := by
  unfold pUni
  cases m with
  | nil =>
    rw [decide_eq_false (show ¬ (a : Int) < (s.size : Int) by have := h.nil; omega)]
    exact ⟨a, h, rfl⟩
  | cons c m =>
    obtain ⟨h1, h2, h3⟩ := h.cons
    have hw : w ((a : Int) + 1) = ((a + 1 : Nat) : Int) := by rw [w_eq _ (by omega) (by omega)]; omega
    rw [decide_eq_true (show (a : Int) < (s.size : Int) by omega)]
    simp only [ix_at h1, h2, hw, cond_true]
    have e2 : Lib.hasPrefix (119 :: c :: m) [119, 50] = (c == 50) := by
      show ((119 == 119) && ((50 == c) && List.isPrefixOf [] m)) = _
      rw [show List.isPrefixOf [] m = true by cases m <;> rfl, Bool.and_true, Bool.eq_iff_iff, Bool.and_eq_true]
      simp only [beq_iff_eq, true_and]; exact eq_comm
    have e3 : Lib.hasPrefix (119 :: c :: m) [119, 51] = (c == 51) := by
      show ((119 == 119) && ((51 == c) && List.isPrefixOf [] m)) = _
      rw [show List.isPrefixOf [] m = true by cases m <;> rfl, Bool.and_true, Bool.eq_iff_iff, Bool.and_eq_true]
      simp only [beq_iff_eq, true_and]; exact eq_comm
    have e1 : Lib.hasPrefix (119 :: c :: m) [119] = true := by
      show ((119 == 119) && List.isPrefixOf [] (c :: m)) = _
      rfl
    unfold uniI uniR
    rw [e1, e2, e3, show (((c.toNat : Nat) : Int) == 50) = (c == 50) from byte_eq c 50 (by omega), show (((c.toNat : Nat) : Int) == 51) = (c == 51) from byte_eq c 51 (by omega)]
    by_cases c5 : c = 50
    · subst c5; exact ⟨a + 1, h3, rfl⟩
    · rw [show (c == 50) = false by simpa using c5]
      by_cases c6 : c = 51
      · subst c6; exact ⟨a + 1, h3, rfl⟩
      · rw [show (c == 51) = false by simpa using c6]
        exact ⟨a, h, rfl⟩
theorem pPow_eq (hs : s.size ≤ 1000000) {a : Nat} {m : List UInt8} (h : Beh s a m) (k : Int → Int → Option α) : ∃ a3 : Nat, Beh s a3 (uniR m) ∧ pPow s (a : Int) k = k (uniI m : Nat) (a3 : Int) := by
  unfold pPow
  cases m with
  | nil =>
    rw [decide_eq_false (show ¬ (a : Int) < (s.size : Int) by have := h.nil; omega)]
    exact ⟨a, h, rfl⟩
  | cons b m =>
    obtain ⟨h1, h2, h3⟩ := h.cons
    have hw : w ((a : Int) + 1) = ((a + 1 : Nat) : Int) := by rw [w_eq _ (by omega) (by omega)]; omega
    rw [decide_eq_true (show (a : Int) < (s.size : Int) by omega)]
    simp only [ix_at h1, h2, hw, cond_true]
    rw [show (((b.toNat : Nat) : Int) == 119) = (b == 119) from byte_eq b 119 (by omega)]
    by_cases hb : b = 119
    · subst hb
      exact pUni_eq hs h3 k
    · rw [show (b == 119) = false by simpa using hb]
      have e : ∀ u : List UInt8, Lib.hasPrefix (b :: m) (119 :: u) = false := by
        intro u
        show ((119 == b) && _) = false
        rw [show ((119 : UInt8) == b) = false by rw [beq_eq_false_iff_ne]; exact fun e => hb e.symm]; rfl
      unfold uniI uniR
      rw [e, e, e]
      exact ⟨a, h, rfl⟩
theorem pSet_eq {i : Nat} (hi : i = 0 ∨ i = 1 ∨ i = 2 ∨ i = 3) (v : Int) (x : N) (k : N → Option α) : pSet (i : Int) v x k = k (setC x i v) := by
  rcases hi with rfl | rfl | rfl | rfl <;> rfl
end
theorem sgn_mag (l m : List UInt8) : w (sgn l * mag GS m) = sgn l * mag GS m := by
  have hb := digN_le GS (by decide) m 0 (by decide) (by decide)
  have hm : 0 ≤ mag GS m ∧ mag GS m ≤ 2147483648 := by
    unfold mag
    cases wrt m
    · show (0 : Int) ≤ 1 ∧ (1 : Int) ≤ 2147483648
      omega
    · exact hb
  have hs : sgn l = 1 ∨ sgn l = -1 := by
    cases l with
    | nil => exact .inl rfl
    | cons b l => show (bif b == 45 then (-1 : Int) else 1) = 1 ∨ (bif b == 45 then (-1 : Int) else 1) = -1
                  cases b == 45
                  · exact .inl rfl
                  · exact .inr rfl
  rcases hs with h | h <;> rw [h] <;> exact w_eq _ (by omega) (by omega)
/-- A round of the loop, by what stands behind the place. -/
theorem roundPs_eq {β : Type} {s : ByteArray} (hs : s.size ≤ 1000000) {p : Nat} {l : List UInt8} (h : Beh s p l) (x : N) (kx : Option β) (ret : Int → Option β) (nx : Int → N → Option β) :
    (stopS l = true ∧ pS s (p : Int) kx (pSgn s (p : Int) fun sg a1 => pNum s a1 fun n a2 => pPow s a2 fun pw a3 => bif a3 == (p : Int) then ret a3 else pSet pw (w (sg * n)) x fun y => nx a3 y) = kx) ∨
    (stopS l = false ∧ ∃ q : Nat, Beh s q (rtR l) ∧ pS s (p : Int) kx (pSgn s (p : Int) fun sg a1 => pNum s a1 fun n a2 => pPow s a2 fun pw a3 => bif a3 == (p : Int) then ret a3 else pSet pw (w (sg * n)) x fun y => nx a3 y) =
      bif Nat.ble l.length (rtR l).length then ret (q : Int) else nx (q : Int) (setC x (rtI l) (rtP GS l))) := by
  cases l with
  | nil =>
    left
    refine ⟨rfl, ?_⟩
    unfold pS
    rw [decide_eq_false (show ¬ (p : Int) < (s.size : Int) by have := h.nil; omega)]; rfl
  | cons b l =>
    obtain ⟨h1, h2, h3⟩ := h.cons
    have h41 : (((b.toNat : Nat) : Int) != 41) = !(b == 41) := by
      show (!(((b.toNat : Nat) : Int) == 41)) = _
      rw [show (((b.toNat : Nat) : Int) == 41) = (b == 41) from byte_eq b 41 (by omega)]
    unfold pS
    rw [decide_eq_true (show (p : Int) < (s.size : Int) by omega), ix_at h1, h2, h41]
    show (((b == 41) = true) ∧ _) ∨ (((b == 41) = false) ∧ _)
    cases hb : b == 41 with
    | true => exact .inl ⟨rfl, rfl⟩
    | false =>
      right
      refine ⟨rfl, ?_⟩
      obtain ⟨a1, g1, e1⟩ := pSgn_eq hs h (fun sg a1 => pNum s a1 fun n a2 => pPow s a2 fun pw a3 => bif a3 == (p : Int) then ret a3 else pSet pw (w (sg * n)) x fun y => nx a3 y)
      obtain ⟨a2, g2, e2⟩ := pNum_eq hs g1 (fun n a2 => pPow s a2 fun pw a3 => bif a3 == (p : Int) then ret a3 else pSet pw (w (sgn (b :: l) * n)) x fun y => nx a3 y)
      obtain ⟨a3, g3, e3⟩ := pPow_eq hs g2 (fun pw a3 => bif a3 == (p : Int) then ret a3 else pSet pw (w (sgn (b :: l) * mag GS (aft (b :: l)))) x fun y => nx a3 y)
      refine ⟨a3, g3, ?_⟩
      simp only [Bool.not_false, cond_true]
      rw [e1, e2, e3, sgn_mag, pSet_eq (uniI_lt _)]
      have L1 := h.len
      have L2 := g3.len
      have hc : (((a3 : Nat) : Int) == (p : Int)) = Nat.ble (b :: l).length (rtR (b :: l)).length := by
        have hle := rtR_le (b :: l)
        have L2 : (rtR (b :: l)).length + a3 = s.size := L2
        rw [Bool.eq_iff_iff, beq_iff_eq, Nat.ble_eq]; omega
      rw [hc]; rfl
def EndP (M : Int) (s : ByteArray) (l0 : List UInt8) (T : List Value) (S : List Blk) : Prop := ∃ (p : Nat) (x : N) (r : List UInt8), T.length = 147 ∧ picks T [0, 2, 3, 4, 5] = [.string s, .pointer (some ⟨3, 0, none⟩), .int .i64 0, .pointer (some ⟨4, 0, none⟩), .int .i64 (p : Int)] ∧ S = [uni, pow, mxl M, rb O, rb x] ∧ Beh s p r ∧ rps GS (l0.length + 1) O l0 = some (x, r)
def BadP (M : Int) (s : ByteArray) (l0 : List UInt8) (T : List Value) (S : List Blk) : Prop := ∃ (q : Int) (x : N), T.length = 147 ∧ picks T [0, 2, 3, 4, 5] = [.string s, .pointer (some ⟨3, 0, none⟩), .int .i64 4, .pointer (some ⟨4, 0, none⟩), .int .i64 q] ∧ S = [uni, pow, mxl M, rb O, rb x] ∧ rps GS (l0.length + 1) O l0 = none
theorem loopPs (M : Int) (s : ByteArray) (hs : s.size ≤ 1000000) (l0 : List UInt8) (p0 : Nat) (h0 : Beh s p0 l0) (T : List Value) (hT : T.length = 147) (hp : picks T [0, 2, 3, 4, 5] = [.string s, .pointer (some ⟨3, 0, none⟩), .int .i64 0, .pointer (some ⟨4, 0, none⟩), .int .i64 (p0 : Int)]) :
    WpW Tryz.prog (Sg1 M) 3 3 (.loop BPs) T [uni, pow, mxl M, rb O, rb O] fun y T' S' => (y = .exit 0 ∧ EndP M s l0 T' S') ∨ (y = .ret ∧ BadP M s l0 T' S') := by
  refine WpW.loop (fun m T S => ∃ (p : Nat) (x : N) (l : List UInt8) (f : Nat), T.length = 147 ∧ picks T [0, 2, 3, 4, 5] = [.string s, .pointer (some ⟨3, 0, none⟩), .int .i64 0, .pointer (some ⟨4, 0, none⟩), .int .i64 (p : Int)] ∧ S = [uni, pow, mxl M, rb O, rb x] ∧ Beh s p l ∧ m = l.length ∧ l.length < f ∧ rps GS f x l = rps GS (l0.length + 1) O l0) ?_ l0.length T _ ⟨p0, O, l0, l0.length + 1, hT, hp, rfl, h0, rfl, Nat.lt_succ_self _, rfl⟩
  rintro m T S ⟨p, x, l, f, hT, hp, rfl, hb, rfl, hf, hr⟩
  have hp : [nthD T 0, nthD T 2, nthD T 3, nthD T 4, nthD T 5] = _ := hp
  injection hp with h0 hp
  injection hp with h2 hp
  injection hp with h3 hp
  injection hp with h4 hp
  injection hp with h5 hp
  have eT : T = [.string s, nthD T 1, .pointer (some ⟨3, 0, none⟩), .int .i64 0, .pointer (some ⟨4, 0, none⟩), .int .i64 (p : Int), nthD T 6, nthD T 7, nthD T 8, nthD T 9, nthD T 10, nthD T 11, nthD T 12, nthD T 13, nthD T 14, nthD T 15, nthD T 16, nthD T 17, nthD T 18, nthD T 19, nthD T 20, nthD T 21, nthD T 22, nthD T 23, nthD T 24, nthD T 25, nthD T 26, nthD T 27, nthD T 28, nthD T 29, nthD T 30, nthD T 31, nthD T 32, nthD T 33, nthD T 34, nthD T 35, nthD T 36, nthD T 37, nthD T 38, nthD T 39, nthD T 40, nthD T 41, nthD T 42, nthD T 43, nthD T 44, nthD T 45, nthD T 46, nthD T 47, nthD T 48, nthD T 49, nthD T 50, nthD T 51, nthD T 52, nthD T 53, nthD T 54, nthD T 55, nthD T 56, nthD T 57, nthD T 58, nthD T 59, nthD T 60, nthD T 61, nthD T 62, nthD T 63, nthD T 64, nthD T 65, nthD T 66, nthD T 67, nthD T 68, nthD T 69, nthD T 70, nthD T 71, nthD T 72, nthD T 73, nthD T 74, nthD T 75, nthD T 76, nthD T 77, nthD T 78, nthD T 79, nthD T 80, nthD T 81, nthD T 82, nthD T 83, nthD T 84, nthD T 85, nthD T 86, nthD T 87, nthD T 88, nthD T 89, nthD T 90, nthD T 91, nthD T 92, nthD T 93, nthD T 94, nthD T 95, nthD T 96, nthD T 97, nthD T 98, nthD T 99, nthD T 100, nthD T 101, nthD T 102, nthD T 103, nthD T 104, nthD T 105, nthD T 106, nthD T 107, nthD T 108, nthD T 109, nthD T 110, nthD T 111, nthD T 112, nthD T 113, nthD T 114, nthD T 115, nthD T 116, nthD T 117, nthD T 118, nthD T 119, nthD T 120, nthD T 121, nthD T 122, nthD T 123, nthD T 124, nthD T 125, nthD T 126, nthD T 127, nthD T 128, nthD T 129, nthD T 130, nthD T 131, nthD T 132, nthD T 133, nthD T 134, nthD T 135, nthD T 136, nthD T 137, nthD T 138, nthD T 139, nthD T 140, nthD T 141, nthD T 142, nthD T 143, nthD T 144, nthD T 145, nthD T 146] := (spread hT).trans (by
    show [nthD T 0, nthD T 1, nthD T 2, nthD T 3, nthD T 4, nthD T 5, nthD T 6, nthD T 7, nthD T 8, nthD T 9, nthD T 10, nthD T 11, nthD T 12, nthD T 13, nthD T 14, nthD T 15, nthD T 16, nthD T 17, nthD T 18, nthD T 19, nthD T 20, nthD T 21, nthD T 22, nthD T 23, nthD T 24, nthD T 25, nthD T 26, nthD T 27, nthD T 28, nthD T 29, nthD T 30, nthD T 31, nthD T 32, nthD T 33, nthD T 34, nthD T 35, nthD T 36, nthD T 37, nthD T 38, nthD T 39, nthD T 40, nthD T 41, nthD T 42, nthD T 43, nthD T 44, nthD T 45, nthD T 46, nthD T 47, nthD T 48, nthD T 49, nthD T 50, nthD T 51, nthD T 52, nthD T 53, nthD T 54, nthD T 55, nthD T 56, nthD T 57, nthD T 58, nthD T 59, nthD T 60, nthD T 61, nthD T 62, nthD T 63, nthD T 64, nthD T 65, nthD T 66, nthD T 67, nthD T 68, nthD T 69, nthD T 70, nthD T 71, nthD T 72, nthD T 73, nthD T 74, nthD T 75, nthD T 76, nthD T 77, nthD T 78, nthD T 79, nthD T 80, nthD T 81, nthD T 82, nthD T 83, nthD T 84, nthD T 85, nthD T 86, nthD T 87, nthD T 88, nthD T 89, nthD T 90, nthD T 91, nthD T 92, nthD T 93, nthD T 94, nthD T 95, nthD T 96, nthD T 97, nthD T 98, nthD T 99, nthD T 100, nthD T 101, nthD T 102, nthD T 103, nthD T 104, nthD T 105, nthD T 106, nthD T 107, nthD T 108, nthD T 109, nthD T 110, nthD T 111, nthD T 112, nthD T 113, nthD T 114, nthD T 115, nthD T 116, nthD T 117, nthD T 118, nthD T 119, nthD T 120, nthD T 121, nthD T 122, nthD T 123, nthD T 124, nthD T 125, nthD T 126, nthD T 127, nthD T 128, nthD T 129, nthD T 130, nthD T 131, nthD T 132, nthD T 133, nthD T 134, nthD T 135, nthD T 136, nthD T 137, nthD T 138, nthD T 139, nthD T 140, nthD T 141, nthD T 142, nthD T 143, nthD T 144, nthD T 145, nthD T 146] = _
    rw [h0, h2, h3, h4, h5])
  rw [eT]
  have hR := roundPs M s (p : Int) x (nthD T 1) (nthD T 6) (nthD T 7) (nthD T 8) (nthD T 9) (nthD T 10) (nthD T 11) (nthD T 12) (nthD T 13) (nthD T 14) (nthD T 15) (nthD T 16) (nthD T 17) (nthD T 18) (nthD T 19) (nthD T 20) (nthD T 21) (nthD T 22) (nthD T 23) (nthD T 24) (nthD T 25) (nthD T 26) (nthD T 27) (nthD T 28) (nthD T 29) (nthD T 30) (nthD T 31) (nthD T 32) (nthD T 33) (nthD T 34) (nthD T 35) (nthD T 36) (nthD T 37) (nthD T 38) (nthD T 39) (nthD T 40) (nthD T 41) (nthD T 42) (nthD T 43) (nthD T 44) (nthD T 45) (nthD T 46) (nthD T 47) (nthD T 48) (nthD T 49) (nthD T 50) (nthD T 51) (nthD T 52) (nthD T 53) (nthD T 54) (nthD T 55) (nthD T 56) (nthD T 57) (nthD T 58) (nthD T 59) (nthD T 60) (nthD T 61) (nthD T 62) (nthD T 63) (nthD T 64) (nthD T 65) (nthD T 66) (nthD T 67) (nthD T 68) (nthD T 69) (nthD T 70) (nthD T 71) (nthD T 72) (nthD T 73) (nthD T 74) (nthD T 75) (nthD T 76) (nthD T 77) (nthD T 78) (nthD T 79) (nthD T 80) (nthD T 81) (nthD T 82) (nthD T 83) (nthD T 84) (nthD T 85) (nthD T 86) (nthD T 87) (nthD T 88) (nthD T 89) (nthD T 90) (nthD T 91) (nthD T 92) (nthD T 93) (nthD T 94) (nthD T 95) (nthD T 96) (nthD T 97) (nthD T 98) (nthD T 99) (nthD T 100) (nthD T 101) (nthD T 102) (nthD T 103) (nthD T 104) (nthD T 105) (nthD T 106) (nthD T 107) (nthD T 108) (nthD T 109) (nthD T 110) (nthD T 111) (nthD T 112) (nthD T 113) (nthD T 114) (nthD T 115) (nthD T 116) (nthD T 117) (nthD T 118) (nthD T 119) (nthD T 120) (nthD T 121) (nthD T 122) (nthD T 123) (nthD T 124) (nthD T 125) (nthD T 126) (nthD T 127) (nthD T 128) (nthD T 129) (nthD T 130) (nthD T 131) (nthD T 132) (nthD T 133) (nthD T 134) (nthD T 135) (nthD T 136) (nthD T 137) (nthD T 138) (nthD T 139) (nthD T 140) (nthD T 141) (nthD T 142) (nthD T 143) (nthD T 144) (nthD T 145) (nthD T 146)
  obtain ⟨f, rfl⟩ : ∃ g, f = g + 1 := ⟨f - 1, by omega⟩
  rw [rps] at hr
  rcases roundPs_eq (β := Ex × Nat × List Value × List Blk) hs hb x (some (.exit 0, 147, [.string s, .pointer (some ⟨3, 0, none⟩), .int .i64 0, .pointer (some ⟨4, 0, none⟩), .int .i64 (p : Int)], [uni, pow, mxl M, rb O, rb x])) (fun a3 => some (.ret, 147, [.string s, .pointer (some ⟨3, 0, none⟩), .int .i64 4, .pointer (some ⟨4, 0, none⟩), .int .i64 a3], [uni, pow, mxl M, rb O, rb x])) (fun a3 y => some (.normal, 147, [.string s, .pointer (some ⟨3, 0, none⟩), .int .i64 0, .pointer (some ⟨4, 0, none⟩), .int .i64 a3], [uni, pow, mxl M, rb O, rb y])) with ⟨h1, h2⟩ | ⟨h1, q, hq, h2⟩
  · rw [h1] at hr
    exact WpW.see (sg1 M) (orcOk_of (LPs_ok M)) (Nat.le_refl _) (hR.trans h2) fun T' hT' hp' => .inl ⟨rfl, p, x, l, hT', hp', rfl, hb, hr.symm⟩
  · rw [h1] at hr
    have hR := hR.trans h2
    cases hc : Nat.ble l.length (rtR l).length with
    | true =>
      rw [hc] at hR hr
      exact WpW.see (sg1 M) (orcOk_of (LPs_ok M)) (Nat.le_refl _) hR fun T' hT' hp' => .inr ⟨rfl, q, x, hT', hp', rfl, hr.symm⟩
    | false =>
      rw [hc] at hR hr
      have hlt : (rtR l).length < l.length := by
        have := rtR_le l
        rw [Bool.eq_false_iff] at hc
        have : ¬ l.length ≤ (rtR l).length := fun e => hc (Nat.ble_eq_true_of_le e)
        omega
      exact WpW.see (sg1 M) (orcOk_of (LPs_ok M)) (Nat.le_refl _) hR fun T' hT' hp' => ⟨(rtR l).length, hlt, q, setC x (rtI l) (rtP GS l), rtR l, f, hT', hp', rfl, hq, rfl, by omega, hr⟩
def goodP (x : N) (l : List UInt8) : Bool := okB x && eqN x.nf x && (numC x == l)
theorem pEnd_eq (s : ByteArray) (x : N) (bad good : Option (Value × List Blk)) : pEnd s x bad good = bif goodP x s.data.toList then good else bad := by
  unfold pEnd goodP
  cases ho : okB x with
  | false =>
    have : (chkS x != 0) = true := by
      unfold chkS bif3
      unfold okB at ho
      cases h1 : rgB x <;> cases h2 : inB x <;> simp_all
    rw [this]; rfl
  | true =>
    have : chkS x = 0 := by unfold chkS; rw [bif3_ok ho]
    rw [this, symN_of ho]
    cases he : eqN x.nf x with
    | false => rfl
    | true =>
      have hx := (eqN_iff _ _).1 he
      have hz : (x.zero && x.k != 0) = false := by
        cases hz : x.zero with
        | false => rfl
        | true =>
          have : x.k = 0 := by
            have h2 : x.nf = O := by unfold N.nf; rw [hz]; rfl
            rw [← hx, h2]; rfl
          rw [this]; rfl
      rw [hz, bs_toList, show s.toList = s.data.toList from by rw [ByteArray.toList_eq]]
      cases numC x == s.data.toList <;> rfl
theorem parM_spec (l : List UInt8) : resV (parM l) = match refM l with
    | some x => bif goodP x l then resV (x, 0) else resV (O, 4)
    | none => resV (O, 4) := by
  unfold parM
  rw [same_read]
  unfold specM
  cases refM l with
  | none => rfl
  | some x =>
    show resV (match bif goodP x l then some x else none with | some x => (x, 0) | none => (O, 4)) = bif goodP x l then resV (x, 0) else resV (O, 4)
    cases goodP x l <;> rfl
theorem wPs (M : Int) (s : ByteArray) (hs : s.size ≤ 1000000) : WpW Tryz.prog (Sg1 M) 3 3 (bodyOf Tryz.prog 78) (tmps0Of Tryz.prog 78 [.string s]) (Sg1 M) fun x T' U => (match x with | .exit _ => False | _ => True) ∧ (∃ N, U = Sg1 M ++ N) ∧ outOf Tryz.prog 78 T' U = some (resV (parM s.data.toList)) := by
  rw [tmpsPs]
  refine WpW.of_pieces ?_
  rw [show flatC (bodyOf Tryz.prog 78) = _ from LPs_eq]
  have hl0 : ∃ (p0 : Nat) (l0 : List UInt8), Beh s p0 l0 ∧ l0 = (bif Lib.hasPrefix s.data.toList [40] then s.data.toList.drop 1 else s.data.toList) ∧ evP Tryz.prog (orcL LPs) (Sg1 M) 3 (fun _ => 1000) 0 [qPs 0, qPs 1, qPs 2, qPs 3, qPs 4] (.string s :: List.replicate 146 undef) [uni, pow, mxl M] (sees [0, 2, 3, 4, 5]) = some (.normal, 147, [.string s, .pointer (some ⟨3, 0, none⟩), .int .i64 0, .pointer (some ⟨4, 0, none⟩), .int .i64 (p0 : Int)], [uni, pow, mxl M, rb O, rb O]) := by
    have hH := headPs M s
    have h0 : Beh s 0 s.data.toList := ⟨rfl, Nat.zero_le _⟩
    rw [bs_toList, show s.toList = s.data.toList from by rw [ByteArray.toList_eq]] at hH
    cases hl : s.data.toList with
    | nil =>
      rw [hl] at hH h0
      exact ⟨0, [], h0, rfl, hH⟩
    | cons b l =>
      rw [hl] at hH h0
      obtain ⟨h1, h2, h3⟩ := h0.cons
      have h2 : byteN s 0 = ((b.toNat : Nat) : Int) := h2
      have hi : ∀ k : Option (Ex × Nat × List Value × List Blk), ix s 0 k = k := fun k => ix_at (p := 0) h1 k
      rw [hi, h2, show (((b.toNat : Nat) : Int) == 40) = (b == 40) from byte_eq b 40 (by omega)] at hH
      rw [hp_one]
      cases hb : b == 40 with
      | true => rw [hb] at hH; exact ⟨1, l, h3, rfl, hH⟩
      | false => rw [hb] at hH; exact ⟨0, b :: l, h0, rfl, hH⟩
  obtain ⟨p0, l0, hb0, hl0, hH⟩ := hl0
  have hspec := parM_spec s.data.toList
  unfold refM at hspec
  rw [← hl0] at hspec
  refine WpL.see (l := [_, _, _, _, _]) (m := [_, _, _, _, _, _, _]) (sg1 M) (orcOk_of (LPs_ok M)) (Nat.le_refl _) hH fun T hT hp => ?_
  refine WpL.step (WpW.block ((loopPs M s hs l0 p0 hb0 T hT hp).mono ?_))
  rintro y T S (⟨rfl, p, x, r, hT, hp, rfl, hb, hr⟩ | ⟨rfl, q, x, hT, hp, rfl, hr⟩)
  · simp only [hr] at hspec
    have hlen := hb.len
    have e2 : w ((p : Int) + 2) = ((p + 2 : Nat) : Int) := by rw [w_eq _ (by omega) (by omega)]; omega
    have e3 : w ((p : Int) + 3) = ((p + 3 : Nat) : Int) := by rw [w_eq _ (by omega) (by omega)]; omega
    have hN : nmN s ((p + 3 : Nat) : Int) = digN GS 0 (r.drop 3) := by unfold nmN; rw [Int.toNat_natCast, ← hb.1, List.drop_drop]
    have hok : nmOk s ((p + 3 : Nat) : Int) = true := by
      unfold nmOk
      rw [Nat.ble_eq_true_of_le hs, decide_eq_true (show (0 : Int) ≤ ((p + 3 : Nat) : Int) by omega), decide_eq_true (show ((p + 3 : Nat) : Int) ≤ 2000000 by omega)]; rfl
    have hb2 : decide (((p + 2 : Nat) : Int) < (s.size : Int)) = Nat.blt 2 r.length := by
      rw [Bool.eq_iff_iff, decide_eq_true_eq, Nat.blt_eq]; omega
    have hp : [nthD T 0, nthD T 2, nthD T 3, nthD T 4, nthD T 5] = _ := hp
    injection hp with h0 hp
    injection hp with h2 hp
    injection hp with h3 hp
    injection hp with h4 hp
    injection hp with h5 hp
    have eT : T = [.string s, nthD T 1, .pointer (some ⟨3, 0, none⟩), .int .i64 0, .pointer (some ⟨4, 0, none⟩), .int .i64 (p : Int), nthD T 6, nthD T 7, nthD T 8, nthD T 9, nthD T 10, nthD T 11, nthD T 12, nthD T 13, nthD T 14, nthD T 15, nthD T 16, nthD T 17, nthD T 18, nthD T 19, nthD T 20, nthD T 21, nthD T 22, nthD T 23, nthD T 24, nthD T 25, nthD T 26, nthD T 27, nthD T 28, nthD T 29, nthD T 30, nthD T 31, nthD T 32, nthD T 33, nthD T 34, nthD T 35, nthD T 36, nthD T 37, nthD T 38, nthD T 39, nthD T 40, nthD T 41, nthD T 42, nthD T 43, nthD T 44, nthD T 45, nthD T 46, nthD T 47, nthD T 48, nthD T 49, nthD T 50, nthD T 51, nthD T 52, nthD T 53, nthD T 54, nthD T 55, nthD T 56, nthD T 57, nthD T 58, nthD T 59, nthD T 60, nthD T 61, nthD T 62, nthD T 63, nthD T 64, nthD T 65, nthD T 66, nthD T 67, nthD T 68, nthD T 69, nthD T 70, nthD T 71, nthD T 72, nthD T 73, nthD T 74, nthD T 75, nthD T 76, nthD T 77, nthD T 78, nthD T 79, nthD T 80, nthD T 81, nthD T 82, nthD T 83, nthD T 84, nthD T 85, nthD T 86, nthD T 87, nthD T 88, nthD T 89, nthD T 90, nthD T 91, nthD T 92, nthD T 93, nthD T 94, nthD T 95, nthD T 96, nthD T 97, nthD T 98, nthD T 99, nthD T 100, nthD T 101, nthD T 102, nthD T 103, nthD T 104, nthD T 105, nthD T 106, nthD T 107, nthD T 108, nthD T 109, nthD T 110, nthD T 111, nthD T 112, nthD T 113, nthD T 114, nthD T 115, nthD T 116, nthD T 117, nthD T 118, nthD T 119, nthD T 120, nthD T 121, nthD T 122, nthD T 123, nthD T 124, nthD T 125, nthD T 126, nthD T 127, nthD T 128, nthD T 129, nthD T 130, nthD T 131, nthD T 132, nthD T 133, nthD T 134, nthD T 135, nthD T 136, nthD T 137, nthD T 138, nthD T 139, nthD T 140, nthD T 141, nthD T 142, nthD T 143, nthD T 144, nthD T 145, nthD T 146] := (spread hT).trans (by
      show [nthD T 0, nthD T 1, nthD T 2, nthD T 3, nthD T 4, nthD T 5, nthD T 6, nthD T 7, nthD T 8, nthD T 9, nthD T 10, nthD T 11, nthD T 12, nthD T 13, nthD T 14, nthD T 15, nthD T 16, nthD T 17, nthD T 18, nthD T 19, nthD T 20, nthD T 21, nthD T 22, nthD T 23, nthD T 24, nthD T 25, nthD T 26, nthD T 27, nthD T 28, nthD T 29, nthD T 30, nthD T 31, nthD T 32, nthD T 33, nthD T 34, nthD T 35, nthD T 36, nthD T 37, nthD T 38, nthD T 39, nthD T 40, nthD T 41, nthD T 42, nthD T 43, nthD T 44, nthD T 45, nthD T 46, nthD T 47, nthD T 48, nthD T 49, nthD T 50, nthD T 51, nthD T 52, nthD T 53, nthD T 54, nthD T 55, nthD T 56, nthD T 57, nthD T 58, nthD T 59, nthD T 60, nthD T 61, nthD T 62, nthD T 63, nthD T 64, nthD T 65, nthD T 66, nthD T 67, nthD T 68, nthD T 69, nthD T 70, nthD T 71, nthD T 72, nthD T 73, nthD T 74, nthD T 75, nthD T 76, nthD T 77, nthD T 78, nthD T 79, nthD T 80, nthD T 81, nthD T 82, nthD T 83, nthD T 84, nthD T 85, nthD T 86, nthD T 87, nthD T 88, nthD T 89, nthD T 90, nthD T 91, nthD T 92, nthD T 93, nthD T 94, nthD T 95, nthD T 96, nthD T 97, nthD T 98, nthD T 99, nthD T 100, nthD T 101, nthD T 102, nthD T 103, nthD T 104, nthD T 105, nthD T 106, nthD T 107, nthD T 108, nthD T 109, nthD T 110, nthD T 111, nthD T 112, nthD T 113, nthD T 114, nthD T 115, nthD T 116, nthD T 117, nthD T 118, nthD T 119, nthD T 120, nthD T 121, nthD T 122, nthD T 123, nthD T 124, nthD T 125, nthD T 126, nthD T 127, nthD T 128, nthD T 129, nthD T 130, nthD T 131, nthD T 132, nthD T 133, nthD T 134, nthD T 135, nthD T 136, nthD T 137, nthD T 138, nthD T 139, nthD T 140, nthD T 141, nthD T 142, nthD T 143, nthD T 144, nthD T 145, nthD T 146] = _
      rw [h0, h2, h3, h4, h5])
    rw [eT]
    have ht := tailPs M s (p : Int) x (nthD T 1) (nthD T 6) (nthD T 7) (nthD T 8) (nthD T 9) (nthD T 10) (nthD T 11) (nthD T 12) (nthD T 13) (nthD T 14) (nthD T 15) (nthD T 16) (nthD T 17) (nthD T 18) (nthD T 19) (nthD T 20) (nthD T 21) (nthD T 22) (nthD T 23) (nthD T 24) (nthD T 25) (nthD T 26) (nthD T 27) (nthD T 28) (nthD T 29) (nthD T 30) (nthD T 31) (nthD T 32) (nthD T 33) (nthD T 34) (nthD T 35) (nthD T 36) (nthD T 37) (nthD T 38) (nthD T 39) (nthD T 40) (nthD T 41) (nthD T 42) (nthD T 43) (nthD T 44) (nthD T 45) (nthD T 46) (nthD T 47) (nthD T 48) (nthD T 49) (nthD T 50) (nthD T 51) (nthD T 52) (nthD T 53) (nthD T 54) (nthD T 55) (nthD T 56) (nthD T 57) (nthD T 58) (nthD T 59) (nthD T 60) (nthD T 61) (nthD T 62) (nthD T 63) (nthD T 64) (nthD T 65) (nthD T 66) (nthD T 67) (nthD T 68) (nthD T 69) (nthD T 70) (nthD T 71) (nthD T 72) (nthD T 73) (nthD T 74) (nthD T 75) (nthD T 76) (nthD T 77) (nthD T 78) (nthD T 79) (nthD T 80) (nthD T 81) (nthD T 82) (nthD T 83) (nthD T 84) (nthD T 85) (nthD T 86) (nthD T 87) (nthD T 88) (nthD T 89) (nthD T 90) (nthD T 91) (nthD T 92) (nthD T 93) (nthD T 94) (nthD T 95) (nthD T 96) (nthD T 97) (nthD T 98) (nthD T 99) (nthD T 100) (nthD T 101) (nthD T 102) (nthD T 103) (nthD T 104) (nthD T 105) (nthD T 106) (nthD T 107) (nthD T 108) (nthD T 109) (nthD T 110) (nthD T 111) (nthD T 112) (nthD T 113) (nthD T 114) (nthD T 115) (nthD T 116) (nthD T 117) (nthD T 118) (nthD T 119) (nthD T 120) (nthD T 121) (nthD T 122) (nthD T 123) (nthD T 124) (nthD T 125) (nthD T 126) (nthD T 127) (nthD T 128) (nthD T 129) (nthD T 130) (nthD T 131) (nthD T 132) (nthD T 133) (nthD T 134) (nthD T 135) (nthD T 136) (nthD T 137) (nthD T 138) (nthD T 139) (nthD T 140) (nthD T 141) (nthD T 142) (nthD T 143) (nthD T 144) (nthD T 145) (nthD T 146)
    rw [e2, e3, hb2, hok, hN, pEnd_eq, pEnd_eq] at ht
    have hout : ∃ U, evP Tryz.prog (orcL LPs) (Sg1 M) 3 (fun _ => 1000) 0 [qPs 6, qPs 7, qPs 8, qPs 9, qPs 10, qPs 11] [.string s, nthD T 1, .pointer (some ⟨3, 0, none⟩), .int .i64 0, .pointer (some ⟨4, 0, none⟩), .int .i64 (p : Int), nthD T 6, nthD T 7, nthD T 8, nthD T 9, nthD T 10, nthD T 11, nthD T 12, nthD T 13, nthD T 14, nthD T 15, nthD T 16, nthD T 17, nthD T 18, nthD T 19, nthD T 20, nthD T 21, nthD T 22, nthD T 23, nthD T 24, nthD T 25, nthD T 26, nthD T 27, nthD T 28, nthD T 29, nthD T 30, nthD T 31, nthD T 32, nthD T 33, nthD T 34, nthD T 35, nthD T 36, nthD T 37, nthD T 38, nthD T 39, nthD T 40, nthD T 41, nthD T 42, nthD T 43, nthD T 44, nthD T 45, nthD T 46, nthD T 47, nthD T 48, nthD T 49, nthD T 50, nthD T 51, nthD T 52, nthD T 53, nthD T 54, nthD T 55, nthD T 56, nthD T 57, nthD T 58, nthD T 59, nthD T 60, nthD T 61, nthD T 62, nthD T 63, nthD T 64, nthD T 65, nthD T 66, nthD T 67, nthD T 68, nthD T 69, nthD T 70, nthD T 71, nthD T 72, nthD T 73, nthD T 74, nthD T 75, nthD T 76, nthD T 77, nthD T 78, nthD T 79, nthD T 80, nthD T 81, nthD T 82, nthD T 83, nthD T 84, nthD T 85, nthD T 86, nthD T 87, nthD T 88, nthD T 89, nthD T 90, nthD T 91, nthD T 92, nthD T 93, nthD T 94, nthD T 95, nthD T 96, nthD T 97, nthD T 98, nthD T 99, nthD T 100, nthD T 101, nthD T 102, nthD T 103, nthD T 104, nthD T 105, nthD T 106, nthD T 107, nthD T 108, nthD T 109, nthD T 110, nthD T 111, nthD T 112, nthD T 113, nthD T 114, nthD T 115, nthD T 116, nthD T 117, nthD T 118, nthD T 119, nthD T 120, nthD T 121, nthD T 122, nthD T 123, nthD T 124, nthD T 125, nthD T 126, nthD T 127, nthD T 128, nthD T 129, nthD T 130, nthD T 131, nthD T 132, nthD T 133, nthD T 134, nthD T 135, nthD T 136, nthD T 137, nthD T 138, nthD T 139, nthD T 140, nthD T 141, nthD T 142, nthD T 143, nthD T 144, nthD T 145, nthD T 146] [uni, pow, mxl M, rb O, rb x] (outs Tryz.prog 78) = some (resV (parM s.data.toList), Sg1 M ++ U) := by
      rw [ht, hspec]
      cases Nat.blt 2 r.length with
      | true =>
        simp only [cond_true]
        cases goodP (withK x (digN GS 0 (r.drop 3))) s.data.toList
        · exact ⟨_, rfl⟩
        · exact ⟨_, rfl⟩
      | false =>
        simp only [cond_false]
        cases goodP x s.data.toList
        · exact ⟨_, rfl⟩
        · exact ⟨_, rfl⟩
    obtain ⟨U, hout⟩ := hout
    refine WpL.mono (WpL.of_k (sg1 M) (orcOk_of (LPs_ok M)) (Nat.le_refl _) _ _ _ _ hout) ?_
    intro y T' U hk
    obtain ⟨h1, rfl, h2⟩ := outs_eq hk
    cases y with
    | normal => exact ⟨h1, ⟨_, rfl⟩, h2⟩
    | ret => exact ⟨h1, ⟨_, rfl⟩, h2⟩
    | exit id => exact h1.elim
  · simp only [hr] at hspec
    have hp : [nthD T 0, nthD T 2, nthD T 3, nthD T 4, nthD T 5] = _ := hp
    injection hp with h0 hp
    injection hp with h2 hp
    injection hp with h3 hp
    injection hp with h4 hp
    injection hp with h5 hp
    have eT : T = [.string s, nthD T 1, .pointer (some ⟨3, 0, none⟩), .int .i64 4, .pointer (some ⟨4, 0, none⟩), .int .i64 q, nthD T 6, nthD T 7, nthD T 8, nthD T 9, nthD T 10, nthD T 11, nthD T 12, nthD T 13, nthD T 14, nthD T 15, nthD T 16, nthD T 17, nthD T 18, nthD T 19, nthD T 20, nthD T 21, nthD T 22, nthD T 23, nthD T 24, nthD T 25, nthD T 26, nthD T 27, nthD T 28, nthD T 29, nthD T 30, nthD T 31, nthD T 32, nthD T 33, nthD T 34, nthD T 35, nthD T 36, nthD T 37, nthD T 38, nthD T 39, nthD T 40, nthD T 41, nthD T 42, nthD T 43, nthD T 44, nthD T 45, nthD T 46, nthD T 47, nthD T 48, nthD T 49, nthD T 50, nthD T 51, nthD T 52, nthD T 53, nthD T 54, nthD T 55, nthD T 56, nthD T 57, nthD T 58, nthD T 59, nthD T 60, nthD T 61, nthD T 62, nthD T 63, nthD T 64, nthD T 65, nthD T 66, nthD T 67, nthD T 68, nthD T 69, nthD T 70, nthD T 71, nthD T 72, nthD T 73, nthD T 74, nthD T 75, nthD T 76, nthD T 77, nthD T 78, nthD T 79, nthD T 80, nthD T 81, nthD T 82, nthD T 83, nthD T 84, nthD T 85, nthD T 86, nthD T 87, nthD T 88, nthD T 89, nthD T 90, nthD T 91, nthD T 92, nthD T 93, nthD T 94, nthD T 95, nthD T 96, nthD T 97, nthD T 98, nthD T 99, nthD T 100, nthD T 101, nthD T 102, nthD T 103, nthD T 104, nthD T 105, nthD T 106, nthD T 107, nthD T 108, nthD T 109, nthD T 110, nthD T 111, nthD T 112, nthD T 113, nthD T 114, nthD T 115, nthD T 116, nthD T 117, nthD T 118, nthD T 119, nthD T 120, nthD T 121, nthD T 122, nthD T 123, nthD T 124, nthD T 125, nthD T 126, nthD T 127, nthD T 128, nthD T 129, nthD T 130, nthD T 131, nthD T 132, nthD T 133, nthD T 134, nthD T 135, nthD T 136, nthD T 137, nthD T 138, nthD T 139, nthD T 140, nthD T 141, nthD T 142, nthD T 143, nthD T 144, nthD T 145, nthD T 146] := (spread hT).trans (by
      show [nthD T 0, nthD T 1, nthD T 2, nthD T 3, nthD T 4, nthD T 5, nthD T 6, nthD T 7, nthD T 8, nthD T 9, nthD T 10, nthD T 11, nthD T 12, nthD T 13, nthD T 14, nthD T 15, nthD T 16, nthD T 17, nthD T 18, nthD T 19, nthD T 20, nthD T 21, nthD T 22, nthD T 23, nthD T 24, nthD T 25, nthD T 26, nthD T 27, nthD T 28, nthD T 29, nthD T 30, nthD T 31, nthD T 32, nthD T 33, nthD T 34, nthD T 35, nthD T 36, nthD T 37, nthD T 38, nthD T 39, nthD T 40, nthD T 41, nthD T 42, nthD T 43, nthD T 44, nthD T 45, nthD T 46, nthD T 47, nthD T 48, nthD T 49, nthD T 50, nthD T 51, nthD T 52, nthD T 53, nthD T 54, nthD T 55, nthD T 56, nthD T 57, nthD T 58, nthD T 59, nthD T 60, nthD T 61, nthD T 62, nthD T 63, nthD T 64, nthD T 65, nthD T 66, nthD T 67, nthD T 68, nthD T 69, nthD T 70, nthD T 71, nthD T 72, nthD T 73, nthD T 74, nthD T 75, nthD T 76, nthD T 77, nthD T 78, nthD T 79, nthD T 80, nthD T 81, nthD T 82, nthD T 83, nthD T 84, nthD T 85, nthD T 86, nthD T 87, nthD T 88, nthD T 89, nthD T 90, nthD T 91, nthD T 92, nthD T 93, nthD T 94, nthD T 95, nthD T 96, nthD T 97, nthD T 98, nthD T 99, nthD T 100, nthD T 101, nthD T 102, nthD T 103, nthD T 104, nthD T 105, nthD T 106, nthD T 107, nthD T 108, nthD T 109, nthD T 110, nthD T 111, nthD T 112, nthD T 113, nthD T 114, nthD T 115, nthD T 116, nthD T 117, nthD T 118, nthD T 119, nthD T 120, nthD T 121, nthD T 122, nthD T 123, nthD T 124, nthD T 125, nthD T 126, nthD T 127, nthD T 128, nthD T 129, nthD T 130, nthD T 131, nthD T 132, nthD T 133, nthD T 134, nthD T 135, nthD T 136, nthD T 137, nthD T 138, nthD T 139, nthD T 140, nthD T 141, nthD T 142, nthD T 143, nthD T 144, nthD T 145, nthD T 146] = _
      rw [h0, h2, h3, h4, h5])
    refine ⟨trivial, ⟨[rb O, rb x], rfl⟩, ?_⟩
    rw [eT, hspec]
    exact retPs M x 4 (.string s) (.int .i64 q) (nthD T 1) (nthD T 6) (nthD T 7) (nthD T 8) (nthD T 9) (nthD T 10) (nthD T 11) (nthD T 12) (nthD T 13) (nthD T 14) (nthD T 15) (nthD T 16) (nthD T 17) (nthD T 18) (nthD T 19) (nthD T 20) (nthD T 21) (nthD T 22) (nthD T 23) (nthD T 24) (nthD T 25) (nthD T 26) (nthD T 27) (nthD T 28) (nthD T 29) (nthD T 30) (nthD T 31) (nthD T 32) (nthD T 33) (nthD T 34) (nthD T 35) (nthD T 36) (nthD T 37) (nthD T 38) (nthD T 39) (nthD T 40) (nthD T 41) (nthD T 42) (nthD T 43) (nthD T 44) (nthD T 45) (nthD T 46) (nthD T 47) (nthD T 48) (nthD T 49) (nthD T 50) (nthD T 51) (nthD T 52) (nthD T 53) (nthD T 54) (nthD T 55) (nthD T 56) (nthD T 57) (nthD T 58) (nthD T 59) (nthD T 60) (nthD T 61) (nthD T 62) (nthD T 63) (nthD T 64) (nthD T 65) (nthD T 66) (nthD T 67) (nthD T 68) (nthD T 69) (nthD T 70) (nthD T 71) (nthD T 72) (nthD T 73) (nthD T 74) (nthD T 75) (nthD T 76) (nthD T 77) (nthD T 78) (nthD T 79) (nthD T 80) (nthD T 81) (nthD T 82) (nthD T 83) (nthD T 84) (nthD T 85) (nthD T 86) (nthD T 87) (nthD T 88) (nthD T 89) (nthD T 90) (nthD T 91) (nthD T 92) (nthD T 93) (nthD T 94) (nthD T 95) (nthD T 96) (nthD T 97) (nthD T 98) (nthD T 99) (nthD T 100) (nthD T 101) (nthD T 102) (nthD T 103) (nthD T 104) (nthD T 105) (nthD T 106) (nthD T 107) (nthD T 108) (nthD T 109) (nthD T 110) (nthD T 111) (nthD T 112) (nthD T 113) (nthD T 114) (nthD T 115) (nthD T 116) (nthD T 117) (nthD T 118) (nthD T 119) (nthD T 120) (nthD T 121) (nthD T 122) (nthD T 123) (nthD T 124) (nthD T 125) (nthD T 126) (nthD T 127) (nthD T 128) (nthD T 129) (nthD T 130) (nthD T 131) (nthD T 132) (nthD T 133) (nthD T 134) (nthD T 135) (nthD T 136) (nthD T 137) (nthD T 138) (nthD T 139) (nthD T 140) (nthD T 141) (nthD T 142) (nthD T 143) (nthD T 144) (nthD T 145) (nthD T 146)
def cPaR : Con := ⟨78, fun args => match args with
  | [.string s] => some (.ite (Nat.ble s.size 1000000) (.val (resV (parM s.data.toList))) .no)
  | _ => none⟩
theorem cPaR_ok (M : Int) : ConOk M cPaR := by
  intro args t v h hv w inv
  simp only [cPaR] at h
  split at h
  · rename_i s
    cases h
    obtain ⟨h1, rfl⟩ := OT.pre hv
    exact calls_of_W (sg1 M) (by rw [show (Tryz.prog.funcs[78]?).bind (·.body) = some (bodyOf Tryz.prog 78) from by kernel_rfl]; simp) rfl rfl rfl (wPs M s (Nat.le_of_ble_eq_true h1)) inv
  · cases h
/- Ring: the specification's Print; what RingTexts asks. -/

abbrev LPt : List Con := [con1 57 fun x => .val (.int .i64 (chkS x)), cFrm, cTxt]
theorem LPt_ok (M : Int) : ∀ c ∈ LPt, ConOk M c := mem_cons_ok (con1_val (g := chkT) (cChkR_ok M) chkS_get) (mem_cons_ok (cFrm_ok M) (mem_cons_ok (cTxt_ok M) nil_ok))
theorem treePrR (M : Int) (m : Nat) (x : N) : runK Tryz.prog (orcL LPt) (Sg1 M) (m + 60) 77 [N.v x] =
    bif chkS x != 0 then some (txtV [] (chkS x)) else bif symN x then (bif okB x.nf && !(x.nf.zero && x.nf.k != 0) then some (txtV (numC x.nf) 0) else none) else none := by kernel_rfl
theorem ePrR (M : Int) (x : N) : EvF Tryz.prog (orcL LPt) (Sg1 M) 77 [N.v x] (txtV (prS x).1 (prS x).2) := by
  refine EvF.of_eq 60 fun m => ?_
  rw [treePrR]
  unfold prS chkS bif3
  cases h1 : rgB x with
  | false => rfl
  | true =>
    cases h2 : inB x with
    | false => rfl
    | true =>
      have ho : okB x = true := by unfold okB; rw [h1, h2]; rfl
      have hz : (x.nf.zero && x.nf.k != 0) = false := by
        cases hz : x.nf.zero with
        | false => rfl
        | true => rw [N.nf_zero_k x hz]; rfl
      rw [symN_of ho, okB_nf ho, hz]; rfl
def cPrR : Con := con1 77 fun x => .val (txtV (prS x).1 (prS x).2)
theorem cPrR_ok (M : Int) : ConOk M cPrR := con1_ok (LPt_ok M) fun x v h => by cases h; exact ePrR M x
abbrev LTexts : List Con := [cPrR, cPri, cPaR, cPar, cAwk]
theorem LTexts_ok (M : Int) : ∀ c ∈ LTexts, ConOk M c := mem_cons_ok (cPrR_ok M) (mem_cons_ok (cPri_ok M) (mem_cons_ok (cPaR_ok M) (mem_cons_ok (cPar_ok M) (mem_cons_ok (cAwk_ok M) nil_ok))))
end Go.Proofs.YtihccnfaibiiiaaGreatDoor.R
/- Ring: the laws that RingSmall asks, as contracts (made by mksm.py). -/
namespace Go.Proofs.YtihccnfaibiiiaaGreatDoor.R
open Go Go.Proofs.XX.Vm Go.Proofs.XX.Rm Go.RowKit
set_option maxRecDepth 100000

theorem eqN_refl (x : N) : eqN x x = true := (eqN_iff x x).2 rfl
theorem treeLe (M : Int) (m : Nat) (x y : N) : runK Tryz.prog (orcL LLeast) (Sg1 M) (m + 60) 73 [N.v x, N.v y] =
    bif chkS x == chkS x then (bif (leaS x).2 == (leaS x).2 then (bif (samS x y).2 == (samS x y).2 then (bif eqN (leaS x).1 (leaS x).1 then (bif (samS x y).1 == (samS x y).1 then (some (.bool true)) else some (.bool false)) else some (.bool false)) else some (.bool false)) else some (.bool false)) else some (.bool false) := by kernel_rfl
def cLLe : Con := con2 73 fun _ _ => .val (.bool true)
theorem cLLe_ok (M : Int) : ConOk M cLLe := con2_ok (LLeast_ok M) fun x y v h => by
  cases h
  exact EvF.of_eq 60 fun m => by
    rw [treeLe]
    simp only [eqN_refl, beq_self_eq_true, cond_true]
theorem treeAd (M : Int) (m : Nat) (x y : N) : runK Tryz.prog (orcL LAdds) (Sg1 M) (m + 60) 3 [N.v x, N.v y] =
    bif (twoS x y (x.sum y)).2 == (twoS x y (x.sum y)).2 then (bif (twoS x y (x.sum y.neg)).2 == (twoS x y (x.sum y.neg)).2 then (bif (twoS x y (x.mul y)).2 == (twoS x y (x.mul y)).2 then (bif eqN (twoS x y (x.sum y)).1 (twoS x y (x.sum y)).1 then (bif eqN (twoS x y (x.sum y.neg)).1 (twoS x y (x.sum y.neg)).1 then (bif eqN (twoS x y (x.mul y)).1 (twoS x y (x.mul y)).1 then (some (.bool true)) else some (.bool false)) else some (.bool false)) else some (.bool false)) else some (.bool false)) else some (.bool false)) else some (.bool false) := by kernel_rfl
def cLAd : Con := con2 3 fun _ _ => .val (.bool true)
theorem cLAd_ok (M : Int) : ConOk M cLAd := con2_ok (LAdds_ok M) fun x y v h => by
  cases h
  exact EvF.of_eq 60 fun m => by
    rw [treeAd]
    simp only [eqN_refl, beq_self_eq_true, cond_true]
theorem treeTu (M : Int) (m : Nat) (x : N) : runK Tryz.prog (orcL LTurns) (Sg1 M) (m + 60) 4 [N.v x] =
    bif (oneS x x.neg).2 == (oneS x x.neg).2 then (bif (oneS x x.conj).2 == (oneS x x.conj).2 then (bif (oneS x (N.dot x)).2 == (oneS x (N.dot x)).2 then (bif (norS x).2 == (norS x).2 then (bif eqN (oneS x x.neg).1 (oneS x x.neg).1 then (bif eqN (oneS x x.conj).1 (oneS x x.conj).1 then (bif eqN (oneS x (N.dot x)).1 (oneS x (N.dot x)).1 then (bif eqN (norS x).1 (norS x).1 then (some (.bool true)) else some (.bool false)) else some (.bool false)) else some (.bool false)) else some (.bool false)) else some (.bool false)) else some (.bool false)) else some (.bool false)) else some (.bool false) := by kernel_rfl
def cLTu : Con := con1 4 fun _ => .val (.bool true)
theorem cLTu_ok (M : Int) : ConOk M cLTu := con1_ok (LTurns_ok M) fun x v h => by
  cases h
  exact EvF.of_eq 60 fun m => by
    rw [treeTu]
    simp only [eqN_refl, beq_self_eq_true, cond_true]
theorem treeDi (M : Int) (m : Nat) (x y : N) : runK Tryz.prog (orcL LDivides) (Sg1 M) (m + 60) 74 [N.v x, N.v y] =
    bif (divR x y).2 == (divR x y).2 then (bif eqN (divR x y).1 (divR x y).1 then (some (.bool true)) else some (.bool false)) else some (.bool false) := by kernel_rfl
def cLDi : Con := con2 74 fun _ _ => .val (.bool true)
theorem cLDi_ok (M : Int) : ConOk M cLDi := con2_ok (LDivides_ok M) fun x y v h => by
  cases h
  exact EvF.of_eq 60 fun m => by
    rw [treeDi]
    simp only [eqN_refl, beq_self_eq_true, cond_true]
theorem treeOr (M : Int) (m : Nat) (x y : N) : runK Tryz.prog (orcL LOrders) (Sg1 M) (m + 60) 6 [N.v x, N.v y] =
    bif (realS x).2 == (realS x).2 then (bif (lesS x y).2 == (lesS x y).2 then (bif (phS x y).2 == (phS x y).2 then (bif (realS x).1 == (realS x).1 then (bif (lesS x y).1 == (lesS x y).1 then (bif (phS x y).1 == (phS x y).1 then (some (.bool true)) else some (.bool false)) else some (.bool false)) else some (.bool false)) else some (.bool false)) else some (.bool false)) else some (.bool false) := by kernel_rfl
def cLOr : Con := con2 6 fun _ _ => .val (.bool true)
theorem cLOr_ok (M : Int) : ConOk M cLOr := con2_ok (LOrders_ok M) fun x y v h => by
  cases h
  exact EvF.of_eq 60 fun m => by
    rw [treeOr]
    simp only [beq_self_eq_true, cond_true]
theorem treeTx (M : Int) (m : Nat) (x : N) (s : ByteArray) : runK Tryz.prog (orcL LTexts) (Sg1 M) (m + 60) 40 [N.v x, .string s] =
    bif decide ((s.size : Int) > 200) then some (.bool true) else bif Nat.ble s.size 1000000 then (bif Nat.ble s.size 4000000 then (bif (prS x).2 == (prS x).2 then (bif (parM s.data.toList).2 == (parM s.data.toList).2 then (bif (bs (prS x).1).toList == (bs (prS x).1).toList then (bif eqN (parM s.data.toList).1 (parM s.data.toList).1 then some (.bool true) else some (.bool false)) else some (.bool false)) else some (.bool false)) else some (.bool false)) else none) else none := by kernel_rfl
def cLTx : Con := ⟨40, fun args => match args with
  | [u, .string _] => match asN u with
    | some _ => some (.val (.bool true))
    | none => none
  | _ => none⟩
theorem cLTx_ok (M : Int) : ConOk M cLTx := conOk_of_evF (LTexts_ok M) fun args t v h hv => by
  simp only [cLTx] at h
  split at h
  · rename_i u s
    split at h
    · rename_i x hx
      cases h
      cases hv
      rw [asN_eq hx]
      refine ⟨rfl, EvF.of_eq 60 fun m => ?_⟩
      refine (treeTx M m x s).trans ?_
      by_cases hs : (s.size : Int) > 200
      · rw [decide_eq_true hs]; rfl
      · rw [decide_eq_false hs, Nat.ble_eq_true_of_le (show s.size ≤ 1000000 by omega), Nat.ble_eq_true_of_le (show s.size ≤ 4000000 by omega), eqN_refl]
        simp only [beq_self_eq_true, cond_true, cond_false]
    · cases h
  · cases h
noncomputable abbrev LAsk : List Con := [cLLe, cLAd, cLTu, cLDi, cLOr]
theorem LAsk_ok (M : Int) : ∀ c ∈ LAsk, ConOk M c := mem_cons_ok (cLLe_ok M) (mem_cons_ok (cLAd_ok M) (mem_cons_ok (cLTu_ok M) (mem_cons_ok (cLDi_ok M) (mem_cons_ok (cLOr_ok M) nil_ok))))
theorem treeAsk (M : Int) (m : Nat) (x y : N) : runK Tryz.prog (orcL LAsk) (Sg1 M) (m + 60) 38 [N.v x, N.v y] = some (.bool true) := by kernel_rfl
def cAsk : Con := con2 38 fun _ _ => .val (.bool true)
theorem cAsk_ok (M : Int) : ConOk M cAsk := con2_ok (LAsk_ok M) fun x y v h => by cases h; exact EvF.of_eq 60 fun m => treeAsk M m x y
end Go.Proofs.YtihccnfaibiiiaaGreatDoor.R
