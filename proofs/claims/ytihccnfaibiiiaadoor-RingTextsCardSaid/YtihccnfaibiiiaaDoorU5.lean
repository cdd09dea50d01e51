/- Ring: the program's readers of texts: terms (made by mkrt.py). -/
import Derived.Test.YtihccnfaibiiiaaDoorU4
namespace Go.Proofs.YtihccnfaibiiiaaDoor.R
open Go Go.Proofs.XX.Vm Go.Proofs.XX.Rm Go.RowKit
set_option maxRecDepth 100000

theorem uniR_lt {r : List UInt8} (h : Nat.blt 0 (uniI r) = true) : (uniR r).length < r.length := by
  unfold uniI at h
  unfold uniR
  cases h3 : Lib.hasPrefix r [119, 51] with
  | true => have := prefix_len h3; simp only [List.length_cons, List.length_nil] at this; simp only [cond_true, List.length_drop]; omega
  | false =>
    cases h2 : Lib.hasPrefix r [119, 50] with
    | true => have := prefix_len h2; simp only [List.length_cons, List.length_nil] at this; simp only [cond_true, cond_false, List.length_drop]; omega
    | false =>
      cases h1 : Lib.hasPrefix r [119] with
      | true => have := prefix_len h1; simp only [List.length_cons, List.length_nil] at this; simp only [cond_true, cond_false, List.length_drop]; omega
      | false => rw [h3, h2, h1] at h; cases h
theorem rtR_lt {l : List UInt8} (h : rtOk l = true) : (rtR l).length < l.length := by
  have a1 := aft_le l
  have a2 := digR_le (aft l)
  have a3 := uniR_le (digR (aft l))
  unfold rtOk at h
  rw [Bool.or_eq_true] at h
  unfold rtR
  rcases h with h | h
  · unfold wrt at h
    have := Nat.le_of_ble_eq_true h
    omega
  · have := uniR_lt (r := digR (aft l)) h
    omega
def cfB (x : N) : Blk := ⟨[.int .i64 x.a, .int .i64 x.b, .int .i64 x.c, .int .i64 x.d], 65, false, none⟩
abbrev LM1 : List Con := [cTrm]
theorem LM1_ok (M : Int) : ∀ c ∈ LM1, ConOk M c := mem_cons_ok (cTrm_ok M) nil_ok
noncomputable abbrev qRt (i : Nat) : Code := nthC (pcs Tryd.prog 98) i
noncomputable abbrev BRt : Code := loopOf Tryd.prog 98 0
theorem LRt_eq : pcs Tryd.prog 98 = [qRt 0, qRt 1, .block 0 (.loop BRt), qRt 3, qRt 4] := by kernel_rfl
theorem tmpsRt (s : ByteArray) : tmps0Of Tryd.prog 98 [.string s] = .string s :: List.replicate 31 undef := by kernel_rfl
theorem headRt (M : Int) (l : List UInt8) : evP Tryd.prog (orcL LM1) (Sg1 M) 3 (fun _ => 1000) 0 [qRt 0, qRt 1] (.string (bs l) :: List.replicate 31 undef) [uni, pow, mxl M] (sees [0, 2, 3, 4]) = some (.normal, 32, [.string (bs l), .pointer (some ⟨3, 0, none⟩), .bool false, .pointer (some ⟨4, 0, none⟩)], [uni, pow, mxl M, cfB O, cfB O]) := by kernel_rfl
theorem roundRt (M : Int) (l : List UInt8) (x y : N) (t1 t5 t6 t7 t8 t9 t10 t11 t12 t13 t14 t15 t16 t17 t18 t19 t20 t21 t22 t23 t24 t25 t26 t27 t28 t29 t30 t31 : Value) : evCodeK Tryd.prog (orcL LM1) (Sg1 M) 1060 3 BRt [.string (bs l), t1, .pointer (some ⟨3, 0, none⟩), .bool false, .pointer (some ⟨4, 0, none⟩), t5, t6, t7, t8, t9, t10, t11, t12, t13, t14, t15, t16, t17, t18, t19, t20, t21, t22, t23, t24, t25, t26, t27, t28, t29, t30, t31] [uni, pow, mxl M, cfB y, cfB x] (sees [0, 2, 3, 4]) =
    bif !((bs l).toList == (bs []).toList) then (bif Nat.beq (rtI (bs l).data.toList) 3 then (bif !rtOk l then some (.ret, 32, [.string (bs l), .pointer (some ⟨3, 0, none⟩), .bool false, .pointer (some ⟨4, 0, none⟩)], [uni, pow, mxl M, cfB O, cfB x]) else bif getC x 3 != 0 then some (.ret, 32, [.string (bs l), .pointer (some ⟨3, 0, none⟩), .bool false, .pointer (some ⟨4, 0, none⟩)], [uni, pow, mxl M, cfB O, cfB x]) else some (.normal, 32, [.string (bs (rtR l)), .pointer (some ⟨3, 0, none⟩), .bool false, .pointer (some ⟨4, 0, none⟩)], [uni, pow, mxl M, cfB y, cfB (setC x 3 (rtP GD l))])) else bif Nat.beq (rtI (bs l).data.toList) 2 then (bif !rtOk l then some (.ret, 32, [.string (bs l), .pointer (some ⟨3, 0, none⟩), .bool false, .pointer (some ⟨4, 0, none⟩)], [uni, pow, mxl M, cfB O, cfB x]) else bif getC x 2 != 0 then some (.ret, 32, [.string (bs l), .pointer (some ⟨3, 0, none⟩), .bool false, .pointer (some ⟨4, 0, none⟩)], [uni, pow, mxl M, cfB O, cfB x]) else some (.normal, 32, [.string (bs (rtR l)), .pointer (some ⟨3, 0, none⟩), .bool false, .pointer (some ⟨4, 0, none⟩)], [uni, pow, mxl M, cfB y, cfB (setC x 2 (rtP GD l))])) else bif Nat.beq (rtI (bs l).data.toList) 1 then (bif !rtOk l then some (.ret, 32, [.string (bs l), .pointer (some ⟨3, 0, none⟩), .bool false, .pointer (some ⟨4, 0, none⟩)], [uni, pow, mxl M, cfB O, cfB x]) else bif getC x 1 != 0 then some (.ret, 32, [.string (bs l), .pointer (some ⟨3, 0, none⟩), .bool false, .pointer (some ⟨4, 0, none⟩)], [uni, pow, mxl M, cfB O, cfB x]) else some (.normal, 32, [.string (bs (rtR l)), .pointer (some ⟨3, 0, none⟩), .bool false, .pointer (some ⟨4, 0, none⟩)], [uni, pow, mxl M, cfB y, cfB (setC x 1 (rtP GD l))])) else (bif !rtOk l then some (.ret, 32, [.string (bs l), .pointer (some ⟨3, 0, none⟩), .bool false, .pointer (some ⟨4, 0, none⟩)], [uni, pow, mxl M, cfB O, cfB x]) else bif getC x 0 != 0 then some (.ret, 32, [.string (bs l), .pointer (some ⟨3, 0, none⟩), .bool false, .pointer (some ⟨4, 0, none⟩)], [uni, pow, mxl M, cfB O, cfB x]) else some (.normal, 32, [.string (bs (rtR l)), .pointer (some ⟨3, 0, none⟩), .bool false, .pointer (some ⟨4, 0, none⟩)], [uni, pow, mxl M, cfB y, cfB (setC x 0 (rtP GD l))])))
    else some (.exit 0, 32, [.string (bs l), .pointer (some ⟨3, 0, none⟩), .bool false, .pointer (some ⟨4, 0, none⟩)], [uni, pow, mxl M, cfB y, cfB x]) := by kernel_rfl
theorem tailRt (M : Int) (v0 : Value) (x y : N) (t1 t5 t6 t7 t8 t9 t10 t11 t12 t13 t14 t15 t16 t17 t18 t19 t20 t21 t22 t23 t24 t25 t26 t27 t28 t29 t30 t31 : Value) : evP Tryd.prog (orcL LM1) (Sg1 M) 3 (fun _ => 1000) 0 [qRt 3, qRt 4] [v0, t1, .pointer (some ⟨3, 0, none⟩), .bool false, .pointer (some ⟨4, 0, none⟩), t5, t6, t7, t8, t9, t10, t11, t12, t13, t14, t15, t16, t17, t18, t19, t20, t21, t22, t23, t24, t25, t26, t27, t28, t29, t30, t31] [uni, pow, mxl M, cfB y, cfB x] (outs Tryd.prog 98) = some (.tuple #[N.cv x, .bool true], [uni, pow, mxl M, cfB x, cfB x]) := by kernel_rfl
theorem retRt (M : Int) (v0 : Value) (x y : N) (t1 t5 t6 t7 t8 t9 t10 t11 t12 t13 t14 t15 t16 t17 t18 t19 t20 t21 t22 t23 t24 t25 t26 t27 t28 t29 t30 t31 : Value) : outOf Tryd.prog 98 [v0, t1, .pointer (some ⟨3, 0, none⟩), .bool false, .pointer (some ⟨4, 0, none⟩), t5, t6, t7, t8, t9, t10, t11, t12, t13, t14, t15, t16, t17, t18, t19, t20, t21, t22, t23, t24, t25, t26, t27, t28, t29, t30, t31] [uni, pow, mxl M, cfB y, cfB x] = some (.tuple #[N.cv y, .bool false]) := by kernel_rfl
theorem bs_empty (l : List UInt8) : (!((bs l).toList == (bs []).toList)) = !l.isEmpty := by
  have e : ∀ l, (bs l).toList = l := fun l => by simp [bs, ByteArray.toList_eq]
  rw [e, e]
  cases l <;> rfl
def rtsOf (l : List UInt8) : N × Bool := rts GD (l.length + 1) O l
def rtsV (l : List UInt8) : Value := .tuple #[N.cv (rtsOf l).1, .bool (rtsOf l).2]
theorem loopRt (M : Int) (l0 : List UInt8) (T : List Value) (hT : T.length = 32) (hp : picks T [0, 2, 3, 4] = [.string (bs l0), .pointer (some ⟨3, 0, none⟩), .bool false, .pointer (some ⟨4, 0, none⟩)]) :
    WpW Tryd.prog (Sg1 M) 3 3 (.loop BRt) T [uni, pow, mxl M, cfB O, cfB O] fun x T' S' => (x = .exit 0 ∧ T'.length = 32 ∧ ∃ (v0 : Value) (y : N), picks T' [0, 2, 3, 4] = [v0, .pointer (some ⟨3, 0, none⟩), .bool false, .pointer (some ⟨4, 0, none⟩)] ∧ S' = [uni, pow, mxl M, cfB O, cfB y] ∧ rtsOf l0 = (y, true)) ∨
      (x = .ret ∧ T'.length = 32 ∧ ∃ (v0 : Value) (y : N), picks T' [0, 2, 3, 4] = [v0, .pointer (some ⟨3, 0, none⟩), .bool false, .pointer (some ⟨4, 0, none⟩)] ∧ S' = [uni, pow, mxl M, cfB O, cfB y] ∧ rtsOf l0 = (O, false)) := by
  refine WpW.loop (fun m T S => ∃ (l : List UInt8) (f : Nat) (x : N), T.length = 32 ∧ picks T [0, 2, 3, 4] = [.string (bs l), .pointer (some ⟨3, 0, none⟩), .bool false, .pointer (some ⟨4, 0, none⟩)] ∧ S = [uni, pow, mxl M, cfB O, cfB x] ∧ m = l.length ∧ l.length < f ∧ rts GD f x l = rtsOf l0) ?_ l0.length T _ ⟨l0, l0.length + 1, O, hT, hp, rfl, rfl, Nat.lt_succ_self _, rfl⟩
  rintro m T S ⟨l, f, x, hT, hp, rfl, rfl, hf, hr⟩
  match T, hT, hp with
  | t0 :: t1 :: t2 :: t3 :: t4 :: t5 :: t6 :: t7 :: t8 :: t9 :: t10 :: t11 :: t12 :: t13 :: t14 :: t15 :: t16 :: t17 :: t18 :: t19 :: t20 :: t21 :: t22 :: t23 :: t24 :: t25 :: t26 :: t27 :: t28 :: t29 :: t30 :: t31 :: [], _, hp =>
  have hp : [t0, t2, t3, t4] = _ := hp
  cases hp
  have hR := roundRt M l x O t1 t5 t6 t7 t8 t9 t10 t11 t12 t13 t14 t15 t16 t17 t18 t19 t20 t21 t22 t23 t24 t25 t26 t27 t28 t29 t30 t31
  rw [bs_empty, bs_list] at hR
  obtain ⟨f, rfl⟩ : ∃ g, f = g + 1 := ⟨f - 1, by omega⟩
  cases he : l.isEmpty with
  | true =>
    rw [he] at hR
    refine WpW.see (sg1 M) (orcOk_of (LM1_ok M)) (Nat.le_refl _) hR fun T' hT' hp' => .inl ⟨rfl, hT', _, x, hp', rfl, ?_⟩
    rw [← hr, rts, he]; rfl
  | false =>
    rw [he] at hR
    simp only [Bool.not_false, cond_true] at hR
    have fin : ∃ i, rtI l = i ∧ evCodeK Tryd.prog (orcL LM1) (Sg1 M) 1060 3 BRt [.string (bs l), t1, .pointer (some ⟨3, 0, none⟩), .bool false, .pointer (some ⟨4, 0, none⟩), t5, t6, t7, t8, t9, t10, t11, t12, t13, t14, t15, t16, t17, t18, t19, t20, t21, t22, t23, t24, t25, t26, t27, t28, t29, t30, t31] [uni, pow, mxl M, cfB O, cfB x] (sees [0, 2, 3, 4]) =
        (bif !rtOk l then some (.ret, 32, [.string (bs l), .pointer (some ⟨3, 0, none⟩), .bool false, .pointer (some ⟨4, 0, none⟩)], [uni, pow, mxl M, cfB O, cfB x]) else bif getC x i != 0 then some (.ret, 32, [.string (bs l), .pointer (some ⟨3, 0, none⟩), .bool false, .pointer (some ⟨4, 0, none⟩)], [uni, pow, mxl M, cfB O, cfB x]) else some (.normal, 32, [.string (bs (rtR l)), .pointer (some ⟨3, 0, none⟩), .bool false, .pointer (some ⟨4, 0, none⟩)], [uni, pow, mxl M, cfB O, cfB (setC x i (rtP GD l))])) := by
      rcases uniI_lt (digR (aft l)) with hi | hi | hi | hi
      all_goals have hi : rtI l = _ := hi
      · rw [show Nat.beq (rtI l) 3 = false by rw [hi]; rfl, show Nat.beq (rtI l) 2 = false by rw [hi]; rfl, show Nat.beq (rtI l) 1 = false by rw [hi]; rfl] at hR
        exact ⟨0, hi, hR⟩
      · rw [show Nat.beq (rtI l) 3 = false by rw [hi]; rfl, show Nat.beq (rtI l) 2 = false by rw [hi]; rfl, show Nat.beq (rtI l) 1 = true by rw [hi]; rfl] at hR
        exact ⟨1, hi, hR⟩
      · rw [show Nat.beq (rtI l) 3 = false by rw [hi]; rfl, show Nat.beq (rtI l) 2 = true by rw [hi]; rfl] at hR
        exact ⟨2, hi, hR⟩
      · rw [show Nat.beq (rtI l) 3 = true by rw [hi]; rfl] at hR
        exact ⟨3, hi, hR⟩
    obtain ⟨i, hi, hR⟩ := fin
    rw [rts, he, cond_false, hi] at hr
    cases ho : rtOk l with
    | false =>
      rw [ho] at hR hr
      exact WpW.see (sg1 M) (orcOk_of (LM1_ok M)) (Nat.le_refl _) hR fun T' hT' hp' => .inr ⟨rfl, hT', _, x, hp', rfl, hr.symm⟩
    | true =>
      rw [ho] at hR hr
      cases hg : getC x i != 0 with
      | true =>
        rw [hg] at hR hr
        exact WpW.see (sg1 M) (orcOk_of (LM1_ok M)) (Nat.le_refl _) hR fun T' hT' hp' => .inr ⟨rfl, hT', _, x, hp', rfl, hr.symm⟩
      | false =>
        rw [hg] at hR hr
        have hlt := rtR_lt ho
        exact WpW.see (sg1 M) (orcOk_of (LM1_ok M)) (Nat.le_refl _) hR fun T' hT' hp' => ⟨(rtR l).length, hlt, rtR l, f, setC x i (rtP GD l), hT', hp', rfl, rfl, by omega, hr⟩
theorem wRt (M : Int) (l : List UInt8) : WpW Tryd.prog (Sg1 M) 3 3 (bodyOf Tryd.prog 98) (tmps0Of Tryd.prog 98 [.string (bs l)]) (Sg1 M) fun x T' U => (match x with | .exit _ => False | _ => True) ∧ (∃ N, U = Sg1 M ++ N) ∧ outOf Tryd.prog 98 T' U = some (rtsV l) := by
  rw [tmpsRt]
  refine WpW.of_pieces ?_
  rw [show flatC (bodyOf Tryd.prog 98) = _ from LRt_eq]
  refine WpL.see (l := [_, _]) (m := [_, _, _]) (sg1 M) (orcOk_of (LM1_ok M)) (Nat.le_refl _) (headRt M l) fun T hT hp => ?_
  refine WpL.step (WpW.block ((loopRt M l T hT hp).mono ?_))
  rintro x T S (⟨rfl, hT, v0, y, hp, rfl, hr⟩ | ⟨rfl, hT, v0, y, hp, rfl, hr⟩)
  · match T, hT, hp with
    | t0 :: t1 :: t2 :: t3 :: t4 :: t5 :: t6 :: t7 :: t8 :: t9 :: t10 :: t11 :: t12 :: t13 :: t14 :: t15 :: t16 :: t17 :: t18 :: t19 :: t20 :: t21 :: t22 :: t23 :: t24 :: t25 :: t26 :: t27 :: t28 :: t29 :: t30 :: t31 :: [], _, hp =>
    have hp : [t0, t2, t3, t4] = _ := hp
    cases hp
    refine WpL.mono (WpL.of_k (sg1 M) (orcOk_of (LM1_ok M)) (Nat.le_refl _) _ _ _ _ (tailRt M v0 y O t1 t5 t6 t7 t8 t9 t10 t11 t12 t13 t14 t15 t16 t17 t18 t19 t20 t21 t22 t23 t24 t25 t26 t27 t28 t29 t30 t31)) ?_
    intro x T' U hk
    obtain ⟨h1, rfl, h2⟩ := outs_eq hk
    have hv : rtsV l = .tuple #[N.cv y, .bool true] := by unfold rtsV; rw [hr]
    rw [← hv] at h2
    cases x with
    | normal => exact ⟨h1, ⟨_, rfl⟩, h2⟩
    | ret => exact ⟨h1, ⟨_, rfl⟩, h2⟩
    | exit id => exact h1.elim
  · match T, hT, hp with
    | t0 :: t1 :: t2 :: t3 :: t4 :: t5 :: t6 :: t7 :: t8 :: t9 :: t10 :: t11 :: t12 :: t13 :: t14 :: t15 :: t16 :: t17 :: t18 :: t19 :: t20 :: t21 :: t22 :: t23 :: t24 :: t25 :: t26 :: t27 :: t28 :: t29 :: t30 :: t31 :: [], _, hp =>
    have hp : [t0, t2, t3, t4] = _ := hp
    cases hp
    have hv : rtsV l = .tuple #[N.cv O, .bool false] := by unfold rtsV; rw [hr]
    exact ⟨trivial, ⟨_, rfl⟩, by rw [hv]; exact retRt M v0 y O t1 t5 t6 t7 t8 t9 t10 t11 t12 t13 t14 t15 t16 t17 t18 t19 t20 t21 t22 t23 t24 t25 t26 t27 t28 t29 t30 t31⟩
def cRts : Con := ⟨98, fun args => match args with
  | [.string s] => some (.val (rtsV s.data.toList))
  | _ => none⟩
theorem cRts_ok (M : Int) : ConOk M cRts := by
  intro args t v h hv w inv
  simp only [cRts] at h
  split at h
  · rename_i s
    cases h
    cases hv
    exact calls_of_W (sg1 M) (by rw [show (Tryd.prog.funcs[98]?).bind (·.body) = some (bodyOf Tryd.prog 98) from by kernel_rfl]; simp) rfl rfl rfl (wRt M s.data.toList) inv
  · cases h
end Go.Proofs.YtihccnfaibiiiaaDoor.R
