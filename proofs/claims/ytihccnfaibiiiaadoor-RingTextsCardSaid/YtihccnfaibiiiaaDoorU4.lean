/- Ring: the program's readers of texts: a term. -/
import Derived.Test.YtihccnfaibiiiaaDoorU3
namespace Go.Proofs.YtihccnfaibiiiaaDoor.R
open Go Go.Proofs.XX.Vm Go.Proofs.XX.Rm Go.RowKit
set_option maxRecDepth 100000

abbrev LT : List Con := [cDig, cHas]
theorem LT_ok (M : Int) : ∀ c ∈ LT, ConOk M c := mem_cons_ok (cDig_ok M) (mem_cons_ok (cHas_ok M) nil_ok)
def bs (l : List UInt8) : ByteArray := ⟨l.toArray⟩
def hpB (s : ByteArray) (u : List UInt8) : Bool := Lib.hasPrefix s.data.toList (bs u).data.toList
def dropOk (s : ByteArray) (k : Int) : Bool := decide (0 ≤ k) && true && Nat.ble k.toNat s.size && Nat.ble s.size s.size
def rdR (s : ByteArray) : ByteArray := ⟨(digR s.data.toList).toArray⟩
def rdW (s : ByteArray) : Bool := decide (((rdR s).size : Int) < (s.size : Int))
def endG (s : ByteArray) (sg p i : Int) (u : List UInt8) : Option Value :=
  bif dropOk (rdR s) ((bs u).size : Int) then (bif rdW s then some (.tuple #[.int .i64 i, .int .i64 (w (sg * p)), .string ((rdR s).extract ((bs u).size : Int).toNat (rdR s).size), .bool true])
    else some (.tuple #[.int .i64 i, .int .i64 (w (sg * p)), .string ((rdR s).extract ((bs u).size : Int).toNat (rdR s).size), .bool (decide (i > 0))])) else none
def endU (s : ByteArray) (sg p : Int) : Option Value :=
  bif !hpB (rdR s) [119, 51] then (bif !hpB (rdR s) [119, 50] then (bif !hpB (rdR s) [119] then (bif !hpB (rdR s) [] then none else endG s sg p 0 []) else endG s sg p 1 [119]) else endG s sg p 2 [119, 50]) else endG s sg p 3 [119, 51]
def endT (s : ByteArray) (sg : Int) : Option Value := bif !rdW s then endU s sg 1 else endU s sg (digN GD 0 s.data.toList)
theorem treeTrm (M : Int) (m : Nat) (s : ByteArray) : runK Tryd.prog (orcL LT) (Sg1 M) (m + 60) 110 [.string s] =
    bif hpB s [45] then (bif dropOk s 1 then endT (s.extract (Int.toNat 1) s.size) (-1) else none)
    else bif hpB s [43] then (bif dropOk s 1 then endT (s.extract (Int.toNat 1) s.size) 1 else none) else endT s 1 := by kernel_rfl

theorem bs_size (l : List UInt8) : (bs l).size = l.length := by simp [bs, ByteArray.size]
theorem bs_list (l : List UInt8) : (bs l).data.toList = l := by simp [bs]
theorem bs_of (s : ByteArray) : s = bs s.data.toList := rfl
theorem hpB_bs (l u : List UInt8) : hpB (bs l) u = Lib.hasPrefix l u := by unfold hpB; rw [bs_list, bs_list]
theorem rdR_bs (l : List UInt8) : rdR (bs l) = bs (digR l) := by unfold rdR; rw [bs_list]; rfl
theorem rdW_bs (l : List UInt8) : rdW (bs l) = wrt l := by
  unfold rdW wrt
  rw [rdR_bs, bs_size, bs_size, Bool.eq_iff_iff]
  simp only [decide_eq_true_eq, Nat.blt_eq]; omega
theorem ext_bs (l : List UInt8) (k : Nat) : (bs l).extract k (bs l).size = bs (l.drop k) := by rw [ext_drop, bs_list]; rfl
theorem dropOk_bs {l : List UInt8} {k : Nat} (h : k ≤ l.length) : dropOk (bs l) (k : Int) = true := by
  unfold dropOk
  rw [decide_eq_true (show (0 : Int) ≤ k by omega), bs_size, Int.toNat_natCast, Nat.ble_eq_true_of_le h, Nat.ble_eq_true_of_le (Nat.le_refl _)]; rfl
theorem prefix_len {l u : List UInt8} (h : Lib.hasPrefix l u = true) : u.length ≤ l.length := by
  have := List.IsPrefix.length_le (List.isPrefixOf_iff_prefix.1 h)
  exact this
theorem endG_bs {l u : List UInt8} (sg p : Int) (i : Nat) (h : Lib.hasPrefix (digR l) u = true) (hi : i < 4) : endG (bs l) sg p (i : Int) u = some (.tuple #[.int .i64 i, .int .i64 (w (sg * p)), .string (bs ((digR l).drop u.length)), .bool (wrt l || Nat.blt 0 i)]) := by
  unfold endG
  rw [rdW_bs, rdR_bs, bs_size u, condT (dropOk_bs (prefix_len h)), Int.toNat_natCast, ext_bs]
  cases wrt l with
  | true => rfl
  | false =>
    have : i = 0 ∨ i = 1 ∨ i = 2 ∨ i = 3 := by omega
    rcases this with rfl | rfl | rfl | rfl <;> rfl
def trmV (l : List UInt8) (sg : Int) : Value := .tuple #[.int .i64 (uniI (digR l) : Nat), .int .i64 (sg * mag GD l), .string (bs (uniR (digR l))), .bool (wrt l || Nat.blt 0 (uniI (digR l)))]
theorem endU_bs (l : List UInt8) (sg p : Int) (hp : w (sg * p) = sg * mag GD l) : endU (bs l) sg p = some (trmV l sg) := by
  unfold endU trmV uniI uniR
  rw [rdR_bs, hpB_bs, hpB_bs, hpB_bs, hpB_bs]
  cases h3 : Lib.hasPrefix (digR l) [119, 51] with
  | true => exact (endG_bs sg p 3 h3 (by omega)).trans (by rw [hp]; rfl)
  | false =>
    cases h2 : Lib.hasPrefix (digR l) [119, 50] with
    | true => exact (endG_bs sg p 2 h2 (by omega)).trans (by rw [hp]; rfl)
    | false =>
      cases h1 : Lib.hasPrefix (digR l) [119] with
      | true => exact (endG_bs sg p 1 h1 (by omega)).trans (by rw [hp]; rfl)
      | false =>
        have h0 : Lib.hasPrefix (digR l) [] = true := by cases digR l <;> rfl
        rw [h0]
        exact (endG_bs sg p 0 h0 (by omega)).trans (by rw [hp]; rfl)
theorem endT_bs (l : List UInt8) {sg : Int} (hs : sg = 1 ∨ sg = -1) : endT (bs l) sg = some (trmV l sg) := by
  have hb := digN_le GD (by decide) l 0 (by decide) (by decide)
  unfold GD at hb
  unfold endT
  rw [rdW_bs, bs_list]
  cases hw : wrt l with
  | true =>
    refine endU_bs l sg _ ?_
    unfold mag
    rw [hw, cond_true]
    unfold GD
    rcases hs with rfl | rfl <;> exact w_eq _ (by omega) (by omega)
  | false =>
    refine endU_bs l sg _ ?_
    unfold mag
    rw [hw, cond_false]
    rcases hs with rfl | rfl <;> exact w_eq _ (by omega) (by omega)
theorem hp_one (b c : UInt8) (l : List UInt8) : Lib.hasPrefix (b :: l) [c] = (b == c) := by
  show ((c == b) && _) = _
  rw [show List.isPrefixOf [] l = true by cases l <;> rfl, Bool.and_true, Bool.eq_iff_iff, beq_iff_eq, beq_iff_eq]
  exact eq_comm
theorem eTrm (M : Int) (s : ByteArray) : EvF Tryd.prog (orcL LT) (Sg1 M) 110 [.string s] (trmV (aft s.data.toList) (sgn s.data.toList)) := by
  refine EvF.of_eq 60 fun m => ?_
  rw [treeTrm]
  rw [bs_of s]
  generalize s.data.toList = l
  rw [hpB_bs, hpB_bs, bs_list]
  cases l with
  | nil => exact endT_bs [] (.inl rfl)
  | cons b l =>
    have hd : dropOk (bs (b :: l)) 1 = true := dropOk_bs (k := 1) (by simp)
    have he : (bs (b :: l)).extract (Int.toNat 1) (bs (b :: l)).size = bs l := ext_bs (b :: l) 1
    rw [hp_one, hp_one, hd, he]
    show _ = some (trmV (bif b == 45 then l else bif b == 43 then l else b :: l) (bif b == 45 then -1 else 1))
    cases b == 45 with
    | true => exact endT_bs l (.inr rfl)
    | false =>
      cases b == 43 with
      | true => exact endT_bs l (.inl rfl)
      | false => exact endT_bs (b :: l) (.inl rfl)
/-- A term, by its power. -/
def trmW (l : List UInt8) (i : Nat) : Value := .tuple #[.int .i64 (i : Nat), .int .i64 (rtP GD l), .string (bs (rtR l)), .bool (rtOk l)]
def cTrm : Con := ⟨110, fun args => match args with
  | [.string s] => some (.ite (Nat.beq (rtI s.data.toList) 3) (.val (trmW s.data.toList 3)) (.ite (Nat.beq (rtI s.data.toList) 2) (.val (trmW s.data.toList 2)) (.ite (Nat.beq (rtI s.data.toList) 1) (.val (trmW s.data.toList 1)) (.val (trmW s.data.toList 0)))))
  | _ => none⟩
theorem uniI_lt (l : List UInt8) : uniI l = 0 ∨ uniI l = 1 ∨ uniI l = 2 ∨ uniI l = 3 := by
  unfold uniI
  cases Lib.hasPrefix l [119, 51] <;> cases Lib.hasPrefix l [119, 50] <;> cases Lib.hasPrefix l [119] <;> simp
theorem cTrm_ok (M : Int) : ConOk M cTrm := conOk_of_evF (LT_ok M) fun args t v h hv => by
  simp only [cTrm] at h
  split at h
  · rename_i s
    cases h
    refine ⟨rfl, ?_⟩
    have : v = trmV (aft s.data.toList) (sgn s.data.toList) := by
      have e : trmV (aft s.data.toList) (sgn s.data.toList) = trmW s.data.toList (rtI s.data.toList) := rfl
      rw [e]
      simp only [OT.get] at hv
      rcases uniI_lt (digR (aft s.data.toList)) with h | h | h | h <;> (have h : rtI s.data.toList = _ := h) <;> rw [h] at hv ⊢ <;> cases hv <;> rfl
    rw [this]
    exact eTrm M s
  · cases h
end Go.Proofs.YtihccnfaibiiiaaDoor.R
