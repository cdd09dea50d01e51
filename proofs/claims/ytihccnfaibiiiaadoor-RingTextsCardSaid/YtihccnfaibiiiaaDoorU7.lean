/- Ring: the program's Parse; the specification's digits. -/
import Derived.Test.YtihccnfaibiiiaaDoorU6
namespace Go.Proofs.YtihccnfaibiiiaaDoor.R
open Go Go.Proofs.XX.Vm Go.Proofs.XX.Rm Go.RowKit
set_option maxRecDepth 100000

abbrev LPa : List Con := [cRea, cPri]
theorem LPa_ok (M : Int) : ∀ c ∈ LPa, ConOk M c := mem_cons_ok (cRea_ok M) (mem_cons_ok (cPri_ok M) nil_ok)
theorem treePar (M : Int) (m : Nat) (s : ByteArray) : runK Tryd.prog (orcL LPa) (Sg1 M) (m + 60) 25 [.string s] =
    bif Nat.ble s.size 4000000 then (bif !(readM s.data.toList).2 then some (resV (O, 4)) else bif (prS (readM s.data.toList).1).2 != 0 then some (resV (O, 4)) else
      bif !((bs (prS (readM s.data.toList).1).1).toList == s.toList) then some (resV (O, 4)) else some (resV ((readM s.data.toList).1, 0))) else none := by kernel_rfl
/-- What Parse gives. -/
def parM (l : List UInt8) : N × Int := match progM l with
  | some x => (x, 0)
  | none => (O, 4)
theorem bs_toList (l : List UInt8) : (bs l).toList = l := by simp [bs, ByteArray.toList_eq]
theorem prS_bad {x : N} (h : okB x = false) : (prS x).2 ≠ 0 := by
  unfold prS bif3
  unfold okB at h
  cases h1 : rgB x <;> cases h2 : inB x <;> simp_all
theorem ePar (M : Int) (s : ByteArray) (hs : s.size ≤ 4000000) : EvF Tryd.prog (orcL LPa) (Sg1 M) 25 [.string s] (resV (parM s.data.toList)) := by
  refine EvF.of_eq 60 fun m => ?_
  rw [treePar, Nat.ble_eq_true_of_le hs, bs_toList, show s.toList = s.data.toList from by rw [ByteArray.toList_eq]]
  unfold parM progM
  cases h1 : (readM s.data.toList).2 with
  | false => rfl
  | true =>
    cases h2 : okB (readM s.data.toList).1 with
    | false =>
      have := prS_bad h2
      rw [show ((prS (readM s.data.toList).1).2 != 0) = true by simpa using this]; rfl
    | true =>
      have e : prS (readM s.data.toList).1 = (numC (readM s.data.toList).1.nf, 0) := by unfold prS; rw [bif3_ok h2]
      rw [e]
      cases numC (readM s.data.toList).1.nf == s.data.toList <;> rfl
def cPar : Con := ⟨25, fun args => match args with
  | [.string s] => some (.ite (Nat.ble s.size 4000000) (.val (resV (parM s.data.toList))) .no)
  | _ => none⟩
theorem cPar_ok (M : Int) : ConOk M cPar := conOk_of_evF (LPa_ok M) fun args t v h hv => by
  simp only [cPar] at h
  split at h
  · rename_i s
    cases h
    obtain ⟨h1, rfl⟩ := OT.pre hv
    exact ⟨rfl, ePar M s (Nat.le_of_ble_eq_true h1)⟩
  · cases h

def dgOk (k : Nat) (n : Int) : Bool := decide (0 ≤ n) && decide (n < (10 : Int) ^ k)
def cDgt (k : Nat) : Con := ⟨90, fun args => match args with
  | [.int .i64 n] => some (.ite (dgOk k n) (.val (.string (bs (Lib.decDigits n.toNat)))) .no)
  | _ => none⟩
def tenB : List UInt8 := [48, 49, 50, 51, 52, 53, 54, 55, 56, 57]
theorem treeDgt (M : Int) (m k : Nat) (n : Int) : runK Tryd.prog (orcL [cDgt k]) (Sg1 M) (m + 60) 90 [.int .i64 n] =
    bif decide (n < 10) then (bif decide (0 ≤ n) && decide (0 ≤ w (n + 1)) && Nat.ble n.toNat (w (n + 1)).toNat && Nat.ble (w (n + 1)).toNat (bs tenB).size then some (.string ((bs tenB).extract n.toNat (w (n + 1)).toNat)) else none)
    else bif dgOk k (w (n.tdiv 10)) then (bif dgOk k (n.tmod 10) then (bif catOk (bs (Lib.decDigits (w (n.tdiv 10)).toNat)) (bs (Lib.decDigits (n.tmod 10).toNat)) then some (.string (bs (Lib.decDigits (w (n.tdiv 10)).toNat) ++ bs (Lib.decDigits (n.tmod 10).toNat))) else none) else none) else none := by kernel_rfl
theorem zeroDgt (M : Int) (m : Nat) : runK Tryd.prog (orcL []) (Sg1 M) (m + 60) 90 [.int .i64 0] = some (.string (bs [48])) := by kernel_rfl
theorem dec_len {n : Nat} (h : n ≤ 9223372036854775807) : (Lib.decDigits n).length ≤ 21 := by
  have := Lib.itoa_length_le (n : Int) (by omega) (by omega)
  rwa [Lib.itoa_nonneg] at this
theorem one_digit {n : Nat} (h : n < 10) : (bs tenB).extract n (n + 1) = bs (Lib.decDigits n) := by
  rw [Lib.decDigits_one h, ext_take, bs_list]
  have : n = 0 ∨ n = 1 ∨ n = 2 ∨ n = 3 ∨ n = 4 ∨ n = 5 ∨ n = 6 ∨ n = 7 ∨ n = 8 ∨ n = 9 := by omega
  rcases this with rfl | rfl | rfl | rfl | rfl | rfl | rfl | rfl | rfl | rfl <;> rfl
theorem cDgt_ok (M : Int) : ∀ k, k ≤ 18 → ConOk M (cDgt k)
  | 0, _ => conOk_of_evF (nil_ok (M := M)) fun args t v h hv => by
    simp only [cDgt] at h
    split at h
    · rename_i n
      cases h
      obtain ⟨h1, rfl⟩ := OT.pre hv
      simp only [dgOk, Bool.and_eq_true, decide_eq_true_eq] at h1
      have : n = 0 := by have := h1.2; simp at this; omega
      subst this
      exact ⟨rfl, EvF.of_eq 60 fun m => (zeroDgt M m).trans (by rw [show (0 : Int).toNat = 0 from rfl, Lib.decDigits_one (by omega)]; rfl)⟩
    · cases h
  | k + 1, hk => conOk_of_evF (mem_cons_ok (cDgt_ok M k (by omega)) nil_ok) fun args t v h hv => by
    simp only [cDgt] at h
    split at h
    · rename_i n
      cases h
      obtain ⟨h1, rfl⟩ := OT.pre hv
      simp only [dgOk, Bool.and_eq_true, decide_eq_true_eq] at h1
      obtain ⟨h0, h1⟩ := h1
      have h18 : (10 : Int) ^ (k + 1) ≤ 10 ^ 18 := by
        have : (10 : Nat) ^ (k + 1) ≤ 10 ^ 18 := Nat.pow_le_pow_right (by omega) hk
        exact_mod_cast this
      have hlt : n < 1000000000000000000 := by have : (10 : Int) ^ 18 = 1000000000000000000 := by decide
                                               omega
      refine ⟨rfl, EvF.of_eq 60 fun m => ?_⟩
      refine (treeDgt M m k n).trans ?_
      by_cases hs : n < 10
      · rw [decide_eq_true hs, decide_eq_true h0, w_eq (n + 1) (by omega) (by omega), decide_eq_true (show 0 ≤ n + 1 by omega), Nat.ble_eq_true_of_le (show n.toNat ≤ (n + 1).toNat by omega), bs_size, Nat.ble_eq_true_of_le (show (n + 1).toNat ≤ tenB.length by show _ ≤ 10; omega), show (n + 1).toNat = n.toNat + 1 by omega, one_digit (show n.toNat < 10 by omega)]
        rfl
      · have ht : n.tdiv 10 = ((n.toNat / 10 : Nat) : Int) := by rw [Int.tdiv_eq_ediv_of_nonneg h0]; omega
        have hm : n.tmod 10 = ((n.toNat % 10 : Nat) : Int) := by rw [Int.tmod_eq_emod_of_nonneg h0]; omega
        have hp : (10 : Int) ^ (k + 1) = 10 ^ k * 10 := Int.pow_succ ..
        have hk1 : (1 : Int) ≤ 10 ^ k := by
          have : (1 : Nat) ≤ 10 ^ k := Nat.one_le_pow _ _ (by omega)
          exact_mod_cast this
        have hkk : k ≠ 0 := by
          intro e; subst e
          simp at h1; omega
        have hk10 : (10 : Int) ≤ 10 ^ k := by
          have : (10 : Nat) ^ 1 ≤ 10 ^ k := Nat.pow_le_pow_right (by omega) (by omega)
          exact_mod_cast this
        have hw : w ((n.toNat / 10 : Nat) : Int) = ((n.toNat / 10 : Nat) : Int) := w_eq _ (by omega) (by omega)
        rw [decide_eq_false hs, ht, hm, hw]
        have d1 : dgOk k ((n.toNat / 10 : Nat) : Int) = true := by
          simp only [dgOk, Bool.and_eq_true, decide_eq_true_eq]; omega
        have d2 : dgOk k ((n.toNat % 10 : Nat) : Int) = true := by
          simp only [dgOk, Bool.and_eq_true, decide_eq_true_eq]; omega
        have l1 := dec_len (n := n.toNat / 10) (by omega)
        have l2 := dec_len (n := n.toNat % 10) (by omega)
        rw [d1, d2, Int.toNat_natCast, Int.toNat_natCast, catOk_bs (by omega), bs_cat]
        have e : Lib.decDigits n.toNat = Lib.decDigits (n.toNat / 10) ++ Lib.decDigits (n.toNat % 10) := by
          rw [Lib.decDigits, dif_neg (by omega), Lib.decDigits_one (show n.toNat % 10 < 10 by omega)]
        rw [e]; rfl
    · cases h
end Go.Proofs.YtihccnfaibiiiaaDoor.R
