/- Ring: the program's Print and Parse. -/
import Derived.Test.YtihccnfaibiiiaaDoorU5
namespace Go.Proofs.YtihccnfaibiiiaaDoor.R
open Go Go.Proofs.XX.Vm Go.Proofs.XX.Rm Go.RowKit
set_option maxRecDepth 100000

abbrev LPr : List Con := [con1 15 leaT, cPrt, cItoa]
theorem LPr_ok (M : Int) : ∀ c ∈ LPr, ConOk M c := mem_cons_ok (cLea_ok M) (mem_cons_ok (cPrt_ok M) (mem_cons_ok (cItoa_ok M) nil_ok))
def pcN (x : N) : List UInt8 := printC ⟨x.a, x.b, x.c, x.d, 0⟩
def catOk (a b : ByteArray) : Bool := Nat.ble (a.size + b.size) 9223372036854775807
def txtV (l : List UInt8) (e : Int) : Value := .tuple #[.string (bs l), .int .i64 e]
theorem treePrt (M : Int) (m : Nat) (x : N) : runK Tryd.prog (orcL LPr) (Sg1 M) (m + 60) 24 [N.v x] =
    bif rgB x then (bif inB x then (bif symB x.nf.a && symB x.nf.b && symB x.nf.c && symB x.nf.d then (bif x.nf.k == 0 then some (txtV (pcN x.nf) 0)
      else bif catOk (bs [40]) (bs (pcN x.nf)) then (bif catOk (bs [40] ++ bs (pcN x.nf)) (bs [41, 47, 114]) then (bif i64B x.nf.k then (bif catOk (bs [40] ++ bs (pcN x.nf) ++ bs [41, 47, 114]) (bs (itoaS x.nf.k))
        then some (.tuple #[.string (bs [40] ++ bs (pcN x.nf) ++ bs [41, 47, 114] ++ bs (itoaS x.nf.k)), .int .i64 0]) else none) else none) else none) else none) else none)
      else some (txtV [] 8)) else some (txtV [] 3) := by kernel_rfl
theorem bs_cat (a b : List UInt8) : bs a ++ bs b = bs (a ++ b) := bapp a b
theorem catOk_bs {a b : List UInt8} (h : a.length + b.length ≤ 1000) : catOk (bs a) (bs b) = true := by
  unfold catOk; rw [bs_size, bs_size]; exact Nat.ble_eq_true_of_le (by omega)
def prS (x : N) : List UInt8 × Int := bif3 x (numC x.nf, 0) fun n => ([], n)
theorem pcN_eq {x : N} (h : x.In 1073741824) : pcN x = termsC x := printC_eq (x := ⟨x.a, x.b, x.c, x.d, 0⟩) (by obtain ⟨a1, a2, b1, b2, c1, c2, d1, d2⟩ := h; constructor <;> simp only <;> omega)
theorem pz_len (st : Bool) {i : Nat} (hi : i < 4) {n : Int} (hn : n.natAbs ≤ 1073741824) : (pz st i n).length ≤ 25 := by
  have hd : (Lib.decDigits n.natAbs).length ≤ 21 := by
    have := Lib.itoa_length_le (n.natAbs : Int) (by omega) (by omega)
    rwa [Lib.itoa_nonneg] at this
  have hu : (uniOf i).length ≤ 2 := by
    have : i = 0 ∨ i = 1 ∨ i = 2 ∨ i = 3 := by omega
    rcases this with rfl | rfl | rfl | rfl <;> decide
  have hs : (sgT st n).length ≤ 1 := by unfold sgT; cases decide (n < 0) <;> cases st <;> decide
  have hm : (mgT i n).length ≤ 21 := by unfold mgT; cases Nat.blt 0 i && (n.natAbs == 1) <;> simp <;> omega
  unfold pz pieceT
  cases n == 0
  · simp only [cond_false, List.length_append]; omega
  · simp
theorem termsC_len {x : N} (h : big 1073741824 x) : (termsC x).length ≤ 100 := by
  obtain ⟨h1, h2, h3, h4⟩ := h
  unfold termsC
  cases x.zero
  · simp only [cond_false, terms, List.length_append]
    have a := pz_len false (i := 0) (by omega) (n := x.a) (by omega)
    have b := fun st => pz_len st (i := 1) (by omega) (n := x.b) (by omega)
    have c := fun st => pz_len st (i := 2) (by omega) (n := x.c) (by omega)
    have d := fun st => pz_len st (i := 3) (by omega) (n := x.d) (by omega)
    have b := b (!(pz false 0 x.a).isEmpty)
    have c := c (!(pz false 0 x.a ++ pz (!(pz false 0 x.a).isEmpty) 1 x.b).isEmpty)
    have d := d (!(pz false 0 x.a ++ pz (!(pz false 0 x.a).isEmpty) 1 x.b ++ pz (!(pz false 0 x.a ++ pz (!(pz false 0 x.a).isEmpty) 1 x.b).isEmpty) 2 x.c).isEmpty)
    omega
  · simp
theorem ePrt (M : Int) (x : N) : EvF Tryd.prog (orcL LPr) (Sg1 M) 24 [N.v x] (txtV (prS x).1 (prS x).2) := by
  refine EvF.of_eq 60 fun m => ?_
  rw [treePrt]
  cases h1 : rgB x with
  | false => unfold prS bif3; rw [h1]; rfl
  | true =>
    cases h2 : inB x with
    | false => unfold prS bif3; rw [h1, h2]; rfl
    | true =>
      have ho : okB x = true := by unfold okB; rw [h1, h2]; rfl
      have hs := symN_of (okB_nf ho)
      obtain ⟨b1, b2, b3⟩ := big_of (okB_nf ho)
      have hin := ((okB_iff _).1 (okB_nf ho)).2.2
      unfold symN at hs
      rw [Bool.and_eq_true] at hs
      have hs := hs.1
      have hl := termsC_len b1
      have hr : prS x = (numC x.nf, 0) := by unfold prS; rw [bif3_ok ho]
      have hk : i64B x.nf.k = true := by simp [i64B]; omega
      have hd : (Lib.decDigits x.nf.k.toNat).length ≤ 21 := by
        have := Lib.itoa_length_le (x.nf.k.toNat : Int) (by omega) (by omega)
        rwa [Lib.itoa_nonneg] at this
      have hi : itoaS x.nf.k = Lib.decDigits x.nf.k.toNat := by
        rw [itoaS_eq (by omega) (by omega), show x.nf.k = (x.nf.k.toNat : Int) by omega, Lib.itoa_nonneg]; rfl
      rw [hs, hr, pcN_eq hin, hi, hk]
      unfold numC
      cases hz : x.nf.k == 0 with
      | true => rfl
      | false =>
        rw [catOk_bs (by simp; omega), bs_cat, catOk_bs (by simp; omega), bs_cat, catOk_bs (by simp; omega), bs_cat]
        rfl
def cPri : Con := con1 24 fun x => .val (txtV (prS x).1 (prS x).2)
theorem cPri_ok (M : Int) : ConOk M cPri := con1_ok (LPr_ok M) fun x v h => by cases h; exact ePrt M x

abbrev LRe : List Con := [cRts, cDig, cPre, cCut]
theorem LRe_ok (M : Int) : ∀ c ∈ LRe, ConOk M c := mem_cons_ok (cRts_ok M) (mem_cons_ok (cDig_ok M) (mem_cons_ok (cPre_ok M) (mem_cons_ok (cCut_ok M) nil_ok)))
def reaV (x : N) (k : Int) (ok : Bool) : Value := .tuple #[N.v (withK x k), .bool ok]
def cutL (s : ByteArray) : List UInt8 × List UInt8 × Bool := Lib.cut (bs (Lib.trimPrefix s.data.toList (bs [40]).data.toList)).data.toList (bs [41, 47, 114]).data.toList
theorem treeRea (M : Int) (m : Nat) (s : ByteArray) : runK Tryd.prog (orcL LRe) (Sg1 M) (m + 60) 62 [.string s] =
    bif !Lib.hasPrefix s.data.toList (bs [40]).data.toList then some (reaV (rtsOf s.data.toList).1 0 (rtsOf s.data.toList).2)
    else bif Nat.ble (bs (Lib.trimPrefix s.data.toList (bs [40]).data.toList)).size 4294967280 then
      (bif (rtsOf (bs (cutL s).1).data.toList).2 then some (reaV (rtsOf (bs (cutL s).1).data.toList).1 (digN GD 0 (bs (cutL s).2.1).data.toList) ((bs (digR (bs (cutL s).2.1).data.toList)).toList == (bs []).toList))
        else some (reaV (rtsOf (bs (cutL s).1).data.toList).1 (digN GD 0 (bs (cutL s).2.1).data.toList) false)) else none := by kernel_rfl
theorem eRea (M : Int) (s : ByteArray) (hs : s.size ≤ 4000000) : EvF Tryd.prog (orcL LRe) (Sg1 M) 62 [.string s] (.tuple #[N.v (readM s.data.toList).1, .bool (readM s.data.toList).2]) := by
  refine EvF.of_eq 60 fun m => ?_
  rw [treeRea]
  unfold readM cutL
  simp only [bs_list]
  cases hp : Lib.hasPrefix s.data.toList [40] with
  | false => rfl
  | true =>
    have hl : (Lib.trimPrefix s.data.toList [40]).length ≤ 4000000 := by
      unfold Lib.trimPrefix
      rw [hp, if_pos rfl, List.length_drop, Array.length_toList]
      have : s.data.size ≤ 4000000 := hs
      omega
    rw [bs_size, Nat.ble_eq_true_of_le (show (Lib.trimPrefix s.data.toList [40]).length ≤ 4294967280 by omega)]
    have hb : ∀ l, ((bs l).toList == (bs []).toList) = l.isEmpty := fun l => by
      have := bs_empty l
      revert this
      cases ((bs l).toList == (bs []).toList) <;> cases l.isEmpty <;> simp
    simp only [Bool.not_true, cond_false, cond_true, hb]
    unfold rtsOf
    cases (rts GD ((Lib.cut (Lib.trimPrefix s.data.toList [40]) [41, 47, 114]).1.length + 1) O (Lib.cut (Lib.trimPrefix s.data.toList [40]) [41, 47, 114]).1).2 <;> rfl
def cRea : Con := ⟨62, fun args => match args with
  | [.string s] => some (.ite (Nat.ble s.size 4000000) (.val (.tuple #[N.v (readM s.data.toList).1, .bool (readM s.data.toList).2])) .no)
  | _ => none⟩
theorem cRea_ok (M : Int) : ConOk M cRea := conOk_of_evF (LRe_ok M) fun args t v h hv => by
  simp only [cRea] at h
  split at h
  · rename_i s
    cases h
    obtain ⟨h1, rfl⟩ := OT.pre hv
    exact ⟨rfl, eRea M s (Nat.le_of_ble_eq_true h1)⟩
  · cases h
end Go.Proofs.YtihccnfaibiiiaaDoor.R
