/- Ring: awake is true. -/
import Derived.Test.YtihccnfaibiiiaaDoorB3
namespace Go.Proofs.YtihccnfaibiiiaaDoor.R
open Go Go.Proofs.XX.Vm Go.Proofs.XX.Rm Go.RowKit
set_option maxRecDepth 100000

def asC : Value → Option N
  | .agg x => match x.toList with
    | [.int .i64 a, .int .i64 b, .int .i64 c, .int .i64 d] => some ⟨a, b, c, d, 0⟩
    | _ => none
  | _ => none
theorem asC_eq {v : Value} {x : N} (h : asC v = some x) : v = N.cv x := by
  unfold asC at h
  split at h
  · rename_i y
    split at h
    · rename_i a b c d e
      cases h
      cases y
      simp only at e
      subst e
      rfl
    · cases h
  · cases h
def symB (n : Int) : Bool := decide (-9223372036854775807 ≤ n) && decide (n ≤ 9223372036854775807)
theorem symB_iff {n : Int} (h : symB n = true) : -9223372036854775807 ≤ n ∧ n ≤ 9223372036854775807 := by
  simpa [symB] using h
def cPrt : Con := ⟨60, fun args => match args with
  | [v] => match asC v with
    | some x => some (.ite (symB x.a && symB x.b && symB x.c && symB x.d) (.val (str (printC x))) .no)
    | none => none
  | _ => none⟩
theorem cPrt_ok (M : Int) : ConOk M cPrt := by
  intro args t v h hv w inv
  simp only [cPrt] at h
  split at h
  · rename_i u
    split at h
    · rename_i x hx
      rw [asC_eq hx]
      cases h
      obtain ⟨h, rfl⟩ := OT.pre hv
      simp only [Bool.and_eq_true] at h
      obtain ⟨⟨⟨h1, h2⟩, h3⟩, h4⟩ := h
      have a := symB_iff h1; have b := symB_iff h2; have c := symB_iff h3; have d := symB_iff h4
      exact print60 M x ⟨by omega, a.2, by omega, b.2, by omega, c.2, by omega, d.2⟩ w inv
    · cases h
  · cases h
/-- The least form of a number at work, by tests. -/
def cLst : Con := con1 46 fun x => .ite (i64B x.k) (.ite (z0 x) (.val (resV (O, 0))) (.ite (rgB (endW x)) (.ite (inB (endW x)) (.val (resV (endW x, 0))) (.val (resV (O, 8)))) (.val (resV (O, 8))))) .no
theorem cLst_ok (M : Int) : ConOk M cLst := con1_ok (L1_ok M) fun x v h => by
  simp only [OT.get] at h
  cases hi : i64B x.k with
  | false => rw [hi] at h; cases h
  | true =>
    obtain ⟨h1, h2⟩ := i64B_iff hi
    have e := e46 M x h1 h2
    have : v = resV (leastW x) := by
      unfold leastW
      rw [hi] at h
      cases a : z0 x <;> cases b : rgB (endW x) <;> cases c : inB (endW x) <;> rw [a, b, c] at h <;> cases h <;> rfl
    rw [this]; exact e
abbrev LA : List Con := [cChk, cLst, cPrt, cItoa, cPre, cHas, cCut]
theorem LA_ok (M : Int) : ∀ c ∈ LA, ConOk M c := by
  intro c hc
  simp only [LA, List.mem_cons, List.not_mem_nil, or_false] at hc
  rcases hc with rfl | rfl | rfl | rfl | rfl | rfl | rfl
  · exact cChk_ok M
  · exact cLst_ok M
  · exact cPrt_ok M
  · exact cItoa_ok M
  · exact cPre_ok M
  · exact cHas_ok M
  · exact cCut_ok M
def num (a b c d k : Int) : Value := N.v ⟨a, b, c, d, k⟩
def nume (a b c d k e : Int) : Value := resV (⟨a, b, c, d, k⟩, e)
noncomputable def rn (M : Int) := runK Tryd.prog (orcL LA) (Sg1 M) 1000
theorem r10 (M : Int) : run Tryd.prog (orcOf (orcL LA)) (Sg1 M) 1000 41 [num 0 0 1 0 0, num 0 (-1) 0 0 0] = some (.tuple #[.int .i64 5, .int .i64 0]) := by kernel_rfl
theorem r13 (M : Int) : run Tryd.prog (orcOf (orcL LA)) (Sg1 M) 1000 37 [.int .i64 7] = some (num 0 0 0 (-1) 0) := by kernel_rfl
/-- Two calls with ranges over a function, at the chapter's inputs. -/
def cOm : Con := ⟨37, fun args => match args with
  | [.int .i64 n] => some (.ite (n == 7) (.val (num 0 0 0 (-1) 0)) .no)
  | _ => none⟩
theorem cOm_ok (M : Int) : ConOk M cOm := by
  intro args t v h hv w inv
  simp only [cOm] at h
  split at h
  · rename_i n
    cases h
    obtain ⟨h, rfl⟩ := OT.pre hv
    have : n = 7 := by simpa using h
    subst this
    exact run_calls (sg1 M) (orcOk_of (LA_ok M)) (r13 M) rfl inv
  · cases h
def is5 (x : N) (a b c d k : Int) : Bool := x.a == a && x.b == b && x.c == c && x.d == d && x.k == k
theorem is5_eq {x : N} {a b c d k : Int} (h : is5 x a b c d k = true) : N.v x = num a b c d k := by
  simp only [is5, Bool.and_eq_true, beq_iff_eq] at h
  obtain ⟨⟨⟨⟨rfl, rfl⟩, rfl⟩, rfl⟩, rfl⟩ := h
  rfl
def cPh : Con := ⟨41, fun args => match args with
  | [u, v] => match asN u, asN v with
    | some x, some y => some (.ite (is5 x 0 0 1 0 0 && is5 y 0 (-1) 0 0 0) (.val (.tuple #[.int .i64 5, .int .i64 0])) .no)
    | _, _ => none
  | _ => none⟩
theorem cPh_ok (M : Int) : ConOk M cPh := by
  intro args t v h hv w inv
  simp only [cPh] at h
  split at h
  · rename_i u t2
    split at h
    · rename_i x y hx hy
      cases h
      obtain ⟨hn, rfl⟩ := OT.pre hv
      simp only [Bool.and_eq_true] at hn
      rw [asN_eq hx, asN_eq hy, is5_eq hn.1, is5_eq hn.2]
      exact run_calls (sg1 M) (orcOk_of (LA_ok M)) (r10 M) rfl inv
    · cases h
  · cases h
abbrev LW : List Con := [cOm, cPh, cChk, cLst, cPrt, cItoa, cPre, cHas, cCut]
theorem LW_ok (M : Int) : ∀ c ∈ LW, ConOk M c := by
  intro c hc
  rcases List.mem_cons.1 hc with rfl | hc
  · exact cOm_ok M
  rcases List.mem_cons.1 hc with rfl | hc
  · exact cPh_ok M
  · exact LA_ok M c hc
theorem awake1 (M : Int) : runK Tryd.prog (orcL LW) (Sg1 M) 1000 19 [] = some (.bool true) := by kernel_rfl
def cAwk : Con := ⟨19, fun args => match args with
  | [] => some (.val (.bool true))
  | _ => none⟩
theorem cAwk_ok (M : Int) : ConOk M cAwk := by
  intro args t v h hv w inv
  simp only [cAwk] at h
  split at h
  · cases h
    cases hv
    exact runK_calls (sg1 M) (orcOk_of (LW_ok M)) (awake1 M) rfl inv
  · cases h
end Go.Proofs.YtihccnfaibiiiaaDoor.R
