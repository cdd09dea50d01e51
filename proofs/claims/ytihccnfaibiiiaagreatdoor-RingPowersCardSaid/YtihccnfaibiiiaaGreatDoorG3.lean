/- Ring: the specification's Omega, for all numbers (made by mkom.py). -/
import Derived.Test.YtihccnfaibiiiaaGreatDoorG2
namespace Go.Proofs.YtihccnfaibiiiaaGreatDoor.R
open Go Go.Proofs.XX.Vm Go.Proofs.XX.Rm Go.RowKit
set_option maxRecDepth 100000

def om1 : N := ⟨1, 0, 0, 0, 0⟩
def trn (z : N) : N := ⟨w (0 - z.d), z.a, z.b, z.c, 0⟩
def omN (n : Int) : Int := (w (n.tmod 8 + 8)).tmod 8
def trns : Nat → N → N
  | 0, z => z
  | m + 1, z => trns m (trn z)
noncomputable abbrev qM (i : Nat) : Code := nthC (pcs Tryz.prog 30) i
noncomputable abbrev BM : Code := loopOf Tryz.prog 30 0
theorem LM_eq : pcs Tryz.prog 30 = [qM 0, qM 1, qM 2, .block 0 (.loop BM), qM 4, qM 5] := by kernel_rfl
theorem headM {α : Type} (M : Int) (fs : Nat → Nat) (n : Int) (l : List Code) (k : Kont α) :
    evP Tryz.prog (orcL []) (Sg1 M) 3 fs 0 (qM 0 :: qM 1 :: qM 2 :: l) (.int .i64 n :: List.replicate 24 undef) (Sg1 M) k = evP Tryz.prog (orcL []) (Sg1 M) 3 fs 3 l [(.int .i64 (n)), undef, p1, p2, (.int .i64 (0)), (N.v om1), undef, undef, undef, undef, undef, undef, undef, undef, undef, undef, undef, undef, undef, undef, undef, undef, undef, undef, undef] [uni, pow, mxl M, rb O, rb om1] k := by kernel_rfl
theorem roundM {α : Type} (M : Int) (m : Nat) (n i : Int) (z : N) (v1 v5 v6 v7 v8 v9 v10 v11 v12 v13 v14 v15 v16 v17 v18 v19 v20 v21 v22 v23 v24 : Value) (k : Kont α) :
    evCodeK Tryz.prog (orcL []) (Sg1 M) (m + 60) 3 BM [(.int .i64 (n)), v1, p1, p2, (.int .i64 (i)), v5, v6, v7, v8, v9, v10, v11, v12, v13, v14, v15, v16, v17, v18, v19, v20, v21, v22, v23, v24] [uni, pow, mxl M, rb O, rb z] k =
    bif decide (i < omN n) then k .normal [(.int .i64 (n)), v1, p1, p2, (.int .i64 (w (i + 1))), v5, (.int .i64 (i)), (.int .i64 (n)), (.int .i64 (n.tmod 8)), (.int .i64 (w (n.tmod 8 + 8))), (.int .i64 (omN n)), (.bool true), (.int .i64 (i)), (.int .i64 (w (i + 1))), (.pointer (some ⟨4, 3, none⟩)), (.int .i64 (z.d)), (.int .i64 (w (0 - z.d))), (.pointer (some ⟨4, 0, none⟩)), (.int .i64 (z.a)), (.pointer (some ⟨4, 1, none⟩)), (.int .i64 (z.b)), (.pointer (some ⟨4, 2, none⟩)), (.int .i64 (z.c)), (N.v (trn z)), v24] [uni, pow, mxl M, rb O, rb (trn z)] else k (.exit 0) [(.int .i64 (n)), v1, p1, p2, (.int .i64 (i)), v5, (.int .i64 (i)), (.int .i64 (n)), (.int .i64 (n.tmod 8)), (.int .i64 (w (n.tmod 8 + 8))), (.int .i64 (omN n)), (.bool false), v12, v13, v14, v15, v16, v17, v18, v19, v20, v21, v22, v23, v24] [uni, pow, mxl M, rb O, rb z] := by kernel_rfl
theorem tailM {α : Type} (M : Int) (fs : Nat → Nat) (n i : Int) (z : N) (v1 v5 v6 v7 v8 v9 v10 v11 v12 v13 v14 v15 v16 v17 v18 v19 v20 v21 v22 v23 v24 : Value) (k : Kont α) :
    evP Tryz.prog (orcL []) (Sg1 M) 3 fs 4 [qM 4, qM 5] [(.int .i64 (n)), v1, p1, p2, (.int .i64 (i)), v5, v6, v7, v8, v9, v10, v11, v12, v13, v14, v15, v16, v17, v18, v19, v20, v21, v22, v23, v24] [uni, pow, mxl M, rb O, rb z] k = k .ret [(.int .i64 (n)), v1, p1, p2, (.int .i64 (i)), v5, v6, v7, v8, v9, v10, v11, v12, v13, v14, v15, v16, v17, v18, v19, v20, v21, v22, v23, (N.v z)] [uni, pow, mxl M, rb z, rb z] := by kernel_rfl
theorem loopM (M n : Int) (v1 v5 v6 v7 v8 v9 v10 v11 v12 v13 v14 v15 v16 v17 v18 v19 v20 v21 v22 v23 v24 : Value) :
    Ev Tryz.prog (orcL []) (Sg1 M) Value 3 (.loop BM) [(.int .i64 (n)), v1, p1, p2, (.int .i64 (0)), v5, v6, v7, v8, v9, v10, v11, v12, v13, v14, v15, v16, v17, v18, v19, v20, v21, v22, v23, v24] [uni, pow, mxl M, rb O, rb om1] fun e T S => e = .exit 0 ∧ (∃ (i : Int) (c1 c5 c6 c7 c8 c9 c10 c11 c12 c13 c14 c15 c16 c17 c18 c19 c20 c21 c22 c23 c24 : Value), T = [(.int .i64 (n)), c1, p1, p2, (.int .i64 (i)), c5, c6, c7, c8, c9, c10, c11, c12, c13, c14, c15, c16, c17, c18, c19, c20, c21, c22, c23, c24]) ∧ S = [uni, pow, mxl M, rb O, rb (trns (omN n).toNat om1)] := by
  have hb : omN n < 8 := Int.tmod_lt_of_pos _ (by omega)
  refine Ev.loop (fun m T S => ∃ (i : Int) (z : N) (c1 c5 c6 c7 c8 c9 c10 c11 c12 c13 c14 c15 c16 c17 c18 c19 c20 c21 c22 c23 c24 : Value), T = [(.int .i64 (n)), c1, p1, p2, (.int .i64 (i)), c5, c6, c7, c8, c9, c10, c11, c12, c13, c14, c15, c16, c17, c18, c19, c20, c21, c22, c23, c24] ∧ S = [uni, pow, mxl M, rb O, rb z] ∧ m = (omN n - i).toNat ∧ 0 ≤ i ∧ i ≤ 8 ∧ trns m z = trns (omN n).toNat om1) ?_ (omN n).toNat _ _ ⟨0, om1, v1, v5, v6, v7, v8, v9, v10, v11, v12, v13, v14, v15, v16, v17, v18, v19, v20, v21, v22, v23, v24, rfl, rfl, by omega, by omega, by omega, rfl⟩
  rintro m T S ⟨i, z, c1, c5, c6, c7, c8, c9, c10, c11, c12, c13, c14, c15, c16, c17, c18, c19, c20, c21, c22, c23, c24, rfl, rfl, hm, g1, g2, e1⟩
  by_cases hi : i < omN n
  · obtain ⟨j, hj⟩ : ∃ j, (omN n - i).toNat = j + 1 := ⟨(omN n - i).toNat - 1, by omega⟩
    rw [hj] at hm
    subst hm
    have hw : w (i + 1) = i + 1 := w_eq _ (by omega) (by omega)
    refine Ev.of_eq 60 (fun s k => (roundM M s n i z c1 c5 c6 c7 c8 c9 c10 c11 c12 c13 c14 c15 c16 c17 c18 c19 c20 c21 c22 c23 c24 k).trans (condT (decide_eq_true hi))) ?_
    exact ⟨j, Nat.lt_succ_self j, i + 1, trn z, c1, c5, .int .i64 (i), .int .i64 (n), .int .i64 (n.tmod 8), .int .i64 (w (n.tmod 8 + 8)), .int .i64 (omN n), .bool true, .int .i64 (i), .int .i64 (w (i + 1)), .pointer (some ⟨4, 3, none⟩), .int .i64 (z.d), .int .i64 (w (0 - z.d)), .pointer (some ⟨4, 0, none⟩), .int .i64 (z.a), .pointer (some ⟨4, 1, none⟩), .int .i64 (z.b), .pointer (some ⟨4, 2, none⟩), .int .i64 (z.c), N.v (trn z), c24, by rw [hw], rfl, by omega, by omega, by omega, e1⟩
  · have h0 : m = 0 := by omega
    subst h0
    refine Ev.of_eq 60 (fun s k => (roundM M s n i z c1 c5 c6 c7 c8 c9 c10 c11 c12 c13 c14 c15 c16 c17 c18 c19 c20 c21 c22 c23 c24 k).trans (condF (decide_eq_false hi))) ?_
    exact ⟨rfl, ⟨i, c1, c5, .int .i64 (i), .int .i64 (n), .int .i64 (n.tmod 8), .int .i64 (w (n.tmod 8 + 8)), .int .i64 (omN n), .bool false, c12, c13, c14, c15, c16, c17, c18, c19, c20, c21, c22, c23, c24, rfl⟩, by rw [← e1]; rfl⟩
theorem tmpsM (n : Int) : tmps0Of Tryz.prog 30 [.int .i64 n] = .int .i64 n :: List.replicate 24 undef := by kernel_rfl
theorem outM (z : N) (a0 a1 : Value) (L : List Value) (b0 b1 b2 : Blk) (R : List Blk) : outOf Tryz.prog 30 (a0 :: a1 :: p1 :: L) (b0 :: b1 :: b2 :: rb z :: R) = some (N.v z) := by kernel_rfl
theorem eM (M n : Int) : EvF Tryz.prog (orcL []) (Sg1 M) 30 [.int .i64 n] (N.v (trns (omN n).toNat om1)) := by
  refine EvF.of_body rfl ?_
  rw [tmpsM]
  show Ev Tryz.prog (orcL []) (Sg1 M) Value 3 _ _ _ _
  refine Ev.of_pieces ?_
  rw [show flatC (bodyOf Tryz.prog 30) = _ from LM_eq]
  refine EvP.run (fun fs k => headM M fs n _ k) ?_
  refine EvP.step (Ev.block ((loopM M n _ _ _ _ _ _ _ _ _ _ _ _ _ _ _ _ _ _ _ _ _).mono ?_))
  rintro e T S ⟨rfl, ⟨i, c1, c5, c6, c7, c8, c9, c10, c11, c12, c13, c14, c15, c16, c17, c18, c19, c20, c21, c22, c23, c24, rfl⟩, rfl⟩
  exact EvP.stop (fun fs k => tailM M fs n i _ _ _ _ _ _ _ _ _ _ _ _ _ _ _ _ _ _ _ _ _ _ k) ⟨trivial, outM _ _ _ _ _ _ _ _⟩
def cOmR : Con := ⟨30, fun args => match args with
  | [.int .i64 n] => some (.val (N.v (trns (omN n).toNat om1)))
  | _ => none⟩
theorem cOmR_ok (M : Int) : ConOk M cOmR := by
  refine conOk_of_evF nil_ok ?_
  intro args t v ht hv
  simp only [cOmR] at ht
  split at ht
  · cases ht; cases hv; exact ⟨rfl, eM M _⟩
  · cases ht
end Go.Proofs.YtihccnfaibiiiaaGreatDoor.R
