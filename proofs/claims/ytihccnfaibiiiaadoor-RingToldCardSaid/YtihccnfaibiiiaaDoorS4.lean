/- Inputs made of bytes: numbers of the ring, wherever the store lies, as a contract (made by mkst2.py). -/
import Derived.Test.YtihccnfaibiiiaaDoorS3
import Derived.Test.YtihccnfaibiiiaaDoorM0
namespace Go.Proofs.YtihccnfaibiiiaaDoor.R
open Go Go.Proofs.XX.Vm Go.Proofs.XX.Rm Go.RowKit
set_option maxRecDepth 100000

theorem wrap_id {n : Int} (h1 : -9223372036854775808 ≤ n) (h2 : n ≤ 9223372036854775807) : IntKind.i64.wrap n = n := w_eq n h1 h2
theorem okS_of {L : List Int} {n : Nat} (h1 : n = L.length) (h2 : 0 < n) : ∀ (m : Nat) (p : Int × Int), 0 ≤ p.1 → p.1 + m ≤ 9223372036854775807 → okS L n m p = true
  | 0, _, _, _ => rfl
  | m + 1, p, h3, h4 => by
    have e : IntKind.i64.wrap (p.1 + 1) = p.1 + 1 := wrap_id (by omega) (by omega)
    have ih := okS_of h1 h2 m (nxt L n p) (by simp only [nxt]; omega) (by simp only [nxt]; omega)
    simp only [okS, ih, Bool.and_true]
    unfold drOk
    rw [decide_eq_true h3, show Nat.beq n L.length = true from by rw [h1]; exact Nat.beq_refl _, show Nat.blt 0 n = true from by rw [Nat.blt_eq]; exact h2]
    rfl
theorem atNum_60_8 (M : Int) (n cp : Nat) (p : Int × Int) (L : List Int) (h1 : n = L.length) (h2 : 0 < n) (h3 : 0 ≤ p.1) (h4 : p.1 ≤ 4611686018427387904) :
    CallAt Tryd.prog (Sg1 M) 3 27 [ptrB 3, .int .i64 60, .int .i64 8] (Sg1 M ++ [stBp 4 n cp p, byB L]) (N.v (numF L n 60 8 p)) (Sg1 M ++ [stBp 4 n cp (nxts L n 5 p), byB L]) := by
  refine callAt_drop (N := [bxS, bxI 60, rb (numF L n 60 8 p)]) ?_ (by simp) rfl rfl (all_at rfl) (all_at rfl)
  refine EvM.callAt (sg1 M) (orcLM_ok nil_ok (mem_cons_mok (cDraw_ok M) nil_mok)) (EvM.of_eq 80 (fun m k => ?_) ⟨rfl, rfl⟩) (Nat.le_refl _) (by simp)
  exact (tNum_60_8 M m n cp p L k).trans (bifs_eq L n _ 5 p (okS_of h1 h2 5 p h3 (by omega)))
theorem atNum_9_3 (M : Int) (n cp : Nat) (p : Int × Int) (L : List Int) (h1 : n = L.length) (h2 : 0 < n) (h3 : 0 ≤ p.1) (h4 : p.1 ≤ 4611686018427387904) :
    CallAt Tryd.prog (Sg1 M) 3 27 [ptrB 3, .int .i64 9, .int .i64 3] (Sg1 M ++ [stBp 4 n cp p, byB L]) (N.v (numF L n 9 3 p)) (Sg1 M ++ [stBp 4 n cp (nxts L n 5 p), byB L]) := by
  refine callAt_drop (N := [bxS, bxI 9, rb (numF L n 9 3 p)]) ?_ (by simp) rfl rfl (all_at rfl) (all_at rfl)
  refine EvM.callAt (sg1 M) (orcLM_ok nil_ok (mem_cons_mok (cDraw_ok M) nil_mok)) (EvM.of_eq 80 (fun m k => ?_) ⟨rfl, rfl⟩) (Nat.le_refl _) (by simp)
  exact (tNum_9_3 M m n cp p L k).trans (bifs_eq L n _ 5 p (okS_of h1 h2 5 p h3 (by omega)))
theorem atNum_40_6 (M : Int) (n cp : Nat) (p : Int × Int) (L : List Int) (h1 : n = L.length) (h2 : 0 < n) (h3 : 0 ≤ p.1) (h4 : p.1 ≤ 4611686018427387904) :
    CallAt Tryd.prog (Sg1 M) 3 27 [ptrB 3, .int .i64 40, .int .i64 6] (Sg1 M ++ [stBp 4 n cp p, byB L]) (N.v (numF L n 40 6 p)) (Sg1 M ++ [stBp 4 n cp (nxts L n 5 p), byB L]) := by
  refine callAt_drop (N := [bxS, bxI 40, rb (numF L n 40 6 p)]) ?_ (by simp) rfl rfl (all_at rfl) (all_at rfl)
  refine EvM.callAt (sg1 M) (orcLM_ok nil_ok (mem_cons_mok (cDraw_ok M) nil_mok)) (EvM.of_eq 80 (fun m k => ?_) ⟨rfl, rfl⟩) (Nat.le_refl _) (by simp)
  exact (tNum_40_6 M m n cp p L k).trans (bifs_eq L n _ 5 p (okS_of h1 h2 5 p h3 (by omega)))
theorem atNum_12_6 (M : Int) (n cp : Nat) (p : Int × Int) (L : List Int) (h1 : n = L.length) (h2 : 0 < n) (h3 : 0 ≤ p.1) (h4 : p.1 ≤ 4611686018427387904) :
    CallAt Tryd.prog (Sg1 M) 3 27 [ptrB 3, .int .i64 12, .int .i64 6] (Sg1 M ++ [stBp 4 n cp p, byB L]) (N.v (numF L n 12 6 p)) (Sg1 M ++ [stBp 4 n cp (nxts L n 5 p), byB L]) := by
  refine callAt_drop (N := [bxS, bxI 12, rb (numF L n 12 6 p)]) ?_ (by simp) rfl rfl (all_at rfl) (all_at rfl)
  refine EvM.callAt (sg1 M) (orcLM_ok nil_ok (mem_cons_mok (cDraw_ok M) nil_mok)) (EvM.of_eq 80 (fun m k => ?_) ⟨rfl, rfl⟩) (Nat.le_refl _) (by simp)
  exact (tNum_12_6 M m n cp p L k).trans (bifs_eq L n _ 5 p (okS_of h1 h2 5 p h3 (by omega)))
theorem atNum_3_3 (M : Int) (n cp : Nat) (p : Int × Int) (L : List Int) (h1 : n = L.length) (h2 : 0 < n) (h3 : 0 ≤ p.1) (h4 : p.1 ≤ 4611686018427387904) :
    CallAt Tryd.prog (Sg1 M) 3 27 [ptrB 3, .int .i64 3, .int .i64 3] (Sg1 M ++ [stBp 4 n cp p, byB L]) (N.v (numF L n 3 3 p)) (Sg1 M ++ [stBp 4 n cp (nxts L n 5 p), byB L]) := by
  refine callAt_drop (N := [bxS, bxI 3, rb (numF L n 3 3 p)]) ?_ (by simp) rfl rfl (all_at rfl) (all_at rfl)
  refine EvM.callAt (sg1 M) (orcLM_ok nil_ok (mem_cons_mok (cDraw_ok M) nil_mok)) (EvM.of_eq 80 (fun m k => ?_) ⟨rfl, rfl⟩) (Nat.le_refl _) (by simp)
  exact (tNum_3_3 M m n cp p L k).trans (bifs_eq L n _ 5 p (okS_of h1 h2 5 p h3 (by omega)))
theorem atNum_2_2 (M : Int) (n cp : Nat) (p : Int × Int) (L : List Int) (h1 : n = L.length) (h2 : 0 < n) (h3 : 0 ≤ p.1) (h4 : p.1 ≤ 4611686018427387904) :
    CallAt Tryd.prog (Sg1 M) 3 27 [ptrB 3, .int .i64 2, .int .i64 2] (Sg1 M ++ [stBp 4 n cp p, byB L]) (N.v (numF L n 2 2 p)) (Sg1 M ++ [stBp 4 n cp (nxts L n 5 p), byB L]) := by
  refine callAt_drop (N := [bxS, bxI 2, rb (numF L n 2 2 p)]) ?_ (by simp) rfl rfl (all_at rfl) (all_at rfl)
  refine EvM.callAt (sg1 M) (orcLM_ok nil_ok (mem_cons_mok (cDraw_ok M) nil_mok)) (EvM.of_eq 80 (fun m k => ?_) ⟨rfl, rfl⟩) (Nat.le_refl _) (by simp)
  exact (tNum_2_2 M m n cp p L k).trans (bifs_eq L n _ 5 p (okS_of h1 h2 5 p h3 (by omega)))
theorem atNum_1073741824_60 (M : Int) (n cp : Nat) (p : Int × Int) (L : List Int) (h1 : n = L.length) (h2 : 0 < n) (h3 : 0 ≤ p.1) (h4 : p.1 ≤ 4611686018427387904) :
    CallAt Tryd.prog (Sg1 M) 3 27 [ptrB 3, .int .i64 1073741824, .int .i64 60] (Sg1 M ++ [stBp 4 n cp p, byB L]) (N.v (numF L n 1073741824 60 p)) (Sg1 M ++ [stBp 4 n cp (nxts L n 5 p), byB L]) := by
  refine callAt_drop (N := [bxS, bxI 1073741824, rb (numF L n 1073741824 60 p)]) ?_ (by simp) rfl rfl (all_at rfl) (all_at rfl)
  refine EvM.callAt (sg1 M) (orcLM_ok nil_ok (mem_cons_mok (cDraw_ok M) nil_mok)) (EvM.of_eq 80 (fun m k => ?_) ⟨rfl, rfl⟩) (Nat.le_refl _) (by simp)
  exact (tNum_1073741824_60 M m n cp p L k).trans (bifs_eq L n _ 5 p (okS_of h1 h2 5 p h3 (by omega)))
def prOk (s r : Int) : Bool := (s == 60 && r == 8) || (s == 9 && r == 3) || (s == 40 && r == 6) || (s == 12 && r == 6) || (s == 3 && r == 3) || (s == 2 && r == 2) || (s == 1073741824 && r == 60)
noncomputable def cNum : MCon := ⟨27, fun fl args S => match args with
  | [.pointer (some ⟨b, 0, none⟩), .int .i64 s, .int .i64 r] => match S[b]? with
    | some ⟨[.slice (some ⟨c, 0, none⟩) n cp, .int .i64 nx, .int .u32 st], t, false, none⟩ => match S[c]? with
      | some ⟨[], t2, false, some (.ints .u8 0 L)⟩ => some (.ite (Nat.beq t stT && (Nat.beq t2 u8T && (prOk s r && (decide (nx ≤ 4611686018427387904) && drOk fl b c n L nx)))) (.val (N.v (numF L n s r (nx, st))) (S.set b (stBp c n cp (nxts L n 5 (nx, st))))) .no)
      | _ => none
    | _ => none
  | _ => none⟩
theorem cNum_ok (M : Int) : MConOk M cNum := by
  intro fl args S t v S' ht hg h1 h2
  simp only [cNum] at ht
  split at ht
  · rename_i b s r
    split at ht
    · rename_i c n cp nx st ty hb
      split at ht
      · rename_i t2 L hc
        cases ht
        simp only [OTM.get] at hg
        cases hk : (Nat.beq ty stT && (Nat.beq t2 u8T && (prOk s r && (decide (nx ≤ 4611686018427387904) && drOk fl b c n L nx)))) with
        | false => rw [hk] at hg; cases hg
        | true =>
          rw [hk] at hg
          simp only [cond_true, Option.some.injEq, Prod.mk.injEq] at hg
          obtain ⟨rfl, rfl⟩ := hg
          simp only [Bool.and_eq_true, Nat.beq_eq, decide_eq_true_eq] at hk
          obtain ⟨rfl, rfl, hp, h4, hk⟩ := hk
          obtain ⟨g1, g2, g3, g4, g5, g6, g7, g8⟩ := drOk_iff hk
          have key : CallAt Tryd.prog (Sg1 M) 3 27 [ptrB 3, .int .i64 s, .int .i64 r] (Sg1 M ++ [stBp 4 n cp (nx, st), byB L]) (N.v (numF L n s r (nx, st))) (Sg1 M ++ [stBp 4 n cp (nxts L n 5 (nx, st)), byB L]) := by
            simp only [prOk, Bool.or_eq_true, Bool.and_eq_true, beq_iff_eq] at hp
            rcases hp with ((((((⟨rfl, rfl⟩ | ⟨rfl, rfl⟩) | ⟨rfl, rfl⟩) | ⟨rfl, rfl⟩) | ⟨rfl, rfl⟩) | ⟨rfl, rfl⟩) | ⟨rfl, rfl⟩)
            · exact atNum_60_8 M n cp (nx, st) L g7 g8 g6 h4
            · exact atNum_9_3 M n cp (nx, st) L g7 g8 g6 h4
            · exact atNum_40_6 M n cp (nx, st) L g7 g8 g6 h4
            · exact atNum_12_6 M n cp (nx, st) L g7 g8 g6 h4
            · exact atNum_3_3 M n cp (nx, st) L g7 g8 g6 h4
            · exact atNum_2_2 M n cp (nx, st) L g7 g8 g6 h4
            · exact atNum_1073741824_60 M n cp (nx, st) L g7 g8 g6 h4
          have := callAt2 (sg1 M) (fl := fl) (b := b) (c := c) (S := S) key (hb.trans (congrArg some (renB_st b c S.length n cp nx st).symm)) (hc.trans (congrArg some (renB_by b c S.length L).symm)) g3 g4 g5 g1 g2 rfl rfl rfl rfl rfl
          rw [ren3_plain (v := N.v (numF L n s r (nx, st))) rfl] at this
          exact this
      · cases ht
    · cases ht
  · cases ht
end Go.Proofs.YtihccnfaibiiiaaDoor.R
