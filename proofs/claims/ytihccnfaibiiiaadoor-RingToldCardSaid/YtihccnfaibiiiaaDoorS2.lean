/- Inputs made of bytes: the next number, wherever the store lies; numbers of the ring. -/
import Derived.Test.YtihccnfaibiiiaaDoorS1
namespace Go.Proofs.YtihccnfaibiiiaaDoor.R
open Go Go.Proofs.XX.Vm Go.Proofs.XX.Rm Go.RowKit
set_option maxRecDepth 100000

def drOk (fl b c n : Nat) (L : List Int) (nx : Int) : Bool := Nat.ble fl b && (Nat.ble fl c && (!(Nat.beq b c) && (Nat.ble 3 b && (Nat.ble 3 c && (decide (0 ≤ nx) && (Nat.beq n L.length && Nat.blt 0 n))))))
theorem drOk_iff {fl b c n : Nat} {L : List Int} {nx : Int} (h : drOk fl b c n L nx = true) : fl ≤ b ∧ fl ≤ c ∧ b ≠ c ∧ 3 ≤ b ∧ 3 ≤ c ∧ 0 ≤ nx ∧ n = L.length ∧ 0 < n := by
  simp only [drOk, Bool.and_eq_true, Nat.ble_eq, Bool.not_eq_true', decide_eq_true_eq, Nat.beq_eq, Nat.blt_eq] at h
  obtain ⟨h1, h2, h3, h4, h5, h6, h7, h8⟩ := h
  refine ⟨h1, h2, fun e => ?_, h4, h5, h6, h7, h8⟩
  subst e
  rw [show Nat.beq b b = true from Nat.beq_refl b] at h3
  cases h3
def stT : TypeId := 80
def u8T : TypeId := 5
noncomputable def cDraw : MCon := ⟨82, fun fl args S => match args with
  | [.pointer (some ⟨b, 0, none⟩)] => match S[b]? with
    | some ⟨[.slice (some ⟨c, 0, none⟩) n cp, .int .i64 nx, .int .u32 st], t, false, none⟩ => match S[c]? with
      | some ⟨[], t2, false, some (.ints .u8 0 L)⟩ => some (.ite (Nat.beq t stT && (Nat.beq t2 u8T && drOk fl b c n L nx)) (.val (.int .u32 (drO L n nx st)) (S.set b (stB c n cp (IntKind.i64.wrap (nx + 1)) (drS L n nx st)))) .no)
      | _ => none
    | _ => none
  | _ => none⟩
theorem sig_b (b c n : Nat) : sig2 3 b c n 3 = b := rfl
theorem sig_c (b c n : Nat) : sig2 3 b c n 4 = c := rfl
theorem renB_st (b c m n cp : Nat) (nx st : Int) : renB (sig2 3 b c m) (stB 4 n cp nx st) = stB c n cp nx st := rfl
theorem renB_by (b c m : Nat) (L : List Int) : renB (sig2 3 b c m) (byB L) = byB L := rfl
theorem atDraw (M : Int) (n cp : Nat) (nx st : Int) (L : List Int) (h1 : n = L.length) (h2 : 0 < n) (h3 : 0 ≤ nx) :
    CallAt Tryd.prog (Sg1 M) 3 82 [ptrB 3] (Sg1 M ++ [stB 4 n cp nx st, byB L]) (.int .u32 (drO L n nx st)) (Sg1 M ++ [stB 4 n cp (IntKind.i64.wrap (nx + 1)) (drS L n nx st), byB L]) := by
  have t1 : 0 ≤ drI n nx := Int.tmod_nonneg _ h3
  have t2 : drI n nx < (n : Int) := Int.tmod_lt_of_pos _ (by omega)
  have tt : drT n nx = true := by unfold drT; rw [decide_eq_true t1, decide_eq_true t2]; rfl
  have ti : insideI 0 L (0 + (drI n nx).toNat * 1) 1 = true := by
    simp only [insideI, Bool.and_eq_true, Nat.ble_eq]
    omega
  have tn : ((n : Int) != 0) = true := bne_iff_ne.2 (by omega)
  have tg : decide ((n : Int) > 0) = true := decide_eq_true (by omega)
  refine EvM.callAt (sg1 M) (orcOk_of nil_ok) (EvM.of_eq 60 (fun m k => ?_) ⟨rfl, rfl⟩) (Nat.le_refl _) (by simp)
  refine (tDraw M m n cp nx st L k).trans ?_
  rw [tg, tn, tt, ti]
  rfl
theorem cDraw_ok (M : Int) : MConOk M cDraw := by
  intro fl args S t v S' ht hg h1 h2
  simp only [cDraw] at ht
  split at ht
  · rename_i b
    split at ht
    · rename_i c n cp nx st ty hb
      split at ht
      · rename_i t2 L hc
        cases ht
        simp only [OTM.get] at hg
        cases hk : (Nat.beq ty stT && (Nat.beq t2 u8T && drOk fl b c n L nx)) with
        | false => rw [hk] at hg; cases hg
        | true =>
          rw [hk] at hg
          simp only [cond_true, Option.some.injEq, Prod.mk.injEq] at hg
          obtain ⟨rfl, rfl⟩ := hg
          simp only [Bool.and_eq_true, Nat.beq_eq] at hk
          obtain ⟨rfl, rfl, hk⟩ := hk
          obtain ⟨g1, g2, g3, g4, g5, g6, g7, g8⟩ := drOk_iff hk
          have := callAt2 (sg1 M) (fl := fl) (b := b) (c := c) (S := S) (atDraw M n cp nx st L g7 g8 g6) (hb.trans (congrArg some (renB_st b c S.length n cp nx st).symm)) (hc.trans (congrArg some (renB_by b c S.length L).symm)) g3 g4 g5 g1 g2 rfl rfl rfl rfl rfl
          exact this
      · cases ht
    · cases ht
  · cases ht
end Go.Proofs.YtihccnfaibiiiaaDoor.R
