/- Ring: RingNormed holds for every list of bytes and every integer. -/
import Derived.Test.YtonjnnjnojmpjaaDoorT6
import Derived.Test.YtonjnnjnojmpjaaDoorL3
namespace Go.Proofs.YtonjnnjnojmpjaaDoor.R
open Go Go.Proofs.XX.Vm Go.Proofs.XX.Rm Go.RowKit
set_option maxRecDepth 100000

theorem tmpsRN (v u : Value) : tmps0Of Tryd.prog 8 [v, u] = v :: u :: List.replicate 139 undef := by kernel_rfl
theorem bodyRN : (Tryd.prog.funcs[8]?).bind (·.body) ≠ none := by
  rw [Tryd.func8]
  intro h
  have : (Option.isSome ((some Tryd.f8).bind (·.body))) = true := by kernel_rfl
  rw [h] at this
  cases this
theorem lawNo (M : Int) (et off n c : Nat) (z : Int) (L : List Int) (hn : n = L.length) (h0 : 0 < n) :
    ∃ m, callInK Tryd.prog (evCodeK Tryd.prog orR (Sg1 M) m) 4 8 [slA off n c, .int .i64 z] [uni, pow, mxl M, argB et off L] (fun u _ => some u) = some (.bool true) := by
  obtain ⟨m, fs, e⟩ := callInK_endK (P := Tryd.prog) (orc := orR) (Sg := Sg1 M) (fl := 4) (f := 8) (args := [slA off n c, .int .i64 z]) (S := [uni, pow, mxl M, argB et off L]) (k := fun (u : Value) (_ : List Blk) => some u) bodyRN
  refine ⟨m, e.trans ?_⟩
  rw [tmpsRN, LRN_eq]
  refine (headRN M fs et off n c z L _ _).trans ?_
  refine (condT (ofT1_ok n)).trans ((condT (ofT2_ok hn)).trans ((condF (beq_ofN h0)).trans ?_))
  have hl := ofL_len (off := off) hn
  have hp : 0 < ofN n := by have := ofN_eq n; omega
  refine (drawRN M fs off n c (ofN n) unk z (argB et off L) emB (ofL off n L) _ _).trans ?_
  have n1 : (nxts (ofL off n L) (ofN n) 5 st0).1 = 5 := nxts_fst 5 st0 (by decide) (by decide)
  refine (condT (drOk_mk hl.symm hp (by decide))).trans ((condT (drOk_mk hl.symm hp (by omega))).trans ?_)
  refine (restRN M fs _ _ _ _ _ _ _ _ _ _ _ _ _ _).trans ?_
  have hx : (numF (ofL off n L) (ofN n) 60 8 st0).Sz 60 8 := numF_Sz (by omega) (by omega) (by omega) (by omega)
  have hy : (numF (ofL off n L) (ofN n) 60 8 (nxts (ofL off n L) (ofN n) 5 st0)).Sz 60 8 := numF_Sz (by omega) (by omega) (by omega) (by omega)
  generalize numF (ofL off n L) (ofN n) 60 8 st0 = x at hx
  generalize numF (ofL off n L) (ofN n) 60 8 (nxts (ofL off n L) (ofN n) 5 st0) = y at hy
  obtain ⟨f1, f2, f3, f4, f5, f6, f7, f8, f9⟩ := normed hx hy
  simp only [f1, f2, f3, f4, f5, f6, f7, f8, f9, omega_norm, eqN_self, bne_self_eq_false, beq_self_eq_true, Bool.not_true, cond_true, cond_false]
theorem nilTr (M z : Int) : callInK Tryd.prog (evCodeK Tryd.prog orR (Sg1 M) 300) 3 8 [.slice none 0 0, .int .i64 z] (Sg1 M) (fun u _ => some u) = bif (norS (xo z)).2 != 0 then some (.bool false) else bif !(eqN (norS (xo z)).1 ⟨1, 0, 0, 0, 0⟩) then some (.bool false) else some (.bool true) := by kernel_rfl
theorem empTr (M : Int) (c : Nat) (z : Int) : callInK Tryd.prog (evCodeK Tryd.prog orR (Sg1 M) 300) 3 8 [.slice (some ⟨1, 0, none⟩) 0 c, .int .i64 z] (Sg1 M) (fun u _ => some u) = bif (norS (xo z)).2 != 0 then some (.bool false) else bif !(eqN (norS (xo z)).1 ⟨1, 0, 0, 0, 0⟩) then some (.bool false) else some (.bool true) := by kernel_rfl
theorem nilNo (M z : Int) : callInK Tryd.prog (evCodeK Tryd.prog orR (Sg1 M) 300) 3 8 [.slice none 0 0, .int .i64 z] (Sg1 M) (fun u _ => some u) = some (.bool true) := by
  rw [nilTr, omega_norm]; rfl
theorem empNo (M : Int) (c : Nat) (z : Int) : callInK Tryd.prog (evCodeK Tryd.prog orR (Sg1 M) 300) 3 8 [.slice (some ⟨1, 0, none⟩) 0 c, .int .i64 z] (Sg1 M) (fun u _ => some u) = some (.bool true) := by
  rw [empTr, omega_norm]; rfl
end Go.Proofs.YtonjnnjnojmpjaaDoor.R
