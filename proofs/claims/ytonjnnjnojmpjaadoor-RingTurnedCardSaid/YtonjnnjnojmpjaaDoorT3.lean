/- Ring: RingTurned holds for every list of bytes. -/
import Derived.Test.YtonjnnjnojmpjaaDoorT1
import Derived.Test.YtonjnnjnojmpjaaDoorT2
import Derived.Test.YtonjnnjnojmpjaaDoorL3
namespace Go.Proofs.YtonjnnjnojmpjaaDoor.R
open Go Go.Proofs.XX.Vm Go.Proofs.XX.Rm Go.RowKit
set_option maxRecDepth 100000

theorem tmpsRT (v : Value) : tmps0Of Tryd.prog 7 [v] = v :: List.replicate 170 undef := by kernel_rfl
theorem bodyRT : (Tryd.prog.funcs[7]?).bind (·.body) ≠ none := by
  rw [Tryd.func7]
  intro h
  have : (Option.isSome ((some Tryd.f7).bind (·.body))) = true := by kernel_rfl
  rw [h] at this
  cases this
theorem lawRT (M : Int) (et off n c : Nat) (L : List Int) (hn : n = L.length) (h0 : 0 < n) :
    ∃ m, callInK Tryd.prog (evCodeK Tryd.prog orN (Sg1 M) m) 4 7 [slA off n c] [uni, pow, mxl M, argB et off L] (fun u _ => some u) = some (.bool true) := by
  obtain ⟨m, fs, e⟩ := callInK_endK (P := Tryd.prog) (orc := orN) (Sg := Sg1 M) (fl := 4) (f := 7) (args := [slA off n c]) (S := [uni, pow, mxl M, argB et off L]) (k := fun (u : Value) (_ : List Blk) => some u) bodyRT
  refine ⟨m, e.trans ?_⟩
  rw [tmpsRT, LRT_eq]
  refine (headRT M fs et off n c L _ _).trans ?_
  refine (condT (ofT1_ok n)).trans ((condT (ofT2_ok hn)).trans ((condF (beq_ofN h0)).trans ?_))
  have hl := ofL_len (off := off) hn
  have hp : 0 < ofN n := by have := ofN_eq n; omega
  refine (drawRT M fs off n c (ofN n) unk (argB et off L) emB (ofL off n L) _ _).trans ?_
  have n1 : (nxts (ofL off n L) (ofN n) 5 st0).1 = 5 := nxts_fst 5 st0 (by decide) (by decide)
  refine (condT (drOk_mk hl.symm hp (by decide))).trans ((condT (drOk_mk hl.symm hp (by omega))).trans ?_)
  refine (restRT M fs _ _ _ _ _ _ _ _ _ _ _ _ _).trans ?_
  have hx : (numF (ofL off n L) (ofN n) 60 8 st0).Sz 60 8 := numF_Sz (by omega) (by omega) (by omega) (by omega)
  have hy : (numF (ofL off n L) (ofN n) 60 8 (nxts (ofL off n L) (ofN n) 5 st0)).Sz 60 8 := numF_Sz (by omega) (by omega) (by omega) (by omega)
  generalize numF (ofL off n L) (ofN n) 60 8 st0 = x at hx
  generalize numF (ofL off n L) (ofN n) 60 8 (nxts (ofL off n L) (ofN n) 5 st0) = y at hy
  obtain ⟨c1, c2, c3, ⟨c4, c5, c6⟩, ⟨c7, c8, c9⟩, ⟨c10, c11, c12⟩, c13⟩ := turned turn_conj hx hy
  obtain ⟨d1, d2, d3, ⟨-, d5, d6⟩, ⟨-, d8, d9⟩, ⟨-, d11, d12⟩, -⟩ := turned turn_dot hx hy
  obtain ⟨g1, g2⟩ := turned2 hx
  simp only [c1, c2, c3, c4, c5, c6, c7, c8, c9, c10, c11, c12, c13, d1, d2, d3, d5, d6, d8, d9, d11, d12, g1, g2, eqN_self, bne_self_eq_false, beq_self_eq_true, Bool.not_true, cond_true, cond_false]
theorem nilRT (M : Int) : callInK Tryd.prog (evCodeK Tryd.prog orN (Sg1 M) 300) 3 7 [.slice none 0 0] (Sg1 M) (fun u _ => some u) = some (.bool true) := by kernel_rfl
theorem empRT (M : Int) (c : Nat) : callInK Tryd.prog (evCodeK Tryd.prog orN (Sg1 M) 300) 3 7 [.slice (some ⟨1, 0, none⟩) 0 c] (Sg1 M) (fun u _ => some u) = some (.bool true) := by kernel_rfl
end Go.Proofs.YtonjnnjnojmpjaaDoor.R
