/- Ring: RingDivided holds for every list of bytes. -/
import Derived.Test.YtihccnfaibiiiaaDoorTd
import Derived.Test.YtihccnfaibiiiaaDoorL3
namespace Go.Proofs.YtihccnfaibiiiaaDoor.R
open Go Go.Proofs.XX.Vm Go.Proofs.XX.Rm Go.RowKit
set_option maxRecDepth 100000

theorem dvdA_true {x y : N} {s : Int} (hx : x.Sz 12 6) (hy : y.Sz 12 6) (s0 : 0 ≤ s) (s1 : s ≤ 8) : dvdA x y s = some (.bool true) := by
  obtain ⟨h1, h2, h3, h4, h5, h6⟩ := divided hx hy s0 s1
  have hC : dvdC x y = some (.bool true) := by
    unfold dvdC
    cases hz : y.zero with
    | true => rw [h5 hz]; rfl
    | false =>
      rcases (h6 hz).2 with e | ⟨c, e1, e2⟩
      · rw [e]; rfl
      · rw [e1, h2]
        simp only [bne_self_eq_false, cond_false]
        rw [e2]
        simp only [beq_self_eq_true, cond_true, eqN_self]
  unfold dvdA dvdB
  rw [h1, h2, h3, h4, hC]
  simp only [bne_self_eq_false, cond_false, eqN_self, Bool.not_true]
  cases hz : y.zero with
  | true => rfl
  | false =>
    rw [(h6 hz).1]
    simp only [bne_self_eq_false, cond_false, eqN_self, Bool.not_true, Bool.cond_self]
theorem tmpsRV (v : Value) : tmps0Of Tryd.prog 10 [v] = v :: List.replicate 115 undef := by kernel_rfl
theorem bodyRV : (Tryd.prog.funcs[10]?).bind (·.body) ≠ none := by
  rw [Tryd.func10]
  intro h
  have : (Option.isSome ((some Tryd.f10).bind (·.body))) = true := by kernel_rfl
  rw [h] at this
  cases this
theorem lawDv (M : Int) (et off n c : Nat) (L : List Int) (hn : n = L.length) (h0 : 0 < n) :
    ∃ m, callInK Tryd.prog (evCodeK Tryd.prog orV (Sg1 M) m) 4 10 [slA off n c] [uni, pow, mxl M, argB et off L] (fun u _ => some u) = some (.bool true) := by
  obtain ⟨m, fs, e⟩ := callInK_endK (P := Tryd.prog) (orc := orV) (Sg := Sg1 M) (fl := 4) (f := 10) (args := [slA off n c]) (S := [uni, pow, mxl M, argB et off L]) (k := fun (u : Value) (_ : List Blk) => some u) bodyRV
  refine ⟨m, e.trans ?_⟩
  rw [tmpsRV, LRV_eq]
  refine (headRV M fs et off n c L _ _).trans ?_
  refine (condT (ofT1_ok n)).trans ((condT (ofT2_ok hn)).trans ((condF (beq_ofN h0)).trans ?_))
  have hl := ofL_len (off := off) hn
  have hp : 0 < ofN n := by have := ofN_eq n; omega
  refine (restRV M fs off n c (ofN n) unk (argB et off L) emB (ofL off n L)).trans ?_
  generalize ofL off n L = L2 at hl
  generalize ofN n = n2 at hl hp
  have st : ∀ (m : Nat) (p : Int × Int), 0 ≤ p.1 ∧ p.1 ≤ 1000 → m ≤ 5 → 0 ≤ (nxts L2 n2 m p).1 ∧ (nxts L2 n2 m p).1 ≤ p.1 + 5 := fun m p hq hm => by
    rw [nxts_fst m p hq.1 (by omega)]; omega
  have q0 : 0 ≤ st0.1 ∧ st0.1 ≤ 0 := by decide
  have q1 := st 5 _ ⟨q0.1, by omega⟩ (by omega)
  have q2 := st 5 _ ⟨q1.1, by omega⟩ (by omega)
  have dk : ∀ {nx : Int}, 0 ≤ nx → drOk 4 6 5 n2 L2 nx = true := fun h => drOk_mk hl.symm hp h
  have sz : ∀ p : Int × Int, (numF L2 n2 12 6 p).Sz 12 6 := fun p => numF_Sz (by omega) (by omega) (by omega) (by omega)
  have hs := lesF_rng (L := L2) (n := n2) (m := 9) (p := nxts L2 n2 5 (nxts L2 n2 5 st0)) (by omega)
  rw [dk q0.1, dk q1.1, dk q2.1, keptB_true, dvdA_true (sz st0) (sz (nxts L2 n2 5 st0)) hs.1 (by omega)]
  rfl
theorem nilDv (M : Int) : callInK Tryd.prog (evCodeK Tryd.prog orV (Sg1 M) 300) 3 10 [.slice none 0 0] (Sg1 M) (fun u _ => some u) = some (.bool true) := by kernel_rfl
theorem empDv (M : Int) (c : Nat) : callInK Tryd.prog (evCodeK Tryd.prog orV (Sg1 M) 300) 3 10 [.slice (some ⟨1, 0, none⟩) 0 c] (Sg1 M) (fun u _ => some u) = some (.bool true) := by kernel_rfl
end Go.Proofs.YtihccnfaibiiiaaDoor.R
