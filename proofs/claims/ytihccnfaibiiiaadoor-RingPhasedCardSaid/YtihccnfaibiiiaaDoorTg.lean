/- Ring: RingPhased holds for every list of bytes and every integer. -/
import Derived.Test.YtihccnfaibiiiaaDoorTf
import Derived.Test.YtihccnfaibiiiaaDoorL3
namespace Go.Proofs.YtihccnfaibiiiaaDoor.R
open Go Go.Proofs.XX.Vm Go.Proofs.XX.Rm Go.RowKit
set_option maxRecDepth 100000

theorem phdA_true {x : N} {n : Int} (hx : x.Sz 60 8) (k : Option Value) : phdA x n k = k := by
  obtain ⟨h1, h2, h3, _⟩ := phased (y := O) (z := O) n hx ⟨N.In.zero (by omega), by decide, by decide⟩ ⟨N.In.zero (by omega), by decide, by decide⟩
  unfold phdA
  rw [h1, h2]
  rcases h3 with h3 | ⟨h4, h3⟩
  · rw [h3]
    simp only [bne_self_eq_false, cond_false]
  · rw [h3, h4]
    simp only [bne_self_eq_false, cond_false, beq_self_eq_true, Bool.not_true, cond_true, Bool.cond_self]
theorem phdB_true {y z : N} (hy : y.Sz 2 2) (hz : z.Sz 2 2) : phdB y z = some (.bool true) := by
  obtain ⟨_, _, _, h4, h5, h6⟩ := phased (x := O) 0 ⟨N.In.zero (by omega), by decide, by decide⟩ hy hz
  unfold phdB
  rw [h4, h5]
  rcases h6 with h6 | ⟨q, h6, h7, h8, h9, h10, h11⟩
  · rw [h6]; rfl
  · rw [h6]
    simp only [bne_self_eq_false, cond_false]
    rw [h9]
    simp only [h10, h11, eqN_self, beq_self_eq_true, cond_true]
    rw [decide_eq_true h7, decide_eq_true h8]
    rfl
theorem tmpsRH (v u : Value) : tmps0Of Tryd.prog 12 [v, u] = v :: u :: List.replicate 135 undef := by kernel_rfl
theorem bodyRH : (Tryd.prog.funcs[12]?).bind (·.body) ≠ none := by
  rw [Tryd.func12]
  intro h
  have : (Option.isSome ((some Tryd.f12).bind (·.body))) = true := by kernel_rfl
  rw [h] at this
  cases this
theorem lawPh (M : Int) (et off n c : Nat) (z : Int) (L : List Int) (hn : n = L.length) (h0 : 0 < n) :
    ∃ m, callInK Tryd.prog (evCodeK Tryd.prog orP (Sg1 M) m) 4 12 [slA off n c, .int .i64 z] [uni, pow, mxl M, argB et off L] (fun u _ => some u) = some (.bool true) := by
  obtain ⟨m, fs, e⟩ := callInK_endK (P := Tryd.prog) (orc := orP) (Sg := Sg1 M) (fl := 4) (f := 12) (args := [slA off n c, .int .i64 z]) (S := [uni, pow, mxl M, argB et off L]) (k := fun (u : Value) (_ : List Blk) => some u) bodyRH
  refine ⟨m, e.trans ?_⟩
  rw [tmpsRH, LRH_eq]
  refine (headRH M fs et off n c z L _ _).trans ?_
  refine (condT (ofT1_ok n)).trans ((condT (ofT2_ok hn)).trans ((condF (beq_ofN h0)).trans ?_))
  have hl := ofL_len (off := off) hn
  have hp : 0 < ofN n := by have := ofN_eq n; omega
  refine (restRH M fs off n c (ofN n) unk z (argB et off L) emB (ofL off n L)).trans ?_
  generalize ofL off n L = L2 at hl
  generalize ofN n = n2 at hl hp
  have st : ∀ (m : Nat) (p : Int × Int), 0 ≤ p.1 ∧ p.1 ≤ 1000 → m ≤ 5 → 0 ≤ (nxts L2 n2 m p).1 ∧ (nxts L2 n2 m p).1 ≤ p.1 + 5 := fun m p hq hm => by
    rw [nxts_fst m p hq.1 (by omega)]; omega
  have q0 : 0 ≤ st0.1 ∧ st0.1 ≤ 0 := by decide
  have q1 := st 5 _ ⟨q0.1, by omega⟩ (by omega)
  have q2 := st 5 _ ⟨q1.1, by omega⟩ (by omega)
  have dk : ∀ {nx : Int}, 0 ≤ nx → drOk 4 6 5 n2 L2 nx = true := fun h => drOk_mk hl.symm hp h
  have sx : ∀ p : Int × Int, (numF L2 n2 60 8 p).Sz 60 8 := fun p => numF_Sz (by omega) (by omega) (by omega) (by omega)
  have sy : ∀ p : Int × Int, (numF L2 n2 2 2 p).Sz 2 2 := fun p => numF_Sz (by omega) (by omega) (by omega) (by omega)
  rw [dk q0.1, dk q1.1, dk q2.1, phdA_true (sx st0), phdB_true (sy _) (sy _)]
  rfl
theorem nilTrH (M z : Int) : callInK Tryd.prog (evCodeK Tryd.prog orP (Sg1 M) 300) 3 12 [.slice none 0 0, .int .i64 z] (Sg1 M) (fun u _ => some u) = phdA (⟨31, -27, 38, 21, 5⟩ : N) z (phdB (⟨0, -2, -2, -2, 0⟩ : N) (⟨2, 0, -1, -2, 0⟩ : N)) := by kernel_rfl
theorem empTrH (M : Int) (c : Nat) (z : Int) : callInK Tryd.prog (evCodeK Tryd.prog orP (Sg1 M) 300) 3 12 [.slice (some ⟨1, 0, none⟩) 0 c, .int .i64 z] (Sg1 M) (fun u _ => some u) = phdA (⟨31, -27, 38, 21, 5⟩ : N) z (phdB (⟨0, -2, -2, -2, 0⟩ : N) (⟨2, 0, -1, -2, 0⟩ : N)) := by kernel_rfl
theorem drawn0 (z : Int) : phdA (⟨31, -27, 38, 21, 5⟩ : N) z (phdB (⟨0, -2, -2, -2, 0⟩ : N) (⟨2, 0, -1, -2, 0⟩ : N)) = some (.bool true) := by
  rw [phdA_true ⟨⟨by decide, by decide, by decide, by decide, by decide, by decide, by decide, by decide⟩, by decide, by decide⟩, phdB_true ⟨⟨by decide, by decide, by decide, by decide, by decide, by decide, by decide, by decide⟩, by decide, by decide⟩ ⟨⟨by decide, by decide, by decide, by decide, by decide, by decide, by decide, by decide⟩, by decide, by decide⟩]
theorem nilPh (M z : Int) : callInK Tryd.prog (evCodeK Tryd.prog orP (Sg1 M) 300) 3 12 [.slice none 0 0, .int .i64 z] (Sg1 M) (fun u _ => some u) = some (.bool true) := (nilTrH M z).trans (drawn0 z)
theorem empPh (M : Int) (c : Nat) (z : Int) : callInK Tryd.prog (evCodeK Tryd.prog orP (Sg1 M) 300) 3 12 [.slice (some ⟨1, 0, none⟩) 0 c, .int .i64 z] (Sg1 M) (fun u _ => some u) = some (.bool true) := (empTrH M c z).trans (drawn0 z)
end Go.Proofs.YtihccnfaibiiiaaDoor.R
