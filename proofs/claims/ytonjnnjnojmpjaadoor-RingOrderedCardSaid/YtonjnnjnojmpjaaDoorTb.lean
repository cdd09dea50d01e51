/- Ring: RingOrdered holds for every list of bytes. -/
import Derived.Test.YtonjnnjnojmpjaaDoorTa
import Derived.Test.YtonjnnjnojmpjaaDoorT9
import Derived.Test.YtonjnnjnojmpjaaDoorL3
namespace Go.Proofs.YtonjnnjnojmpjaaDoor.R
open Go Go.Proofs.XX.Vm Go.Proofs.XX.Rm Go.RowKit
set_option maxRecDepth 100000

theorem nd_of {a b : N} (ha : a.Sz 40 6) (hb : b.Sz 40 6) : (norS a).2 = 0 ∧ (norS b).2 = 0 ∧ ndS a b = (dfN a b, 0) ∧ Rl (dfN a b) := by
  obtain ⟨h1, h2, h3, h4⟩ := dfN_rl ha hb
  refine ⟨by rw [h2], by rw [h3], ?_, h1⟩
  unfold ndS
  rw [h2, h3]
  exact h4
theorem ordA_true {x y z : N} (hx : Rl x) (hy : Rl y) (hz : Rl z) : ordA x y z = some (.bool true) := by
  obtain ⟨h1, h2, h3, h4, h5, h6, h7, h8, h9, h10, h11⟩ := ordered hx hy hz
  unfold ordA ordC ordB
  simp only [h1, h2, h3, h6, h7, h8, h9, h10, bne_self_eq_false, beq_self_eq_true, Bool.not_true, cond_false]
  generalize negB (x.sum y.neg) = A at *
  generalize negB (y.sum x.neg) = B at *
  generalize negB (y.sum z.neg) = D at *
  generalize negB (x.sum z.neg) = I at *
  generalize eqN x y = E at *
  cases A <;> cases B <;> cases E <;> cases D <;> cases I <;> simp_all
theorem tmpsRO (v : Value) : tmps0Of Tryd.prog 9 [v] = v :: List.replicate 189 undef := by kernel_rfl
theorem bodyRO : (Tryd.prog.funcs[9]?).bind (·.body) ≠ none := by
  rw [Tryd.func9]
  intro h
  have : (Option.isSome ((some Tryd.f9).bind (·.body))) = true := by kernel_rfl
  rw [h] at this
  cases this
theorem lawOr (M : Int) (et off n c : Nat) (L : List Int) (hn : n = L.length) (h0 : 0 < n) :
    ∃ m, callInK Tryd.prog (evCodeK Tryd.prog orX (Sg1 M) m) 4 9 [slA off n c] [uni, pow, mxl M, argB et off L] (fun u _ => some u) = some (.bool true) := by
  obtain ⟨m, fs, e⟩ := callInK_endK (P := Tryd.prog) (orc := orX) (Sg := Sg1 M) (fl := 4) (f := 9) (args := [slA off n c]) (S := [uni, pow, mxl M, argB et off L]) (k := fun (u : Value) (_ : List Blk) => some u) bodyRO
  refine ⟨m, e.trans ?_⟩
  rw [tmpsRO, LRO_eq]
  refine (headRO M fs et off n c L _ _).trans ?_
  refine (condT (ofT1_ok n)).trans ((condT (ofT2_ok hn)).trans ((condF (beq_ofN h0)).trans ?_))
  have hl := ofL_len (off := off) hn
  have hp : 0 < ofN n := by have := ofN_eq n; omega
  refine (restRO M fs off n c (ofN n) unk (argB et off L) emB (ofL off n L)).trans ?_
  generalize ofL off n L = L2 at hl
  generalize ofN n = n2 at hl hp
  have st : ∀ (m : Nat) (p : Int × Int), 0 ≤ p.1 ∧ p.1 ≤ 1000 → m ≤ 5 → 0 ≤ (nxts L2 n2 m p).1 ∧ (nxts L2 n2 m p).1 ≤ p.1 + 5 := fun m p hq hm => by
    rw [nxts_fst m p hq.1 (by omega)]; omega
  have q0 : 0 ≤ st0.1 ∧ st0.1 ≤ 0 := by decide
  have q1 := st 5 _ ⟨q0.1, by omega⟩ (by omega)
  have q2 := st 5 _ ⟨q1.1, by omega⟩ (by omega)
  have q3 := st 5 _ ⟨q2.1, by omega⟩ (by omega)
  have q4 := st 5 _ ⟨q3.1, by omega⟩ (by omega)
  have q5 := st 1 _ ⟨q4.1, by omega⟩ (by omega)
  have q6 := st 5 _ ⟨q5.1, by omega⟩ (by omega)
  have q7 := st 5 _ ⟨q6.1, by omega⟩ (by omega)
  have dk : ∀ {nx : Int}, 0 ≤ nx → drOk 4 6 5 n2 L2 nx = true := fun h => drOk_mk hl.symm hp h
  have sz : ∀ p : Int × Int, (numF L2 n2 40 6 p).Sz 40 6 := fun p => numF_Sz (by omega) (by omega) (by omega) (by omega)
  rw [dk q0.1, dk q1.1, dk q2.1, dk q3.1, dk q4.1, dk q5.1, dk q6.1, dk q7.1]
  obtain ⟨a1, a2, a3, a4⟩ := nd_of (sz st0) (sz (nxts L2 n2 5 st0))
  obtain ⟨b1, b2, b3, b4⟩ := nd_of (sz (nxts L2 n2 5 (nxts L2 n2 5 st0))) (sz (nxts L2 n2 5 (nxts L2 n2 5 (nxts L2 n2 5 st0))))
  obtain ⟨d1, d2, d3, d4⟩ := nd_of (sz (nxts L2 n2 1 (nxts L2 n2 5 (nxts L2 n2 5 (nxts L2 n2 5 (nxts L2 n2 5 st0)))))) (sz (nxts L2 n2 5 (nxts L2 n2 1 (nxts L2 n2 5 (nxts L2 n2 5 (nxts L2 n2 5 (nxts L2 n2 5 st0)))))))
  simp only [a1, a2, a3, b1, b2, b3, d1, d2, d3, bne_self_eq_false, cond_true, cond_false, ordA_true a4 a4 a4, ordA_true a4 a4 d4, ordA_true a4 b4 b4, ordA_true a4 b4 d4, Bool.cond_self]
theorem nilOr (M : Int) : callInK Tryd.prog (evCodeK Tryd.prog orX (Sg1 M) 300) 3 9 [.slice none 0 0] (Sg1 M) (fun u _ => some u) = some (.bool true) := by kernel_rfl
theorem empOr (M : Int) (c : Nat) : callInK Tryd.prog (evCodeK Tryd.prog orX (Sg1 M) 300) 3 9 [.slice (some ⟨1, 0, none⟩) 0 c] (Sg1 M) (fun u _ => some u) = some (.bool true) := by kernel_rfl
end Go.Proofs.YtonjnnjnojmpjaaDoor.R
