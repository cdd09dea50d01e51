/- Ring: RingTold holds for every list of bytes, near or far. -/
import Derived.Test.YtihccnfaibiiiaaDoorUe
namespace Go.Proofs.YtihccnfaibiiiaaDoor.R
open Go Go.Proofs.XX.Vm Go.Proofs.XX.Rm Go.RowKit
set_option maxRecDepth 100000

theorem numC_len {x : N} (h : okB x = true) : (numC x).length ≤ 200 := by
  obtain ⟨h1, h2, h3⟩ := big_of h
  have a := termsC_len h1
  have b := dec_len (n := x.k.toNat) (by omega)
  unfold numC
  cases x.k == 0
  · simp; omega
  · simp; omega
theorem samS_ok {x y : N} (hx : okB x = true) (hy : okB y = true) : samS x y = (eqN x.nf y.nf, 0) := by unfold samS; rw [bif3_ok hx, bif3_ok hy]
theorem tolT_true {x y : N} (hx : okB x = true) (hy : okB y = true) : tolT x y = some (.bool true) := by
  have e1 : prS x = (numC x.nf, 0) := by unfold prS; rw [bif3_ok hx]
  have e2 : prS y = (numC y.nf, 0) := by unfold prS; rw [bif3_ok hy]
  have e3 : leaS x = (x.nf, 0) := by unfold leaS; rw [bif3_ok hx]
  have e4 : parM (numC x.nf) = (x.nf, 0) := by unfold parM; rw [progM_least hx]
  have hl := numC_len (okB_nf hx)
  unfold tolT tolA
  rw [e1, e2, e3, samS_ok hx hy, bs_size, bs_list, e4, Nat.ble_eq_true_of_le (show (numC x.nf).length ≤ 4000000 by omega), bs_toList, bs_toList]
  have e5 := numC_inj hx hy
  simp only [beq_self_eq_true, cond_true, (eqN_iff _ _).2, e5]
theorem okB_Sz2 {x : N} {s r : Int} (h : x.Sz s r) (hs : s ≤ 1073741824) (hr : r ≤ 60) : okB x = true := by
  obtain ⟨h1, h2, h3⟩ := h
  exact (okB_iff x).2 ⟨h2, by omega, h1.mono hs⟩
theorem tmpsRL (v u : Value) : tmps0Of Tryd.prog 11 [v, u] = v :: u :: List.replicate 92 undef := by kernel_rfl
theorem bodyRL : (Tryd.prog.funcs[11]?).bind (·.body) ≠ none := by
  rw [Tryd.func11]
  intro h
  have : (Option.isSome ((some Tryd.f11).bind (·.body))) = true := by kernel_rfl
  rw [h] at this
  cases this
theorem lawTl (M : Int) (et off n c : Nat) (far : Bool) (L : List Int) (hn : n = L.length) (h0 : 0 < n) :
    ∃ m, callInK Tryd.prog (evCodeK Tryd.prog orT (Sg1 M) m) 4 11 [slA off n c, .bool far] [uni, pow, mxl M, argB et off L] (fun u _ => some u) = some (.bool true) := by
  obtain ⟨m, fs, e⟩ := callInK_endK (P := Tryd.prog) (orc := orT) (Sg := Sg1 M) (fl := 4) (f := 11) (args := [slA off n c, .bool far]) (S := [uni, pow, mxl M, argB et off L]) (k := fun (u : Value) (_ : List Blk) => some u) bodyRL
  refine ⟨m, e.trans ?_⟩
  rw [tmpsRL, LRL_eq]
  refine (headRL M fs et off n c far L _ _).trans ?_
  refine (condT (ofT1_ok n)).trans ((condT (ofT2_ok hn)).trans ((condF (beq_ofN h0)).trans ?_))
  have hl := ofL_len (off := off) hn
  have hp : 0 < ofN n := by have := ofN_eq n; omega
  refine (restRL M fs off n c (ofN n) unk far (argB et off L) emB (ofL off n L)).trans ?_
  generalize ofL off n L = L2 at hl
  generalize ofN n = n2 at hl hp
  have st : ∀ (m : Nat) (p : Int × Int), 0 ≤ p.1 ∧ p.1 ≤ 1000 → m ≤ 5 → 0 ≤ (nxts L2 n2 m p).1 ∧ (nxts L2 n2 m p).1 ≤ p.1 + 5 := fun m p hq hm => by
    rw [nxts_fst m p hq.1 (by omega)]; omega
  have q0 : 0 ≤ st0.1 ∧ st0.1 ≤ 0 := by decide
  have q1 := st 5 _ ⟨q0.1, by omega⟩ (by omega)
  have q2 := st 5 _ ⟨q1.1, by omega⟩ (by omega)
  have q3 := st 5 _ ⟨q2.1, by omega⟩ (by omega)
  have dk : ∀ {nx : Int}, 0 ≤ nx → drOk 4 6 5 n2 L2 nx = true := fun h => drOk_mk hl.symm hp h
  have s3 : ∀ p : Int × Int, okB (numF L2 n2 3 3 p) = true := fun p => okB_Sz2 (numF_Sz (by omega) (by omega) (by omega) (by omega)) (by omega) (by omega)
  have sb : ∀ p : Int × Int, okB (numF L2 n2 1073741824 60 p) = true := fun p => okB_Sz2 (numF_Sz (by omega) (by omega) (by omega) (by omega)) (by omega) (by omega)
  have sk : ∀ {x : N}, okB x = true → okB (withK x (mn (w (x.k + 1)) 60)) = true := fun {x} h => by
    obtain ⟨h1, h2, a1, a2, b1, b2, c1, c2, d1, d2⟩ := (okB_iff x).1 h
    rw [w_eq _ (by omega) (by omega)]
    refine (okB_iff _).2 ⟨?_, ?_, a1, a2, b1, b2, c1, c2, d1, d2⟩
    · show 0 ≤ mn (x.k + 1) 60
      unfold mn; split <;> omega
    · show mn (x.k + 1) 60 ≤ 60
      unfold mn; split <;> omega
  rw [dk q0.1, dk q1.1, dk q2.1, dk q3.1]
  cases far with
  | false => exact tolT_true (s3 _) (s3 _)
  | true =>
    simp only [cond_true]
    cases lesF L2 n2 2 (nxts L2 n2 5 (nxts L2 n2 5 (nxts L2 n2 5 st0))) == 0 with
    | true => exact tolT_true (sb _) (sk (sb _))
    | false => exact tolT_true (sb _) (sb _)
theorem nilTl (M : Int) (far : Bool) : callInK Tryd.prog (evCodeK Tryd.prog orT (Sg1 M) 300) 3 11 [.slice none 0 0, .bool far] (Sg1 M) (fun u _ => some u) = some (.bool true) := by cases far <;> kernel_rfl
theorem empTl (M : Int) (c : Nat) (far : Bool) : callInK Tryd.prog (evCodeK Tryd.prog orT (Sg1 M) 300) 3 11 [.slice (some ⟨1, 0, none⟩) 0 c, .bool far] (Sg1 M) (fun u _ => some u) = some (.bool true) := by cases far <;> kernel_rfl
end Go.Proofs.YtihccnfaibiiiaaDoor.R
