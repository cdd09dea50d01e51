/- Ring: RingField holds for every list of bytes. -/
import Derived.Test.YtihccnfaibiiiaaDoorL2
import Derived.Test.YtihccnfaibiiiaaDoorF5
import Derived.Laws.BitsLemmas
namespace Go.Proofs.YtihccnfaibiiiaaDoor.R
open Go Go.Proofs.XX.Vm Go.Proofs.XX.Rm Go.RowKit
set_option maxRecDepth 100000

theorem lesF_rng {L : List Int} {n : Nat} {m : Int} {p : Int × Int} (hm : 0 < m) : 0 ≤ lesF L n m p ∧ lesF L n m p < m := by
  have h1 : 0 ≤ drO L n p.1 p.2 ∧ drO L n p.1 p.2 < 4294967296 := by
    unfold drO u32
    rw [IntKind.wrap_u32]
    omega
  have e : (drO L n p.1 p.2).fdiv (2 ^ 4) = drO L n p.1 p.2 / 16 := Int.fdiv_eq_ediv_of_nonneg _ (by omega)
  unfold lesF
  rw [e, wrap_id (by omega) (by omega)]
  exact ⟨Int.tmod_nonneg _ (by omega), Int.tmod_lt_of_pos _ hm⟩
theorem froF_rng {L : List Int} {n : Nat} {s : Int} {p : Int × Int} (h0 : 0 ≤ s) (h1 : s ≤ 1073741824) : -s ≤ froF L n s p ∧ froF L n s p ≤ s := by
  have e1 : ng s = -s := by unfold ng; rw [wrap_id (by omega) (by omega)]; omega
  unfold froF
  rw [e1, show IntKind.i64.wrap (s - -s) = 2 * s by rw [wrap_id (by omega) (by omega)]; omega, show IntKind.i64.wrap (2 * s + 1) = 2 * s + 1 from wrap_id (by omega) (by omega)]
  have h := lesF_rng (L := L) (n := n) (m := 2 * s + 1) (p := p) (by omega)
  rw [wrap_id (by omega) (by omega)]
  omega
theorem numF_Sz {L : List Int} {n : Nat} {s r : Int} {p : Int × Int} (h0 : 0 ≤ s) (h1 : s ≤ 1073741824) (h2 : 0 ≤ r) (h3 : r ≤ 60) : (numF L n s r p).Sz s r := by
  have a := froF_rng (L := L) (n := n) (s := s) (p := p) h0 h1
  have b := froF_rng (L := L) (n := n) (s := s) (p := nxts L n 1 p) h0 h1
  have c := froF_rng (L := L) (n := n) (s := s) (p := nxts L n 2 p) h0 h1
  have d := froF_rng (L := L) (n := n) (s := s) (p := nxts L n 3 p) h0 h1
  have e1 : IntKind.i64.wrap (r + 1) = r + 1 := wrap_id (by omega) (by omega)
  have e := lesF_rng (L := L) (n := n) (m := r + 1) (p := nxts L n 4 p) (by omega)
  refine ⟨⟨a.1, a.2, b.1, b.2, c.1, c.2, d.1, d.2⟩, ?_, ?_⟩
  · show 0 ≤ lesF L n (IntKind.i64.wrap (r + 1)) (nxts L n 4 p)
    rw [e1]; omega
  · show lesF L n (IntKind.i64.wrap (r + 1)) (nxts L n 4 p) ≤ r
    rw [e1]; omega
theorem drOk_mk {n : Nat} {L : List Int} {nx : Int} (h1 : n = L.length) (h2 : 0 < n) (h3 : 0 ≤ nx) : drOk 4 6 5 n L nx = true := by
  unfold drOk
  rw [decide_eq_true h3, show Nat.beq n L.length = true from by rw [h1]; exact Nat.beq_refl _, show Nat.blt 0 n = true from by rw [Nat.blt_eq]; exact h2]
  rfl
theorem nxts_fst {L : List Int} {n : Nat} : ∀ (m : Nat) (p : Int × Int), 0 ≤ p.1 → p.1 + m ≤ 9223372036854775807 → (nxts L n m p).1 = p.1 + m
  | 0, p, _, _ => by simp [nxts]
  | m + 1, p, h1, h2 => by
    have ih := nxts_fst (L := L) (n := n) m p h1 (by omega)
    show IntKind.i64.wrap ((nxts L n m p).1 + 1) = _
    rw [ih, wrap_id (by omega) (by omega)]
    omega
theorem ofN_eq (n : Nat) : ofN n = min n 300 := by
  unfold ofN miE
  split <;> omega
theorem ofL_len {off n : Nat} {L : List Int} (h : n = L.length) : (ofL off n L).length = ofN n := by
  have := ofN_eq n
  unfold ofL
  simp only [List.length_take, List.length_drop]
  omega
theorem ofT1_ok (n : Nat) : ofT1 n = true := by
  have h : 0 ≤ miE n ∧ (miE n).toNat ≤ n := by unfold miE; split <;> omega
  unfold ofT1
  rw [decide_eq_true h.1, show Nat.ble (miE n).toNat n = true from by rw [Nat.ble_eq]; exact h.2, show Nat.ble 0 (miE n).toNat = true from by rw [Nat.ble_eq]; omega]
  rfl
theorem ofT2_ok {off n : Nat} {L : List Int} (h : n = L.length) : ofT2 off n L = true := by
  have := ofN_eq n
  simp only [ofT2, insideI, Bool.and_eq_true, Nat.ble_eq]
  omega
theorem beq_ofN {n : Nat} (h : 0 < n) : Nat.beq (ofN n) 0 = false := by
  have := ofN_eq n
  cases hb : Nat.beq (ofN n) 0 with
  | false => rfl
  | true => have := Nat.eq_of_beq_eq_true hb; omega
theorem tmpsRF (v : Value) : tmps0Of Tryd.prog 6 [v] = v :: List.replicate 228 undef := by kernel_rfl
theorem bodyRF : (Tryd.prog.funcs[6]?).bind (·.body) ≠ none := by
  rw [Tryd.func6]
  intro h
  have : (Option.isSome ((some Tryd.f6).bind (·.body))) = true := by kernel_rfl
  rw [h] at this
  cases this
theorem lawRF (M : Int) (et off n c : Nat) (L : List Int) (hn : n = L.length) (h0 : 0 < n) :
    ∃ m, callInK Tryd.prog (evCodeK Tryd.prog orN (Sg1 M) m) 4 6 [slA off n c] [uni, pow, mxl M, argB et off L] (fun u _ => some u) = some (.bool true) := by
  obtain ⟨m, fs, e⟩ := callInK_endK (P := Tryd.prog) (orc := orN) (Sg := Sg1 M) (fl := 4) (f := 6) (args := [slA off n c]) (S := [uni, pow, mxl M, argB et off L]) (k := fun (u : Value) (_ : List Blk) => some u) bodyRF
  refine ⟨m, e.trans ?_⟩
  rw [tmpsRF, LRF_eq]
  refine (headRF M fs et off n c L _ _).trans ?_
  refine (condT (ofT1_ok n)).trans ((condT (ofT2_ok hn)).trans ((condF (beq_ofN h0)).trans ?_))
  have hl := ofL_len (off := off) hn
  have hp : 0 < ofN n := by have := ofN_eq n; omega
  refine (drawRF M fs off n c (ofN n) unk (argB et off L) emB (ofL off n L) _ _).trans ?_
  have n1 : (nxts (ofL off n L) (ofN n) 5 st0).1 = 5 := nxts_fst 5 st0 (by decide) (by decide)
  have n2 : (nxts (ofL off n L) (ofN n) 5 (nxts (ofL off n L) (ofN n) 5 st0)).1 = 10 := by rw [nxts_fst 5 _ (by omega) (by omega), n1]; rfl
  refine (condT (drOk_mk hl.symm hp (by decide))).trans ((condT (drOk_mk hl.symm hp (by omega))).trans ((condT (drOk_mk hl.symm hp (by omega))).trans ?_))
  refine (restRF M fs _ _ _ _ _ _ _ _ _ _ _ _ _ _ _ _).trans ?_
  have hx : (numF (ofL off n L) (ofN n) 60 8 st0).Sz 60 8 := numF_Sz (by omega) (by omega) (by omega) (by omega)
  have hy : (numF (ofL off n L) (ofN n) 60 8 (nxts (ofL off n L) (ofN n) 5 st0)).Sz 60 8 := numF_Sz (by omega) (by omega) (by omega) (by omega)
  have hz : (numF (ofL off n L) (ofN n) 9 3 (nxts (ofL off n L) (ofN n) 5 (nxts (ofL off n L) (ofN n) 5 st0))).Sz 9 3 := numF_Sz (by omega) (by omega) (by omega) (by omega)
  generalize numF (ofL off n L) (ofN n) 60 8 st0 = x at hx
  generalize numF (ofL off n L) (ofN n) 60 8 (nxts (ofL off n L) (ofN n) 5 st0) = y at hy
  generalize numF (ofL off n L) (ofN n) 9 3 (nxts (ofL off n L) (ofN n) 5 (nxts (ofL off n L) (ofN n) 5 st0)) = z at hz
  obtain ⟨f1, f2, f3, f4, f5, f6, f7, f8, f9, f10, f11, f12, f13, f14, f15, f16⟩ := field x y z hx hy hz
  simp only [f1, f2, f3, f4, f5, f6, f7, f8, f9, f10, f11, f12, f13, f14, f15, f16, eqN_self, bne_self_eq_false, beq_self_eq_true, Bool.not_true, cond_true, cond_false]
theorem lawNil (M : Int) : callInK Tryd.prog (evCodeK Tryd.prog orN (Sg1 M) 300) 3 6 [.slice none 0 0] (Sg1 M) (fun u _ => some u) = some (.bool true) := by kernel_rfl
theorem lawEmp (M : Int) (c : Nat) : callInK Tryd.prog (evCodeK Tryd.prog orN (Sg1 M) 300) 3 6 [.slice (some ⟨1, 0, none⟩) 0 c] (Sg1 M) (fun u _ => some u) = some (.bool true) := by kernel_rfl
end Go.Proofs.YtihccnfaibiiiaaDoor.R
