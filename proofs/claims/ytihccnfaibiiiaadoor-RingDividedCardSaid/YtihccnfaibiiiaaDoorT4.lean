/- Ring: what is divided and multiplied again, as plain mathematics. -/
import Derived.Test.YtihccnfaibiiiaaDoorFd
import Derived.Test.YtihccnfaibiiiaaDoorF5
namespace Go.Proofs.YtihccnfaibiiiaaDoor.R
open Go Go.Proofs.XX.Vm Go.Proofs.XX.Rm Go.RowKit
set_option maxRecDepth 100000

theorem oddL_eq : ∀ (r : Nat) (n : Int), 0 < n → n < 2 ^ r → n = (oddL r n).1 * 2 ^ (oddL r n).2
  | 0, n => by intro h1 h2; simp only [Int.pow_zero] at h2; omega
  | r + 1, n => by
    intro h1 h2
    rw [Int.pow_succ] at h2
    simp only [oddL]
    by_cases e : n % 2 = 0
    · rw [if_pos e]
      have ih := oddL_eq r (n / 2) (by omega) (by omega)
      show n = (oddL r (n / 2)).1 * 2 ^ ((oddL r (n / 2)).2 + 1)
      rw [Int.pow_succ, ← Int.mul_assoc, ← ih]
      omega
    · rw [if_neg e]; show n = n * 2 ^ 0; rw [Int.pow_zero, Int.mul_one]
/-- How often the whole number may be halved. -/
def quTN (y : N) : Nat := (oddS (N.z y).bel).2
theorem bel_odd {y : N} (h : y.In 4096) (hz : y.zero = false) : (N.z y).bel = quO y * 2 ^ quTN y ∧ quO y % 2 = 1 ∧ 0 < quO y := by
  have h1 : 0 < (N.z y).bel := N.bel_pos (y := N.z y) hz
  have h2 : (N.z y).bel ≤ 18014398509481984 := N.bel_le (In_z h)
  obtain ⟨b1, b2⟩ := bitLen_le h1 h2
  exact ⟨oddL_eq _ _ h1 b2, oddL_odd _ _ h1 b2, (oddL_pos _ _ h1 b2).1⟩
/-- Times a whole number. -/
def N.sc (o : Int) (x : N) : N := ⟨o * x.a, o * x.b, o * x.c, o * x.d, x.k⟩
theorem sc_mul (o : Int) (x y : N) : N.mul (N.sc o x) y = N.sc o (x.mul y) := by
  ext <;> simp only [N.sc, N.mul, Int.mul_sub, Int.mul_add, Int.mul_assoc]
theorem sc_sc (o p : Int) (x : N) : N.sc o (N.sc p x) = N.sc (o * p) x := by
  ext <;> simp only [N.sc, Int.mul_assoc]
theorem sc_cancel {o : Int} (ho : o ≠ 0) {x y : N} (h : N.sc o x = N.sc o y) : x = y := by
  have e := h
  rw [N.sc, N.sc, N.mk.injEq] at e
  obtain ⟨e1, e2, e3, e4, e5⟩ := e
  ext
  · exact Int.eq_of_mul_eq_mul_left ho e1
  · exact Int.eq_of_mul_eq_mul_left ho e2
  · exact Int.eq_of_mul_eq_mul_left ho e3
  · exact Int.eq_of_mul_eq_mul_left ho e4
  · exact e5
theorem z_ext {x y : N} (h : N.z x = N.z y) (hk : x.k = y.k) : x = y := by
  simp only [N.z, N.mk.injEq] at h
  ext
  · exact h.1
  · exact h.2.1
  · exact h.2.2.1
  · exact h.2.2.2.1
  · exact hk
theorem z_mul (x y : N) : N.z (x.mul y) = (N.z x).mul (N.z y) := by
  ext
  · rfl
  · rfl
  · rfl
  · rfl
  · show (0 : Int) = 0 + 0; omega
theorem z_z (x : N) : N.z (N.z x) = N.z x := rfl
theorem z_sc (o : Int) (x : N) : N.z (N.sc o x) = N.sc o (N.z x) := rfl
theorem ups_even (x : N) : ∀ t : Nat, x.ups (2 * t) = ⟨2 ^ t * x.a, 2 ^ t * x.b, 2 ^ t * x.c, 2 ^ t * x.d, x.k + 2 * (t : Int)⟩
  | 0 => by ext <;> simp [N.ups]
  | t + 1 => by
    show ((x.ups (2 * t)).up).up = _
    rw [ups_even x t]
    ext <;> simp only [N.up, Int.pow_succ] <;> grind
theorem z_ups_even (x : N) (t : Nat) : N.z (x.ups (2 * t)) = N.sc (2 ^ t) (N.z x) := by
  rw [ups_even]; rfl
theorem mul_oth (y : N) : (N.z y).mul (N.z y).oth = ⟨(N.z y).bel, 0, 0, 0, 0⟩ := by
  unfold N.oth
  rw [← N.mul_assoc]
  show (N.z y).nrm.mul (N.z y).nrm.alt = _
  have h1 : (N.z y).nrm.c = 0 := by simp only [N.nrm, N.mul, N.conj]; grind
  have h2 : (N.z y).nrm.d = -(N.z y).nrm.b := by simp only [N.nrm, N.mul, N.conj]; grind
  have h3 : (N.z y).nrm.k = 0 := by show (0 : Int) + 0 = 0; omega
  unfold N.bel
  generalize (N.z y).nrm = u at h1 h2 h3
  ext
  · rfl
  · simp only [N.mul, N.alt, h1, h2]; grind
  · simp only [N.mul, N.alt, h1, h2]; grind
  · simp only [N.mul, N.alt, h1, h2]; grind
  · simp only [N.mul, N.alt, h3]; omega
theorem mul_whole {u : N} {n : Int} (h : u.k = 0) : u.mul ⟨n, 0, 0, 0, 0⟩ = N.sc n u := by
  ext <;> simp only [N.mul, N.sc, h] <;> grind
/-- What is multiplied by y may be told from its product. -/
theorem mul_cancel {u v y : N} (hz : y.zero = false) (h : u.mul y = v.mul y) : u = v := by
  have hk : u.k + y.k = v.k + y.k := congrArg N.k h
  refine z_ext ?_ (by omega)
  have e := congrArg (fun t => (N.z t).mul (N.z y).oth) h
  simp only [z_mul] at e
  rw [N.mul_assoc, N.mul_assoc, mul_oth, mul_whole rfl, mul_whole rfl] at e
  exact sc_cancel (by have := N.bel_pos (y := N.z y) hz; omega) e
theorem sc_quN {x y : N} (h : remB x y = false) : N.z (N.sc (quO y) (quN x y)) = N.z (quA x y) := by
  simp only [remB, Bool.or_eq_false_iff, bne_eq_false_iff_eq] at h
  obtain ⟨h1, h2, h3, h4⟩ := h
  ext
  · exact Int.mul_tdiv_cancel' (Int.dvd_of_tmod_eq_zero h1)
  · exact Int.mul_tdiv_cancel' (Int.dvd_of_tmod_eq_zero h2)
  · exact Int.mul_tdiv_cancel' (Int.dvd_of_tmod_eq_zero h3)
  · exact Int.mul_tdiv_cancel' (Int.dvd_of_tmod_eq_zero h4)
  · rfl
theorem z_quA (x y : N) : N.z (quA x y) = (N.z x).mul (N.z y).oth := by
  unfold quA; rw [z_mul, z_oth]; rfl
/-- The quotient, multiplied again. -/
theorem quN_mul {x y : N} (hy : y.In 4096) (hz : y.zero = false) (h : remB x y = false) : (quN x y).mul y = x.ups (2 * quTN y) := by
  obtain ⟨b1, b2, b3⟩ := bel_odd hy hz
  refine z_ext ?_ ?_
  · refine sc_cancel (o := quO y) (by omega) ?_
    rw [z_mul, ← sc_mul, ← z_sc, sc_quN h, z_quA, N.mul_assoc, N.mul_comm (N.z y).oth, mul_oth, mul_whole rfl, z_ups_even, sc_sc, b1]
  · rw [ups_even]
    show x.k - y.k + 2 * quT y + y.k = x.k + 2 * ((quTN y : Nat) : Int)
    have : quT y = ((quTN y : Nat) : Int) := rfl
    omega
theorem odd_dvd2 {o b : Int} (h : o % 2 = 1) (hd : o ∣ 2 * b) : o ∣ b := by
  obtain ⟨c, hc⟩ := hd
  have ho : o = 2 * (o / 2) + 1 := by omega
  generalize o / 2 = p at ho
  refine ⟨b - p * c, ?_⟩
  have h2 : c = 2 * (b - p * c) := by
    have : o * c = 2 * (p * c) + c := by rw [ho]; grind
    omega
  have h3 : p * c = 2 * (p * (b - p * c)) := by
    conv => lhs; rw [h2]
    grind
  have h4 : o * (b - p * c) = 2 * (p * (b - p * c)) + (b - p * c) := by rw [ho]; grind
  omega
theorem odd_dvd {o : Int} (h : o % 2 = 1) : ∀ (m : Nat) (b : Int), o ∣ 2 ^ m * b → o ∣ b
  | 0, b => fun hd => by rwa [Int.pow_zero, Int.one_mul] at hd
  | m + 1, b => fun hd => odd_dvd h m b (odd_dvd2 h (by
    rw [Int.pow_succ] at hd
    rwa [show 2 * (2 ^ m * b) = 2 ^ m * 2 * b by grind]))
/-- A multiple divides. -/
theorem remB_of {x y u : N} (hy : y.In 4096) (hz : y.zero = false) {m : Nat} (h : u.mul y = x.ups m) : remB x y = false := by
  obtain ⟨b1, b2, b3⟩ := bel_odd hy hz
  have e : N.sc (2 ^ m) (N.z (quA x y)) = N.sc (quO y) (N.sc (2 ^ quTN y) (N.z (u.ups m))) := by
    rw [z_quA, ← sc_mul, ← z_ups_even, show 2 * m = m + m by omega, ← N.ups_add, ← h, ← N.mul_ups, z_mul, N.mul_assoc, mul_oth, mul_whole rfl, sc_sc, b1]
  simp only [N.sc, N.z, N.mk.injEq] at e
  obtain ⟨e1, e2, e3, e4, -⟩ := e
  have f : ∀ {a c : Int}, 2 ^ m * a = quO y * c → a.tmod (quO y) = 0 := fun {a c} hh => Int.tmod_eq_zero_of_dvd (odd_dvd b2 m a ⟨c, hh⟩)
  simp only [remB, f e1, f e2, f e3, f e4, bne_self_eq_false, Bool.or_self]
theorem In_back {M : Int} : ∀ (n : Nat) {x : N}, (x.ups n).In M → x.In M
  | 0, _ => fun h => h
  | n + 1, x => fun h => by
    rw [← N.ups_succ'] at h
    have h2 := In_back n h
    have h3 := h2.dn'
    rwa [N.dn_up] at h3
theorem rises_eq : ∀ (n : Nat) (x : N), (x.ups n).In 1073741824 → N.rises n x = x.ups n
  | 0, _ => fun _ => rfl
  | n + 1, x => fun h => by
    have hx : inB x = true := (inB_iff x).2 (In_back (n + 1) h)
    rw [← N.ups_succ'] at h ⊢
    show (bif inB x then N.rises n x.up else x) = _
    rw [hx, cond_true]
    exact rises_eq n x.up h
theorem zero_ups (x : N) : ∀ n, (x.ups n).zero = x.zero
  | 0 => rfl
  | n + 1 => by show (x.ups n).up.zero = _; rw [N.zero_up, zero_ups x n]
/-- The least form of a quotient. -/
theorem qf_eq {q : N} (hz : q.zero = false) (h : (q.ups (-q.k).toNat).In 1073741824) : N.qf q = (q.ups (-q.k).toNat).nf := by
  unfold N.qf
  by_cases hk : q.k < 0
  · rw [decide_eq_true hk, cond_true, rises_eq _ _ h]
    unfold N.nf
    rw [zero_ups, hz, cond_false, N.ups_k, show (q.k + ((-q.k).toNat : Nat)).toNat = 0 by omega]
    rfl
  · rw [decide_eq_false hk, cond_false, show (-q.k).toNat = 0 by omega]
    show _ = q.nf
    unfold N.nf
    rw [hz, cond_false]
theorem quoN_eq {q : N} (h : (q.ups (-q.k).toNat).In 1073741824) (hk : q.k ≤ 60) : quoN q = ((q.ups (-q.k).toNat).nf, 0) := by
  unfold quoN
  cases hz : q.zero with
  | true => rw [cond_true, N.nf_of_zero (by rw [zero_ups, hz])]
  | false =>
    have k0 : 0 ≤ (q.ups (-q.k).toNat).k := by rw [N.ups_k]; omega
    have k1 := N.nf_k k0
    have k2 : (q.ups (-q.k).toNat).k ≤ 60 := by rw [N.ups_k]; omega
    have : okB (N.qf q) = true := by
      rw [qf_eq hz h]
      exact (okB_iff _).2 ⟨k1.1, by omega, h.nf⟩
    rw [cond_false, this, cond_true, qf_eq hz h]
/-- How often, for small numbers. -/
theorem quTN_le {y : N} (h : y.In 12) (hz : y.zero = false) : quTN y ≤ 20 := by
  obtain ⟨b1, b2, b3⟩ := bel_odd (h.mono (by omega)) hz
  have h1 : (N.z y).nrm.In 576 := ((In_z h).mul (In_z h).conj).mono (by omega)
  have h2 : (N.z y).bel ≤ 1327104 := ((h1.mul h1.alt).mono (show _ ≤ (1327104 : Int) by omega)).a2
  refine Nat.le_of_not_lt fun hlt => ?_
  have h3 : (2 : Int) ^ 21 ≤ 2 ^ quTN y := by exact_mod_cast Nat.pow_le_pow_right (n := 2) (by omega) hlt
  have h4 : (2 : Int) ^ quTN y ≤ quO y * 2 ^ quTN y := by
    have : (1 : Int) * 2 ^ quTN y ≤ quO y * 2 ^ quTN y := Int.mul_le_mul_of_nonneg_right (by omega) (by omega)
    omega
  omega
theorem quA_small {x y : N} {A : Int} (hx : x.In A) (hy : y.In 12) : (quA x y).In (4 * (A * 27648)) := by
  have h1 : (N.z y).nrm.In 576 := ((In_z hy).mul (In_z hy).conj).mono (by omega)
  have h2 : (N.z y).oth.In 27648 := ((In_z hy).conj.mul h1.alt).mono (by omega)
  exact (In_z hx).mul h2
theorem divS_of {x y : N} (hx : x.nf.In 4096) (hy : y.nf.In 4096) : divS x y = bif y.zero then (O, 6) else quoS x.nf y.nf := by
  unfold divS; rw [(wi_iff _).2 hx, (wi_iff _).2 hy, cond_true, cond_true]
theorem divR_of {x y : N} (hx : okB x = true) (hy : okB y = true) : divR x y = divS x y := by
  unfold divR; rw [bif3_ok hx, bif3_ok hy]
/-- What the law asks. -/
theorem divided {x y : N} {s : Int} (hx : x.Sz 12 6) (hy : y.Sz 12 6) (s0 : 0 ≤ s) (s1 : s ≤ 8) :
    twoS x y (x.mul y) = ((x.mul y).nf, 0) ∧ leaS x = (x.nf, 0) ∧ divR x ⟨0, 0, 0, 0, s⟩ = (O, 6) ∧ samS y O = (y.zero, 0) ∧
    (y.zero = true → divR x y = (O, 6)) ∧
    (y.zero = false → divR (x.mul y).nf y = (x.nf, 0) ∧ (divR x y = (O, 6) ∨ ∃ c, divR x y = (c, 0) ∧ twoS c y (c.mul y) = (x.nf, 0))) := by
  have ok : ∀ {u : N} {A K : Int}, u.Sz A K → A ≤ 1073741824 → K ≤ 60 → okB u = true := fun h a b => okB_Sz h a b
  have ox := ok hx (by omega) (by omega)
  have oy := ok hy (by omega) (by omega)
  have sm : (x.mul y).Sz 576 12 := (hx.mul hy).mono (by omega) (by omega)
  have om := ok sm.nf (by omega) (by omega)
  have i12 : ∀ {u : N} {K : Int}, u.Sz 12 K → u.nf.In 4096 := fun h => h.1.nf.mono (by omega)
  refine ⟨twoS_of ox oy om, leaS_of ox, ?_, ?_, fun hz => ?_, fun hz => ?_⟩
  · have o2 : okB ⟨0, 0, 0, 0, s⟩ = true := (okB_iff _).2 ⟨s0, by show s ≤ 60; omega, ⟨by show (-1073741824 : Int) ≤ 0; omega, by show (0 : Int) ≤ _; omega, by show (-1073741824 : Int) ≤ 0; omega, by show (0 : Int) ≤ _; omega, by show (-1073741824 : Int) ≤ 0; omega, by show (0 : Int) ≤ _; omega, by show (-1073741824 : Int) ≤ 0; omega, by show (0 : Int) ≤ _; omega⟩⟩
    have e : N.nf ⟨0, 0, 0, 0, s⟩ = O := N.nf_of_zero rfl
    rw [divR_of ox o2, divS_of (i12 hx) (by rw [e]; exact N.In.zero (by omega))]
    rfl
  · unfold samS
    rw [bif3_ok oy, bif3_ok okB_O, show N.nf O = O from rfl, nf_zero]
  · rw [divR_of ox oy, divS_of (i12 hx) (i12 hy), hz, cond_true]
  · have kx := hx.2.1; have ky := hy.2.1
    have hY := hy.nf
    have hX := hx.nf
    have iY : y.nf.In 4096 := i12 hy
    have zY : y.nf.zero = false := by rw [N.nf_zero, hz]
    have tY := quTN_le hY.1 zY
    have eT : quT y.nf = ((quTN y.nf : Nat) : Int) := rfl
    refine ⟨?_, ?_⟩
    · have na : (x.mul y).nf.nf = (x.mul y).nf := N.nf_nf _
      rw [divR_of om oy, divS_of (by rw [na]; exact sm.1.nf.mono (by omega)) iY, hz, cond_false, na]
      have k1 : 0 ≤ (x.mul y.nf).k := by show 0 ≤ x.k + y.nf.k; have := hY.2.1; omega
      have ea : (x.mul y).nf = (x.mul y.nf).nf := (N.nf_mul_right kx ky).symm
      have el : (x.mul y).nf.ups ((x.mul y.nf).k - (x.mul y).nf.k).toNat = x.mul y.nf := by
        have h1 := N.lift_nf k1 (Int.le_refl (x.mul y.nf).k)
        rw [N.lift_self, ← ea] at h1
        exact h1
      generalize ((x.mul y.nf).k - (x.mul y).nf.k).toNat = m at el
      have hr : remB (x.mul y).nf y.nf = false := remB_of iY zY el.symm
      have hq := quN_mul iY zY hr
      unfold quoS
      rw [hr, cond_false]
      have hk : (quN (x.mul y).nf y.nf).k = (x.mul y).nf.k - y.nf.k + 2 * quT y.nf := rfl
      have ka := sm.nf.2
      have kb := hY.2
      generalize quN (x.mul y).nf y.nf = q at hq hk
      have e2 : q.ups m = x.ups (2 * quTN y.nf) := by
        refine mul_cancel zY ?_
        rw [N.mul_ups, hq, N.ups_add, Nat.add_comm, ← N.ups_add, el, N.mul_ups]
      have hm : (-q.k).toNat ≤ m := by
        have := congrArg N.k e2
        rw [N.ups_k, N.ups_k] at this
        omega
      have e3 : (q.ups (-q.k).toNat).ups (m - (-q.k).toNat) = x.ups (2 * quTN y.nf) := by
        rw [N.ups_add, show (-q.k).toNat + (m - (-q.k).toNat) = m by omega, e2]
      have hin : (q.ups (-q.k).toNat).In 1073741824 := by
        refine In_back (m - (-q.k).toNat) ?_
        rw [e3]
        exact (hx.1.ups_le (n := 2 * quTN y.nf) (j := 20) (by omega)).mono (by omega)
      rw [quoN_eq hin (by omega)]
      have k0 : 0 ≤ (q.ups (-q.k).toNat).k := by rw [N.ups_k]; omega
      rw [← N.nf_ups k0 (m - (-q.k).toNat), e3, N.nf_ups kx]
    · rw [divR_of ox oy, divS_of (i12 hx) iY, hz, cond_false]
      unfold quoS
      cases hr : remB x.nf y.nf with
      | true => exact .inl rfl
      | false =>
        refine .inr ?_
        rw [cond_false]
        have hq := quN_mul iY zY hr
        have hk : (quN x.nf y.nf).k = x.nf.k - y.nf.k + 2 * quT y.nf := rfl
        have hi : (quN x.nf y.nf).In 1327104 := by
          obtain ⟨a1, a2, b1, b2, c1, c2, d1, d2⟩ := (quA_small hX.1 hY.1).mono (show _ ≤ (1327104 : Int) by omega)
          exact ⟨(tdiv_in a1 a2).1, (tdiv_in a1 a2).2, (tdiv_in b1 b2).1, (tdiv_in b1 b2).2, (tdiv_in c1 c2).1, (tdiv_in c1 c2).2, (tdiv_in d1 d2).1, (tdiv_in d1 d2).2⟩
        have ka := hX.2
        have kb := hY.2
        generalize quN x.nf y.nf = q at hq hk hi
        have hin : (q.ups (-q.k).toNat).In 1073741824 := (hi.ups_le (n := (-q.k).toNat) (j := 3) (by omega)).mono (by omega)
        have k0 : 0 ≤ (q.ups (-q.k).toNat).k := by rw [N.ups_k]; omega
        have k2 : (q.ups (-q.k).toNat).k ≤ 60 := by rw [N.ups_k]; omega
        have k3 := N.nf_k k0
        have e : ((q.ups (-q.k).toNat).nf.mul y).nf = x.nf := by
          rw [N.nf_mul_left k0 ky, ← N.nf_mul_right k0 ky, N.mul_ups, hq, N.ups_add, N.nf_ups ka.1, N.nf_nf]
        refine ⟨_, quoN_eq hin (by omega), ?_⟩
        rw [twoS_of ((okB_iff _).2 ⟨k3.1, by omega, hin.nf⟩) oy (by rw [e]; exact ok hX (by omega) (by omega)), e]
end Go.Proofs.YtihccnfaibiiiaaDoor.R
