/- Ring: the program's Divide. -/
import Derived.Test.YtihccnfaibiiiaaDoorF4
namespace Go.Proofs.YtihccnfaibiiiaaDoor.R
open Go Go.Proofs.XX.Vm Go.Proofs.XX.Rm Go.RowKit
set_option maxRecDepth 100000

/-- What is divided, by what, and how often that was halved. -/
def quA (x y : N) : N := (N.z x).mul (N.z y).oth
def quO (y : N) : Int := (oddS (N.z y).bel).1
def quT (y : N) : Int := ((oddS (N.z y).bel).2 : Nat)
def dv {α : Type} (o : Int) (t : Option α) : Option α := bif o != 0 then t else none
/-- The quotient, before it is put into its least form. -/
def quN (x y : N) : N := ⟨(quA x y).a.tdiv (quO y), (quA x y).b.tdiv (quO y), (quA x y).c.tdiv (quO y), (quA x y).d.tdiv (quO y), x.k - y.k + 2 * quT y⟩
def quW (x y : N) : N := ⟨w ((quA x y).a.tdiv (quO y)), w ((quA x y).b.tdiv (quO y)), w ((quA x y).c.tdiv (quO y)), w ((quA x y).d.tdiv (quO y)), w (w (x.k - y.k) + w (2 * quT y))⟩
noncomputable abbrev LQ : List Con := [cTmsS, cCmpS, cOddS, cLsQ]
theorem LQ_ok (M : Int) : ∀ c ∈ LQ, ConOk M c := mem_cons_ok (cTmsS_ok M) (mem_cons_ok (cCmpS_ok M) (mem_cons_ok (cOddS_ok M) (mem_cons_ok (cLsQ_ok M) nil_ok)))
theorem tQuo (M : Int) (m : Nat) (x y : N) : runK Tryd.prog (orcL LQ) (Sg1 M) (m + 60) 57 [N.v x, N.v y] =
    bif smB (N.z y) then (bif tmB (N.z x) (N.z (N.z y).oth) then (bif oB (N.z y).bel then
      dv (quO y) (bif (quA x y).a.tmod (quO y) != 0 then some (resV (O, 6)) else dv (quO y) (bif (quA x y).b.tmod (quO y) != 0 then some (resV (O, 6)) else
      dv (quO y) (bif (quA x y).c.tmod (quO y) != 0 then some (resV (O, 6)) else dv (quO y) (bif (quA x y).d.tmod (quO y) != 0 then some (resV (O, 6)) else
      dv (quO y) (dv (quO y) (dv (quO y) (dv (quO y) (bif qfit (quW x y) then some (resV (quoN (quW x y))) else none)))))))) else none) else none) else none := by kernel_rfl
def remB (x y : N) : Bool := (quA x y).a.tmod (quO y) != 0 || ((quA x y).b.tmod (quO y) != 0 || ((quA x y).c.tmod (quO y) != 0 || (quA x y).d.tmod (quO y) != 0))
def quoS (x y : N) : N × Int := bif remB x y then (O, 6) else quoN (quN x y)
/-- Numbers that may be divided by each other. -/
noncomputable def quB (x y : N) : Bool := @decide (x.In 4096 ∧ y.In 4096 ∧ y.zero = false ∧ 0 ≤ x.k ∧ x.k ≤ 60 ∧ 0 ≤ y.k ∧ y.k ≤ 60) (Classical.propDecidable _)
theorem quB_iff {x y : N} : quB x y = true ↔ x.In 4096 ∧ y.In 4096 ∧ y.zero = false ∧ 0 ≤ x.k ∧ x.k ≤ 60 ∧ 0 ≤ y.k ∧ y.k ≤ 60 := by unfold quB; simp
theorem quO_pos {y : N} (h : y.In 4096) (hz : y.zero = false) : 0 < quO y ∧ quO y ≤ 18014398509481984 ∧ 0 ≤ quT y ∧ quT y ≤ 64 ∧ oB (N.z y).bel = true := by
  have h1 : 0 < (N.z y).bel := N.bel_pos (y := N.z y) hz
  have h2 : (N.z y).bel ≤ 18014398509481984 := N.bel_le (In_z h)
  obtain ⟨b1, b2⟩ := bitLen_le h1 h2
  obtain ⟨g1, g2, g3⟩ := oddL_pos _ _ h1 b2
  refine ⟨g1, ?_, ?_, ?_, oB_iff.2 ⟨h1, h2⟩⟩
  · show (oddS (N.z y).bel).1 ≤ _; unfold oddS; omega
  · show 0 ≤ (((oddS (N.z y).bel).2 : Nat) : Int); omega
  · show (((oddS (N.z y).bel).2 : Nat) : Int) ≤ 64; unfold oddS; omega
theorem quA_in {x y : N} (hx : x.In 4096) (hy : y.In 4096) : (quA x y).In 18014398509481984 := mul_in_of (In_z hx) (oth_in (In_z hy))
theorem tdiv_in {a o A : Int} (h1 : -A ≤ a) (h2 : a ≤ A) : -A ≤ a.tdiv o ∧ a.tdiv o ≤ A := by
  have := Int.natAbs_tdiv_le_natAbs a o
  omega
theorem quN_in {x y : N} (hx : x.In 4096) (hy : y.In 4096) : (quN x y).In 18014398509481984 := by
  obtain ⟨a1, a2, b1, b2, c1, c2, d1, d2⟩ := quA_in hx hy
  exact ⟨(tdiv_in a1 a2).1, (tdiv_in a1 a2).2, (tdiv_in b1 b2).1, (tdiv_in b1 b2).2, (tdiv_in c1 c2).1, (tdiv_in c1 c2).2, (tdiv_in d1 d2).1, (tdiv_in d1 d2).2⟩
theorem quW_eq {x y : N} (h : quB x y = true) : quW x y = quN x y := by
  obtain ⟨hx, hy, hz, k1, k2, k3, k4⟩ := quB_iff.1 h
  obtain ⟨o1, o2, t1, t2, -⟩ := quO_pos hy hz
  obtain ⟨a1, a2, b1, b2, c1, c2, d1, d2⟩ := quN_in hx hy
  simp only [quN] at a1 a2 b1 b2 c1 c2 d1 d2
  ext
  · exact w_eq _ (by omega) (by omega)
  · exact w_eq _ (by omega) (by omega)
  · exact w_eq _ (by omega) (by omega)
  · exact w_eq _ (by omega) (by omega)
  · show w (w (x.k - y.k) + w (2 * quT y)) = x.k - y.k + 2 * quT y
    rw [w_eq (x.k - y.k) (by omega) (by omega), w_eq (2 * quT y) (by omega) (by omega), w_eq _ (by omega) (by omega)]
theorem quN_fit {x y : N} (h : quB x y = true) : qfit (quN x y) = true := by
  obtain ⟨hx, hy, hz, k1, k2, k3, k4⟩ := quB_iff.1 h
  obtain ⟨o1, o2, t1, t2, -⟩ := quO_pos hy hz
  refine qfit_iff.2 ⟨N.Fit.of_in ((quN_in hx hy).mono (by omega)), ?_, ?_⟩
  · show _ ≤ x.k - y.k + 2 * quT y; omega
  · show x.k - y.k + 2 * quT y ≤ _; omega
theorem z_oth (y : N) : N.z (N.z y).oth = (N.z y).oth := by
  ext
  · rfl
  · rfl
  · rfl
  · rfl
  · show (0 : Int) = 0 + (0 + 0); omega
theorem eQuo (M : Int) (x y : N) (h : quB x y = true) : EvF Tryd.prog (orcL LQ) (Sg1 M) 57 [N.v x, N.v y] (resV (quoS x y)) := by
  refine EvF.of_eq 60 fun m => ?_
  have h' := quB_iff.1 h
  obtain ⟨hx, hy, hz, k1, k2, k3, k4⟩ := h'
  obtain ⟨o1, o2, t1, t2, ob⟩ := quO_pos hy hz
  have hd : ∀ {α : Type} (t : Option α), dv (quO y) t = t := fun t => by
    unfold dv; rw [show (quO y != 0) = true from bne_iff_ne.2 (by omega)]; rfl
  rw [tQuo, smB_iff.2 (In_z hy), z_oth, tmB_iff.2 ⟨In_z hx, oth_in (In_z hy)⟩, ob, quW_eq h, quN_fit h]
  simp only [hd, cond_true, quoS, remB]
  cases (quA x y).a.tmod (quO y) != 0 <;> cases (quA x y).b.tmod (quO y) != 0 <;> cases (quA x y).c.tmod (quO y) != 0 <;> cases (quA x y).d.tmod (quO y) != 0 <;> rfl
noncomputable def cQuo : Con := con2 57 fun x y => .ite (quB x y) (.val (resV (quoS x y))) .no
theorem cQuo_ok (M : Int) : ConOk M cQuo := con2_ok (LQ_ok M) fun x y v h => by
  obtain ⟨h0, rfl⟩ := OT.pre h
  exact eQuo M x y h0

def wi (x : N) : Bool := withinB x.a x.b x.c x.d 4096
theorem wi_iff (x : N) : wi x = true ↔ x.In 4096 := by
  unfold wi; rw [within_iff _ _ _ _ _ (by omega) (by omega)]
  exact ⟨fun ⟨h1, h2, h3, h4, h5, h6, h7, h8⟩ => ⟨h1, h2, h3, h4, h5, h6, h7, h8⟩, fun h => ⟨h.a1, h.a2, h.b1, h.b2, h.c1, h.c2, h.d1, h.d2⟩⟩
noncomputable abbrev LV : List Con := [cChk, con1 15 fun x => okV x (resV (x.nf, 0)), cQuo]
theorem LV_ok (M : Int) : ∀ c ∈ LV, ConOk M c := mem_cons_ok (cChk_ok M) (mem_cons_ok (leaOk_ok M) (mem_cons_ok (cQuo_ok M) nil_ok))
theorem tDiv (M : Int) (m : Nat) (x y : N) : runK Tryd.prog (orcL LV) (Sg1 M) (m + 60) 21 [N.v x, N.v y] =
    bif3 x (bif3 y (bif okB x then (bif okB y then (bif !(wi x.nf) then some (resV (O, 8)) else (bif !(wi y.nf) then some (resV (O, 8)) else (bif eqN y.nf O then some (resV (O, 6)) else (bif quB x.nf y.nf then some (resV (quoS x.nf y.nf)) else none)))) else none) else none)
      fun n => some (resV (O, n))) fun n => some (resV (O, n)) := by kernel_rfl
def divS (x y : N) : N × Int := bif wi x.nf then (bif wi y.nf then (bif y.zero then (O, 6) else quoS x.nf y.nf) else (O, 8)) else (O, 8)
def divT (x y : N) : OT := okT x (okT y (.val (resV (divS x y))) badN) badN
theorem nf_zero (x : N) : eqN x.nf O = x.zero := by
  rw [Bool.eq_iff_iff, eqN_iff]
  constructor
  · intro h
    cases hz : x.zero with
    | true => rfl
    | false =>
      exfalso
      have e : x.nf = x.nfL x.k.toNat := by unfold N.nf; rw [hz]; rfl
      have key : ∀ (n : Nat) (x : N), x.zero = false → (x.nfL n).zero = false := by
        intro n
        induction n with
        | zero => intro x h; exact h
        | succ n ih =>
          intro x h
          simp only [N.nfL]
          cases hg : x.goes with
          | false => exact h
          | true =>
            simp only [cond_true]
            exact ih x.dn (by rw [N.zero_dn ((N.goes_iff x).1 hg).2]; exact h)
      have h2 := key x.k.toNat x hz
      rw [← e, h] at h2
      cases h2
  · intro h; rw [N.nf_of_zero h]
theorem nf_zero' (x : N) : x.nf.zero = x.zero := by
  cases hz : x.zero with
  | true => rw [N.nf_of_zero hz]; rfl
  | false =>
    cases h : x.nf.zero with
    | false => rfl
    | true =>
      exfalso
      have e : x.nf = x.nfL x.k.toNat := by unfold N.nf; rw [hz]; rfl
      have key : ∀ (n : Nat) (x : N), x.zero = false → (x.nfL n).zero = false := by
        intro n
        induction n with
        | zero => intro x h; exact h
        | succ n ih =>
          intro x h
          simp only [N.nfL]
          cases hg : x.goes with
          | false => exact h
          | true =>
            simp only [cond_true]
            exact ih x.dn (by rw [N.zero_dn ((N.goes_iff x).1 hg).2]; exact h)
      have h2 := key x.k.toNat x hz
      rw [← e, h] at h2
      cases h2
theorem quB_nf {x y : N} (hx : okB x = true) (hy : okB y = true) (h1 : wi x.nf = true) (h2 : wi y.nf = true) (h3 : y.zero = false) : quB x.nf y.nf = true := by
  obtain ⟨k1, k2, -⟩ := (okB_iff _).1 (okB_nf hx)
  obtain ⟨k3, k4, -⟩ := (okB_iff _).1 (okB_nf hy)
  exact quB_iff.2 ⟨(wi_iff _).1 h1, (wi_iff _).1 h2, by rw [nf_zero', h3], k1, k2, k3, k4⟩
theorem cDiv_ok (M : Int) : ConOk M (con2 21 divT) := con2_ok (LV_ok M) fun x y v h => by
  refine EvF.of_eq 60 fun m => get_some h ?_
  rw [tDiv]
  unfold divT
  rw [okT_get]
  refine bif3_ext (fun hx => ?_) fun n => rfl
  rw [okT_get]
  refine bif3_ext (fun hy => ?_) fun n => rfl
  rw [hx, hy, nf_zero]
  unfold divS
  simp only [cond_true, OT.get]
  cases h1 : wi x.nf with
  | false => rfl
  | true =>
    cases h2 : wi y.nf with
    | false => rfl
    | true =>
      cases h3 : y.zero with
      | true => rfl
      | false => rw [quB_nf hx hy h1 h2 h3]; rfl
end Go.Proofs.YtihccnfaibiiiaaDoor.R
