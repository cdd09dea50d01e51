/- Ring: what RingField asks, as plain mathematics. -/
import Derived.Test.YtihccnfaibiiiaaDoorF2
import Derived.Test.YtihccnfaibiiiaaDoorL1
namespace Go.Proofs.YtihccnfaibiiiaaDoor.R
open Go Go.Proofs.XX.Vm Go.Proofs.XX.Rm Go.RowKit
set_option maxRecDepth 100000

theorem okB_Sz {x : N} {A K : Int} (h : x.Sz A K) (h1 : A ≤ 1073741824) (h2 : K ≤ 60) : okB x = true :=
  (okB_iff x).2 ⟨h.2.1, by have := h.2.2; omega, h.1.mono h1⟩
theorem rgB_of {x : N} (h : okB x = true) : rgB x = true ∧ inB x = true := by simpa [okB] using h
theorem twoS_of {x y z : N} (hx : okB x = true) (hy : okB y = true) (hz : okB z.nf = true) : twoS x y z = (z.nf, 0) := by
  unfold twoS bif3
  rw [(rgB_of hx).1, (rgB_of hx).2, (rgB_of hy).1, (rgB_of hy).2, fitS_of hz]
  rfl
theorem oneS_of {x z : N} (hx : okB x = true) : oneS x z = (z.nf, 0) := by
  unfold oneS bif3
  rw [(rgB_of hx).1, (rgB_of hx).2]
  rfl
theorem leaS_of {x : N} (hx : okB x = true) : leaS x = (x.nf, 0) := by
  unfold leaS bif3
  rw [(rgB_of hx).1, (rgB_of hx).2]
  rfl
theorem chkS_of {x : N} (hx : okB x = true) : chkS x = 0 := by
  unfold chkS bif3
  rw [(rgB_of hx).1, (rgB_of hx).2]
  rfl
theorem eqN_self (x : N) : eqN x x = true := (eqN_iff x x).2 rfl
theorem field (x y z : N) (hx : x.Sz 60 8) (hy : y.Sz 60 8) (hz : z.Sz 9 3) :
    twoS x y (x.sum y) = ((x.sum y).nf, 0) ∧ twoS y x (y.sum x) = ((x.sum y).nf, 0) ∧ twoS x y (x.mul y) = ((x.mul y).nf, 0) ∧ twoS y x (y.mul x) = ((x.mul y).nf, 0) ∧
    twoS (x.sum y).nf z ((x.sum y).nf.sum z) = (((x.sum y).sum z).nf, 0) ∧ twoS y z (y.sum z) = ((y.sum z).nf, 0) ∧ twoS x (y.sum z).nf (x.sum (y.sum z).nf) = (((x.sum y).sum z).nf, 0) ∧
    twoS (x.mul y).nf z ((x.mul y).nf.mul z) = (((x.mul y).mul z).nf, 0) ∧ twoS y z (y.mul z) = ((y.mul z).nf, 0) ∧ twoS x (y.mul z).nf (x.mul (y.mul z).nf) = (((x.mul y).mul z).nf, 0) ∧
    twoS (x.sum y).nf z ((x.sum y).nf.mul z) = (((x.sum y).mul z).nf, 0) ∧ twoS x z (x.mul z) = ((x.mul z).nf, 0) ∧ twoS (x.mul z).nf (y.mul z).nf ((x.mul z).nf.sum (y.mul z).nf) = (((x.sum y).mul z).nf, 0) ∧
    sum2S (x.mul z).nf (y.mul z).nf = (((x.sum y).mul z).nf, 0) ∧ twoS (x.sum y).nf y ((x.sum y).nf.sum y.neg) = (x.nf, 0) ∧ leaS x = (x.nf, 0) := by
  have kx := hx.2.1; have ky := hy.2.1; have kz := hz.2.1
  have sxy : (x.sum y).Sz 1920 8 := (N.Sz.sum 4 hx hy (by omega)).mono (by omega) (by omega)
  have mxy : (x.mul y).Sz 14400 16 := (hx.mul hy).mono (by omega) (by omega)
  have hz8 : z.Sz 9 8 := hz.mono (by omega) (by omega)
  have s3 : ((x.sum y).sum z).Sz 30864 8 := (N.Sz.sum 4 sxy hz8 (by omega)).mono (by omega) (by omega)
  have syz : (y.sum z).Sz 1104 8 := (N.Sz.sum 4 hy hz8 (by omega)).mono (by omega) (by omega)
  have m3 : ((x.mul y).mul z).Sz 518400 19 := (mxy.mul hz).mono (by omega) (by omega)
  have myz : (y.mul z).Sz 2160 11 := (hy.mul hz).mono (by omega) (by omega)
  have mxz : (x.mul z).Sz 2160 11 := (hx.mul hz).mono (by omega) (by omega)
  have sm : ((x.sum y).mul z).Sz 69120 11 := (sxy.mul hz).mono (by omega) (by omega)
  have ok : ∀ {u : N} {A K : Int}, u.Sz A K → A ≤ 1073741824 → K ≤ 60 → okB u = true := fun h a b => okB_Sz h a b
  have k1 : 0 ≤ (x.sum y).k := sxy.2.1
  have k2 : 0 ≤ (x.mul y).k := mxy.2.1
  have k3 : 0 ≤ (y.sum z).k := syz.2.1
  have k4 : 0 ≤ (y.mul z).k := myz.2.1
  have k5 : 0 ≤ (x.mul z).k := mxz.2.1
  have e1 : ((x.sum y).nf.sum z).nf = ((x.sum y).sum z).nf := N.nf_sum_left k1 kz
  have e2 : (x.sum (y.sum z).nf).nf = ((x.sum y).sum z).nf := by rw [N.nf_sum_right kx k3, N.sum_assoc]
  have e3 : ((x.mul y).nf.mul z).nf = ((x.mul y).mul z).nf := N.nf_mul_left k2 kz
  have e4 : (x.mul (y.mul z).nf).nf = ((x.mul y).mul z).nf := by rw [N.nf_mul_right kx k4, N.mul_assoc]
  have e5 : ((x.sum y).nf.mul z).nf = ((x.sum y).mul z).nf := N.nf_mul_left k1 kz
  have e6 : ((x.mul z).nf.sum (y.mul z).nf).nf = ((x.sum y).mul z).nf := by rw [N.nf_sum_left k5 (N.nf_k k4).1, N.nf_sum_right k5 k4, N.sum_mul]
  have e7 : ((x.sum y).nf.sum y.neg).nf = x.nf := by
    rw [N.nf_sum_left k1 (show 0 ≤ y.neg.k from ky), N.sum_assoc, N.sum_zero kx (N.sum_neg_zero y)]
  refine ⟨twoS_of (ok hx (by omega) (by omega)) (ok hy (by omega) (by omega)) (ok sxy.nf (by omega) (by omega)), ?_, twoS_of (ok hx (by omega) (by omega)) (ok hy (by omega) (by omega)) (ok mxy.nf (by omega) (by omega)), ?_, ?_, twoS_of (ok hy (by omega) (by omega)) (ok hz (by omega) (by omega)) (ok syz.nf (by omega) (by omega)), ?_, ?_, twoS_of (ok hy (by omega) (by omega)) (ok hz (by omega) (by omega)) (ok myz.nf (by omega) (by omega)), ?_, ?_, twoS_of (ok hx (by omega) (by omega)) (ok hz (by omega) (by omega)) (ok mxz.nf (by omega) (by omega)), ?_, ?_, ?_, leaS_of (ok hx (by omega) (by omega))⟩
  · rw [N.sum_comm y x]; exact twoS_of (ok hy (by omega) (by omega)) (ok hx (by omega) (by omega)) (ok sxy.nf (by omega) (by omega))
  · rw [N.mul_comm y x]; exact twoS_of (ok hy (by omega) (by omega)) (ok hx (by omega) (by omega)) (ok mxy.nf (by omega) (by omega))
  · rw [twoS_of (ok sxy.nf (by omega) (by omega)) (ok hz (by omega) (by omega)) (by rw [e1]; exact ok s3.nf (by omega) (by omega)), e1]
  · rw [twoS_of (ok hx (by omega) (by omega)) (ok syz.nf (by omega) (by omega)) (by rw [e2]; exact ok s3.nf (by omega) (by omega)), e2]
  · rw [twoS_of (ok mxy.nf (by omega) (by omega)) (ok hz (by omega) (by omega)) (by rw [e3]; exact ok m3.nf (by omega) (by omega)), e3]
  · rw [twoS_of (ok hx (by omega) (by omega)) (ok myz.nf (by omega) (by omega)) (by rw [e4]; exact ok m3.nf (by omega) (by omega)), e4]
  · rw [twoS_of (ok sxy.nf (by omega) (by omega)) (ok hz (by omega) (by omega)) (by rw [e5]; exact ok sm.nf (by omega) (by omega)), e5]
  · rw [twoS_of (ok mxz.nf (by omega) (by omega)) (ok myz.nf (by omega) (by omega)) (by rw [e6]; exact ok sm.nf (by omega) (by omega)), e6]
  · have c1 := chkS_of (ok mxz.nf (by omega) (by omega))
    have c2 := chkS_of (ok myz.nf (by omega) (by omega))
    have hO : okB O = true := by decide
    have r1 : twoS O (x.mul z).nf (O.sum (x.mul z).nf) = ((x.mul z).nf, 0) := by
      rw [O_sum (N.nf_k k5).1]
      have := twoS_of hO (ok mxz.nf (by omega) (by omega)) (z := (x.mul z).nf) (by rw [N.nf_nf]; exact ok mxz.nf (by omega) (by omega))
      rwa [N.nf_nf] at this
    have r2 : twoS (x.mul z).nf (y.mul z).nf ((x.mul z).nf.sum (y.mul z).nf) = (((x.sum y).mul z).nf, 0) := by
      rw [twoS_of (ok mxz.nf (by omega) (by omega)) (ok myz.nf (by omega) (by omega)) (by rw [e6]; exact ok sm.nf (by omega) (by omega)), e6]
    unfold sum2S chk2
    rw [c1, c2, r1]
    simp only [r2]
    rfl
  · rw [twoS_of (ok sxy.nf (by omega) (by omega)) (ok hy (by omega) (by omega)) (by rw [e7]; exact ok hx.nf (by omega) (by omega)), e7]
end Go.Proofs.YtihccnfaibiiiaaDoor.R
