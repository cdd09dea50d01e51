/- Ring: the specification's Divide, put together (made by mkdiv4.py). -/
import Derived.Test.YtonjnnjnojmpjaaDoorF9
namespace Go.Proofs.YtonjnnjnojmpjaaDoor.R
open Go Go.Proofs.XX.Vm Go.Proofs.XX.Rm Go.RowKit
set_option maxRecDepth 100000

theorem tmpsV (x y : N) : tmps0Of Tryd.prog 20 [N.v x, N.v y] = N.v x :: N.v y :: List.replicate 155 undef := by kernel_rfl
theorem outV (z : N) (e : Int) (a0 a1 a2 a3 : Value) (L : List Value) (b0 b1 b2 b3 b4 : Blk) (R : List Blk) : outOf Tryd.prog 20 (a0 :: a1 :: a2 :: a3 :: p3 :: .int .i64 e :: L) (b0 :: b1 :: b2 :: b3 :: b4 :: rb z :: R) = some (resV (z, e)) := by kernel_rfl
theorem bif3_badD {x : N} (h : okB x = false) : ∃ e : Int, ∀ {α : Type} (a : α) (f : Int → α), bif3 x a f = f e := by
  unfold okB at h
  cases hr : rgB x
  · exact ⟨3, fun a f => by unfold bif3; rw [hr]; rfl⟩
  · cases hi : inB x
    · exact ⟨8, fun a f => by unfold bif3; rw [hr, hi]; rfl⟩
    · rw [hr, hi] at h; cases h
theorem dvT {α : Type} {o : Int} (h : o ≠ 0) {t : Option α} : dv o t = t := by
  unfold dv; rw [show (o != 0) = true from bne_iff_ne.2 h]; rfl
theorem hNR_eq {y : N} (h : y.nf.In 4096) : hNR y = (N.z y.nf).nrm := by
  have hz := In_z h
  unfold hNR
  rw [prR_eq, conjW_in hz (by omega)]
  exact mulW_eq' ((hz.mul hz.conj).mono (by omega)) (by show _ ≤ (0 : Int) + 0; omega) (by show (0 : Int) + 0 ≤ _; omega)
theorem nrm_in {y : N} (h : y.In 4096) : y.nrm.In 67108864 := (h.mul h.conj).mono (by omega)
theorem hOT_eq {y : N} (h : y.nf.In 4096) : hOT y = (N.z y.nf).nrm.alt := by
  have e := altW_in (nrm_in (In_z h)) (by omega)
  unfold hOT
  rw [hNR_eq h, ← e]
  have hc : (N.z y.nf).nrm.c = 0 := by simp only [N.nrm, N.mul, N.conj]; grind
  ext
  · rfl
  · rfl
  · exact hc.symm
  · rfl
  · show (0 : Int) = 0 + 0; omega
theorem hBL_eq {y : N} (h : y.nf.In 4096) : hBL y = (N.z y.nf).bel := by
  have h1 := nrm_in (In_z h)
  unfold hBL
  rw [hNR_eq h, hOT_eq h, prR_eq, mulW_eq' ((h1.mul h1.alt).mono (by omega)) (by show _ ≤ (0 : Int) + 0 + (0 + 0); omega) (by show (0 : Int) + 0 + (0 + 0) ≤ _; omega)]
  rfl
theorem hAB_eq {x y : N} (hx : x.nf.In 4096) (hy : y.nf.In 4096) : hAB x y = quA x.nf y.nf := by
  have h1 := nrm_in (In_z hy)
  have h2 := In_z hx
  have h3 := In_z hy
  unfold hAB
  rw [hOT_eq hy, prR_eq, prR_eq, conjW_in h3 (by omega)]
  rw [mulW_eq' (x := N.z x.nf) ((h2.mul h3.conj).mono (by omega)) (by show _ ≤ (0 : Int) + 0; omega) (by show (0 : Int) + 0 ≤ _; omega)]
  rw [mulW_eq' (((((h2.mul h3.conj).mono (show _ ≤ 67108864 by omega)).mul h1.alt).mono (by omega))) (by show _ ≤ (0 : Int) + 0 + (0 + 0); omega) (by show (0 : Int) + 0 + (0 + 0) ≤ _; omega)]
  exact N.mul_assoc _ _ _
theorem eV (M : Int) (x y : N) (v : Value) (hv : (divT x y).get = some v) : EvF Tryd.prog (orcL LDV) (Sg1 M) 20 [N.v x, N.v y] v := by
  unfold divT at hv
  simp only [okT_get] at hv
  have start : ∀ (w : Value), plain w = true → EvP Tryd.prog (orcL LDV) (Sg1 M) Value 3 0 [qV 0, qV 1, qV 2, qV 3, qV 4, qV 5, qV 6, qV 7, qV 8, qV 9, qV 10, qV 11, qV 12, qV 13, qV 14, .block 0 (.loop (BV 0)), qV 16, qV 17, qV 18, qV 19, qV 20, .block 2 (.loop (BV 1)), qV 22, qV 23, qV 24, qV 25, qV 26] (N.v x :: N.v y :: List.replicate 155 undef) (Sg1 M) (fun e T S => (match e with | .exit _ => False | _ => True) ∧ outOf Tryd.prog 20 T S = some w) → EvF Tryd.prog (orcL LDV) (Sg1 M) 20 [N.v x, N.v y] w := by
    intro w hp h
    refine EvF.of_body hp ?_
    rw [tmpsV]
    show Ev Tryd.prog (orcL LDV) (Sg1 M) Value 3 _ _ _ _
    refine Ev.of_pieces ?_
    rw [show flatC (bodyOf Tryd.prog 20) = _ from LV_eq]
    exact h
  cases hx : okB x with
  | false =>
    obtain ⟨e, he⟩ := bif3_badD hx
    rw [he] at hv
    cases hv
    exact start _ rfl (EvP.stop (fun fs k => (headV M fs x y _ k).trans (he _ _)) ⟨trivial, outV O e _ _ _ _ _ _ _ _ _ _ _⟩)
  | true =>
    rw [bif3_ok hx] at hv
    cases hy : okB y with
    | false =>
      obtain ⟨e, he⟩ := bif3_badD hy
      rw [he] at hv
      cases hv
      exact start _ rfl (EvP.stop (fun fs k => (headV M fs x y _ k).trans ((bif3_ok hx).trans (he _ _))) ⟨trivial, outV O e _ _ _ _ _ _ _ _ _ _ _⟩)
    | true =>
      rw [bif3_ok hy] at hv
      cases hv
      have b1 : bydB x.nf 4096 = !(wi x.nf) := bydB_eq x.nf 4096 (by omega) (by omega)
      have b2 : bydB y.nf 4096 = !(wi y.nf) := bydB_eq y.nf 4096 (by omega) (by omega)
      unfold divS
      cases h1 : wi x.nf with
      | false => exact start _ rfl (EvP.stop (fun fs k => (headV M fs x y _ k).trans ((bif3_ok hx).trans ((bif3_ok hy).trans ((condT (symN_of hx)).trans ((condT (symN_of hy)).trans (condT (by rw [b1, h1]; rfl))))))) ⟨trivial, outV O 8 _ _ _ _ _ _ _ _ _ _ _⟩)
      | true =>
        cases h2 : wi y.nf with
        | false => exact start _ rfl (EvP.stop (fun fs k => (headV M fs x y _ k).trans ((bif3_ok hx).trans ((bif3_ok hy).trans ((condT (symN_of hx)).trans ((condT (symN_of hy)).trans ((condF (by rw [b1, h1]; rfl)).trans (condT (by rw [b2, h2]; rfl)))))))) ⟨trivial, outV O 8 _ _ _ _ _ _ _ _ _ _ _⟩)
        | true =>
          cases hz : y.zero with
          | true => exact start _ rfl (EvP.stop (fun fs k => (headV M fs x y _ k).trans ((bif3_ok hx).trans ((bif3_ok hy).trans ((condT (symN_of hx)).trans ((condT (symN_of hy)).trans ((condF (by rw [b1, h1]; rfl)).trans ((condF (by rw [b2, h2]; rfl)).trans (condT (by rw [nf_zero', hz])))))))))  ⟨trivial, outV O 6 _ _ _ _ _ _ _ _ _ _ _⟩)
          | false =>
            have i1 := (wi_iff _).1 h1
            have i2 := (wi_iff _).1 h2
            have hq := quB_nf hx hy h1 h2 hz
            obtain ⟨-, -, hz', k1, k2, k3, k4⟩ := quB_iff.1 hq
            obtain ⟨o1, o2, t1, t2, ob⟩ := quO_pos i2 hz'
            have eB := hBL_eq i2
            have eA := hAB_eq i1 i2
            obtain ⟨ob1, ob2⟩ := oB_iff.1 ob
            have ek : w (x.nf.k - y.nf.k) = x.nf.k - y.nf.k := w_eq _ (by omega) (by omega)
            refine start _ rfl (EvP.run (fun fs k => (headV M fs x y _ k).trans ((bif3_ok hx).trans ((bif3_ok hy).trans ((condT (symN_of hx)).trans ((condT (symN_of hy)).trans ((condF (by rw [b1, h1]; rfl)).trans ((condF (by rw [b2, h2]; rfl)).trans (condF (by rw [nf_zero', hz])))))))))  ?_)
            refine EvP.step (Ev.block ((loop1V M (hBL y) (w (x.nf.k - y.nf.k)) (by rw [eB]; exact ob1) (by rw [eB]; exact ob2) (by rw [ek]; omega) (by rw [ek]; omega) (sHead M x y) _ _ _ _ _ _ _ _ _ _ _ _ _ _ _ _ _ _ _ _ _ _ _ _ _ _ _ _ _ _ _ _ _ _ _ _ _ _ _ _ _ _ _ _ _ _ _ _ _ _ _ _ _ _ _ _ _ _ _ _ _ _ _ _ _ _ _ _ _ _ _ _ _ _ _ _ _ _ _ _ _ _ _ _ _ _ _ _ _ _ _ _ _ _ _ _ _ _ _ _ _ _ _ _ _ _ _ _ _ _ _ _ _ _ _ _ _ _ _ _ _ _ _ _ _ _ _ _ _ _ _ _ _ _ _ _ _ _ _ _ _ _ _ _ _ _ _ _ _ _ _ _ _ _ _).mono ?_))
            rintro e T S ⟨rfl, ⟨c64, c65, c66, c67, c68, c69, c70, rfl⟩, rfl⟩
            have eW : (oddS (hBL y)).1 = quO y.nf := by rw [eB]; rfl
            have eT : (((oddS (hBL y)).2 : Nat) : Int) = quT y.nf := by rw [eB]; rfl
            have w0 : (oddS (hBL y)).1 ≠ 0 := by rw [eW]; omega
            simp only [cond_true, cond_false]
            unfold quoS remB
            rw [← eA, ← eW]
            cases r1 : (hAB x y).a.tmod (oddS (hBL y)).1 != 0 with
            | true => exact EvP.stop (fun fs k => (midV M fs (hAB x y) (oddS (hBL y)).1 _ _ _ _ _ _ _ _ _ _ _ _ _ _ _ _ _ _ _ _ _ _ _ _ _ _ _ _ _ _ _ _ _ _ _ _ _ _ _ _ _ _ _ _ _ _ _ _ _ _ _ _ _ _ _ _ _ _ _ _ _ _ _ _ _ _ _ _ _ _ _ _ _ _ _ _ _ _ _ _ _ _ _ _ _ _ _ _ _ _ _ _ _ _ _ _ _ _ _ _ _ _ _ _ _ _ _ _ _ _ _ _ _ _ _ _ _ _ _ _ _ _ _ _ _ _ _ _ _ _ _ _ _ _ _ _ _ _ _ _ _ _ _ _ _ _ _ _ _ _ _ _ _ _ _ _ _ _ _ _ k).trans ((dvT w0).trans (condT r1))) ⟨trivial, outV O 6 _ _ _ _ _ _ _ _ _ _ _⟩
            | false =>
              cases r2 : (hAB x y).b.tmod (oddS (hBL y)).1 != 0 with
              | true => exact EvP.stop (fun fs k => (midV M fs (hAB x y) (oddS (hBL y)).1 _ _ _ _ _ _ _ _ _ _ _ _ _ _ _ _ _ _ _ _ _ _ _ _ _ _ _ _ _ _ _ _ _ _ _ _ _ _ _ _ _ _ _ _ _ _ _ _ _ _ _ _ _ _ _ _ _ _ _ _ _ _ _ _ _ _ _ _ _ _ _ _ _ _ _ _ _ _ _ _ _ _ _ _ _ _ _ _ _ _ _ _ _ _ _ _ _ _ _ _ _ _ _ _ _ _ _ _ _ _ _ _ _ _ _ _ _ _ _ _ _ _ _ _ _ _ _ _ _ _ _ _ _ _ _ _ _ _ _ _ _ _ _ _ _ _ _ _ _ _ _ _ _ _ _ _ _ _ _ _ k).trans ((dvT w0).trans ((condF r1).trans ((dvT w0).trans (condT r2))))) ⟨trivial, outV O 6 _ _ _ _ _ _ _ _ _ _ _⟩
              | false =>
                cases r3 : (hAB x y).c.tmod (oddS (hBL y)).1 != 0 with
                | true => exact EvP.stop (fun fs k => (midV M fs (hAB x y) (oddS (hBL y)).1 _ _ _ _ _ _ _ _ _ _ _ _ _ _ _ _ _ _ _ _ _ _ _ _ _ _ _ _ _ _ _ _ _ _ _ _ _ _ _ _ _ _ _ _ _ _ _ _ _ _ _ _ _ _ _ _ _ _ _ _ _ _ _ _ _ _ _ _ _ _ _ _ _ _ _ _ _ _ _ _ _ _ _ _ _ _ _ _ _ _ _ _ _ _ _ _ _ _ _ _ _ _ _ _ _ _ _ _ _ _ _ _ _ _ _ _ _ _ _ _ _ _ _ _ _ _ _ _ _ _ _ _ _ _ _ _ _ _ _ _ _ _ _ _ _ _ _ _ _ _ _ _ _ _ _ _ _ _ _ _ k).trans ((dvT w0).trans ((condF r1).trans ((dvT w0).trans ((condF r2).trans ((dvT w0).trans (condT r3))))))) ⟨trivial, outV O 6 _ _ _ _ _ _ _ _ _ _ _⟩
                | false =>
                  cases r4 : (hAB x y).d.tmod (oddS (hBL y)).1 != 0 with
                  | true => exact EvP.stop (fun fs k => (midV M fs (hAB x y) (oddS (hBL y)).1 _ _ _ _ _ _ _ _ _ _ _ _ _ _ _ _ _ _ _ _ _ _ _ _ _ _ _ _ _ _ _ _ _ _ _ _ _ _ _ _ _ _ _ _ _ _ _ _ _ _ _ _ _ _ _ _ _ _ _ _ _ _ _ _ _ _ _ _ _ _ _ _ _ _ _ _ _ _ _ _ _ _ _ _ _ _ _ _ _ _ _ _ _ _ _ _ _ _ _ _ _ _ _ _ _ _ _ _ _ _ _ _ _ _ _ _ _ _ _ _ _ _ _ _ _ _ _ _ _ _ _ _ _ _ _ _ _ _ _ _ _ _ _ _ _ _ _ _ _ _ _ _ _ _ _ _ _ _ _ _ k).trans ((dvT w0).trans ((condF r1).trans ((dvT w0).trans ((condF r2).trans ((dvT w0).trans ((condF r3).trans ((dvT w0).trans (condT r4))))))))) ⟨trivial, outV O 6 _ _ _ _ _ _ _ _ _ _ _⟩
                  | false =>
                    have go : ∀ {α : Type} (fs : Nat → Nat) (K : Int) (B3 B4 B6 B7 B8 : Blk) (v0 v1 v2 v3 v5 v6 v8 v9 v12 v13 v14 v15 v16 v17 v18 v19 v20 v21 v22 v23 v24 v25 v26 v27 v28 v29 v30 v31 v32 v33 v34 v35 v36 v37 v38 v39 v40 v41 v42 v43 v44 v45 v46 v47 v48 v49 v50 v51 v52 v53 v54 v55 v56 v57 v58 v59 v60 v61 v62 v63 v64 v65 v66 v67 v68 v69 v70 v71 v72 v73 v74 v75 v76 v77 v78 v79 v80 v81 v82 v83 v84 v85 v86 v87 v88 v89 v90 v91 v92 v93 v94 v95 v96 v97 v98 v99 v100 v101 v102 v103 v104 v105 v106 v107 v108 v109 v110 v111 v112 v113 v114 v115 v116 v117 v118 v119 v120 v121 v122 v123 v124 v125 v126 v127 v128 v129 v130 v131 v132 v133 v134 v135 v136 v137 v138 v139 v140 v141 v142 v143 v144 v145 v146 v147 v148 v149 v150 v151 v152 v153 v154 v155 v156 : Value) (l : List Code) (k : Kont α), _ = _ := fun {α} fs K B3 B4 B6 B7 B8 v0 v1 v2 v3 v5 v6 v8 v9 v12 v13 v14 v15 v16 v17 v18 v19 v20 v21 v22 v23 v24 v25 v26 v27 v28 v29 v30 v31 v32 v33 v34 v35 v36 v37 v38 v39 v40 v41 v42 v43 v44 v45 v46 v47 v48 v49 v50 v51 v52 v53 v54 v55 v56 v57 v58 v59 v60 v61 v62 v63 v64 v65 v66 v67 v68 v69 v70 v71 v72 v73 v74 v75 v76 v77 v78 v79 v80 v81 v82 v83 v84 v85 v86 v87 v88 v89 v90 v91 v92 v93 v94 v95 v96 v97 v98 v99 v100 v101 v102 v103 v104 v105 v106 v107 v108 v109 v110 v111 v112 v113 v114 v115 v116 v117 v118 v119 v120 v121 v122 v123 v124 v125 v126 v127 v128 v129 v130 v131 v132 v133 v134 v135 v136 v137 v138 v139 v140 v141 v142 v143 v144 v145 v146 v147 v148 v149 v150 v151 v152 v153 v154 v155 v156 l k => (midV (α := α) M fs (hAB x y) (oddS (hBL y)).1 K B3 B4 B6 B7 B8 v0 v1 v2 v3 v5 v6 v8 v9 v12 v13 v14 v15 v16 v17 v18 v19 v20 v21 v22 v23 v24 v25 v26 v27 v28 v29 v30 v31 v32 v33 v34 v35 v36 v37 v38 v39 v40 v41 v42 v43 v44 v45 v46 v47 v48 v49 v50 v51 v52 v53 v54 v55 v56 v57 v58 v59 v60 v61 v62 v63 v64 v65 v66 v67 v68 v69 v70 v71 v72 v73 v74 v75 v76 v77 v78 v79 v80 v81 v82 v83 v84 v85 v86 v87 v88 v89 v90 v91 v92 v93 v94 v95 v96 v97 v98 v99 v100 v101 v102 v103 v104 v105 v106 v107 v108 v109 v110 v111 v112 v113 v114 v115 v116 v117 v118 v119 v120 v121 v122 v123 v124 v125 v126 v127 v128 v129 v130 v131 v132 v133 v134 v135 v136 v137 v138 v139 v140 v141 v142 v143 v144 v145 v146 v147 v148 v149 v150 v151 v152 v153 v154 v155 v156 l k).trans ((dvT w0).trans ((condF r1).trans ((dvT w0).trans ((condF r2).trans ((dvT w0).trans ((condF r3).trans ((dvT w0).trans ((condF r4).trans ((dvT w0).trans ((dvT w0).trans ((dvT w0).trans (dvT w0))))))))))))
                    have eK : w (x.nf.k - y.nf.k) + 2 * (((oddS (hBL y)).2 : Nat) : Int) = (quN x.nf y.nf).k := by rw [ek, eT]; rfl
                    have qi := quN_in i1 i2
                    have eN : kN (dvN (hAB x y) (oddS (hBL y)).1) (quN x.nf y.nf).k = quN x.nf y.nf := by
                      obtain ⟨a1, a2, b1, b2, c1, c2, d1, d2⟩ := qi
                      simp only [quN] at a1 a2 b1 b2 c1 c2 d1 d2
                      rw [eA, eW]
                      ext
                      · exact w_eq _ (by omega) (by omega)
                      · exact w_eq _ (by omega) (by omega)
                      · exact w_eq _ (by omega) (by omega)
                      · exact w_eq _ (by omega) (by omega)
                      · rfl
                    have eZ : (dvN (hAB x y) (oddS (hBL y)).1).zero = (quN x.nf y.nf).zero := by rw [← eN]; rfl
                    have di : (dvN (hAB x y) (oddS (hBL y)).1).In 18014398509481984 := by
                      rw [← eN] at qi; exact ⟨qi.a1, qi.a2, qi.b1, qi.b2, qi.c1, qi.c2, qi.d1, qi.d2⟩
                    have kb : -1000 ≤ (quN x.nf y.nf).k ∧ (quN x.nf y.nf).k ≤ 1000 := by
                      show -1000 ≤ x.nf.k - y.nf.k + 2 * quT y.nf ∧ x.nf.k - y.nf.k + 2 * quT y.nf ≤ 1000; omega
                    simp only [Bool.or_false, cond_false]
                    unfold quoN
                    cases z1 : (quN x.nf y.nf).zero with
                    | true =>
                      have eO : dvN (hAB x y) (oddS (hBL y)).1 = O := by
                        rw [z1] at eZ
                        simp only [N.zero, Bool.and_eq_true, beq_iff_eq] at eZ
                        obtain ⟨⟨⟨z1, z2⟩, z3⟩, z4⟩ := eZ
                        ext
                        · exact z1
                        · exact z2
                        · exact z3
                        · exact z4
                        · rfl
                      refine EvP.stop (fun fs k => (go fs _ _ _ _ _ _ _ _ _ _ _ _ _ _ _ _ _ _ _ _ _ _ _ _ _ _ _ _ _ _ _ _ _ _ _ _ _ _ _ _ _ _ _ _ _ _ _ _ _ _ _ _ _ _ _ _ _ _ _ _ _ _ _ _ _ _ _ _ _ _ _ _ _ _ _ _ _ _ _ _ _ _ _ _ _ _ _ _ _ _ _ _ _ _ _ _ _ _ _ _ _ _ _ _ _ _ _ _ _ _ _ _ _ _ _ _ _ _ _ _ _ _ _ _ _ _ _ _ _ _ _ _ _ _ _ _ _ _ _ _ _ _ _ _ _ _ _ _ _ _ _ _ _ _ _ _ _ _ _ _ k).trans (condT (by rw [eZ, z1]))) ⟨trivial, ?_⟩
                      rw [eO]
                      exact outV O 0 _ _ _ _ _ _ _ _ _ _ _
                    | false =>
                      refine EvP.run (fun fs k => (go fs _ _ _ _ _ _ _ _ _ _ _ _ _ _ _ _ _ _ _ _ _ _ _ _ _ _ _ _ _ _ _ _ _ _ _ _ _ _ _ _ _ _ _ _ _ _ _ _ _ _ _ _ _ _ _ _ _ _ _ _ _ _ _ _ _ _ _ _ _ _ _ _ _ _ _ _ _ _ _ _ _ _ _ _ _ _ _ _ _ _ _ _ _ _ _ _ _ _ _ _ _ _ _ _ _ _ _ _ _ _ _ _ _ _ _ _ _ _ _ _ _ _ _ _ _ _ _ _ _ _ _ _ _ _ _ _ _ _ _ _ _ _ _ _ _ _ _ _ _ _ _ _ _ _ _ _ _ _ _ _ k).trans (condF (by rw [eZ, z1]))) ?_
                      refine EvP.step (Ev.block ((loop2V M (dvN (hAB x y) (oddS (hBL y)).1) (w (x.nf.k - y.nf.k) + 2 * (((oddS (hBL y)).2 : Nat) : Int)) (di.mono (by omega)) (by rw [eK]; exact kb.1) (by rw [eK]; exact kb.2) _ _ _ _ _ _ _ _ _ _ _ _ _ _ _ _ _ _ _ _ _ _ _ _ _ _ _ _ _ _ _ _ _ _ _ _ _ _ _ _ _ _ _ _ _ _ _ _ _ _ _ _ _ _ _ _ _ _ _ _ _ _ _ _ _ _ _ _ _ _ _ _ _ _ _ _ _ _ _ _ _ _ _ _ _ _ _ _ _ _ _ _ _ _ _ _ _ _ _ _ _ _ _ _ _ _ _ _ _ _ _ _ _ _ _ _ _ _ _ _ _ _ _ _ _ _ _ _ _ _ _ _ _ _ _ _ _ _ _ _ _ _ _ _ _ _ _ _ _ _ _ _ _ _ _ _ _ _ _ (N.qf (quN x.nf y.nf)) (by rw [eK, eN])).mono ?_))
                      rintro e T S ⟨rfl, Z, c118, c119, c120, c121, c122, c123, c124, c125, c126, c127, c128, c129, c130, c131, c132, c133, c134, c135, c136, c137, c138, c139, c140, c141, c142, rfl, rfl, hZ⟩
                      generalize N.qf (quN x.nf y.nf) = q at hZ ⊢
                      have hi : inB Z = inB q := by rw [← hZ]; rfl
                      have hr : rgB q = (!(decide (q.k < 0)) && !(decide (q.k > 60))) := rfl
                      unfold okB
                      rw [hr, ← hi]
                      cases n1 : decide (q.k < 0) with
                      | true => exact EvP.stop (fun fs k => (tailV M fs Z q.k _ _ _ _ _ _ _ _ _ _ _ _ _ _ _ _ _ _ _ _ _ _ _ _ _ _ _ _ _ _ _ _ _ _ _ _ _ _ _ _ _ _ _ _ _ _ _ _ _ _ _ _ _ _ _ _ _ _ _ _ _ _ _ _ _ _ _ _ _ _ _ _ _ _ _ _ _ _ _ _ _ _ _ _ _ _ _ _ _ _ _ _ _ _ _ _ _ _ _ _ _ _ _ _ _ _ _ _ _ _ _ _ _ _ _ _ _ _ _ _ _ _ _ _ _ _ _ _ _ _ _ _ _ _ _ _ _ _ _ _ _ _ _ _ _ _ _ _ _ _ _ _ _ _ _ _ _ _ _ k).trans (condT n1)) ⟨trivial, outV O 8 _ _ _ _ _ _ _ _ _ _ _⟩
                      | false =>
                        cases n2 : inB Z with
                        | false =>
                          rw [Bool.and_false]
                          exact EvP.stop (fun fs k => (tailV M fs Z q.k _ _ _ _ _ _ _ _ _ _ _ _ _ _ _ _ _ _ _ _ _ _ _ _ _ _ _ _ _ _ _ _ _ _ _ _ _ _ _ _ _ _ _ _ _ _ _ _ _ _ _ _ _ _ _ _ _ _ _ _ _ _ _ _ _ _ _ _ _ _ _ _ _ _ _ _ _ _ _ _ _ _ _ _ _ _ _ _ _ _ _ _ _ _ _ _ _ _ _ _ _ _ _ _ _ _ _ _ _ _ _ _ _ _ _ _ _ _ _ _ _ _ _ _ _ _ _ _ _ _ _ _ _ _ _ _ _ _ _ _ _ _ _ _ _ _ _ _ _ _ _ _ _ _ _ _ _ _ _ k).trans ((condF n1).trans (condT (by rw [byd_in, n2]; rfl)))) ⟨trivial, outV O 8 _ _ _ _ _ _ _ _ _ _ _⟩
                        | true =>
                          cases n3 : decide (q.k > 60) with
                          | true => exact EvP.stop (fun fs k => (tailV M fs Z q.k _ _ _ _ _ _ _ _ _ _ _ _ _ _ _ _ _ _ _ _ _ _ _ _ _ _ _ _ _ _ _ _ _ _ _ _ _ _ _ _ _ _ _ _ _ _ _ _ _ _ _ _ _ _ _ _ _ _ _ _ _ _ _ _ _ _ _ _ _ _ _ _ _ _ _ _ _ _ _ _ _ _ _ _ _ _ _ _ _ _ _ _ _ _ _ _ _ _ _ _ _ _ _ _ _ _ _ _ _ _ _ _ _ _ _ _ _ _ _ _ _ _ _ _ _ _ _ _ _ _ _ _ _ _ _ _ _ _ _ _ _ _ _ _ _ _ _ _ _ _ _ _ _ _ _ _ _ _ _ k).trans ((condF n1).trans ((condF (by rw [byd_in, n2]; rfl)).trans (condT n3)))) ⟨trivial, outV O 8 _ _ _ _ _ _ _ _ _ _ _⟩
                          | false =>
                            refine EvP.stop (fun fs k => (tailV M fs Z q.k _ _ _ _ _ _ _ _ _ _ _ _ _ _ _ _ _ _ _ _ _ _ _ _ _ _ _ _ _ _ _ _ _ _ _ _ _ _ _ _ _ _ _ _ _ _ _ _ _ _ _ _ _ _ _ _ _ _ _ _ _ _ _ _ _ _ _ _ _ _ _ _ _ _ _ _ _ _ _ _ _ _ _ _ _ _ _ _ _ _ _ _ _ _ _ _ _ _ _ _ _ _ _ _ _ _ _ _ _ _ _ _ _ _ _ _ _ _ _ _ _ _ _ _ _ _ _ _ _ _ _ _ _ _ _ _ _ _ _ _ _ _ _ _ _ _ _ _ _ _ _ _ _ _ _ _ _ _ _ k).trans ((condF n1).trans ((condF (by rw [byd_in, n2]; rfl)).trans (condF n3)))) ⟨trivial, ?_⟩
                            rw [hZ]
                            exact outV q 0 _ _ _ _ _ _ _ _ _ _ _
theorem cDivR_ok (M : Int) : ConOk M (con2 20 divT) := con2_ok (LDV_ok M) fun x y v h => eV M x y v h

def divR (x y : N) : N × Int := bif3 x (bif3 y (divS x y) fun n => (O, n)) fun n => (O, n)
theorem divR_get (x y : N) : (divT x y).get = some (resV (divR x y)) := by
  unfold divT divR badN; simp only [okT_get]; unfold bif3
  cases rgB x <;> cases inB x <;> cases rgB y <;> cases inB y <;> rfl
noncomputable abbrev LDivides : List Con := [con2 21 fun x y => .val (resV (divR x y)), con2 20 fun x y => .val (resV (divR x y)), cAwk]
theorem LDivides_ok (M : Int) : ∀ c ∈ LDivides, ConOk M c :=
  mem_cons_ok (con2_val (cDiv_ok M) fun x y => divR_get x y) (mem_cons_ok (con2_val (cDivR_ok M) fun x y => divR_get x y) (mem_cons_ok (cAwk_ok M) nil_ok))
end Go.Proofs.YtonjnnjnojmpjaaDoor.R
