/- Ring: the specification's Divide, put together (made by mkdiv4.py). -/
import Derived.Test.YtihccnfaibiiiaaGreatDoorK09
import Derived.Test.YtihccnfaibiiiaaGreatDoorK03
import Derived.Test.YtihccnfaibiiiaaGreatDoorK07
namespace Go.Proofs.YtihccnfaibiiiaaGreatDoor.R
open Go Go.Proofs.XX.Vm Go.Proofs.XX.Rm Go.RowKit
set_option maxRecDepth 100000

theorem tmpsV (x y : N) : tmps0Of Tryz.prog 97 [N.v x, N.v y] = N.v x :: N.v y :: List.replicate 155 undef := by kernel_rfl
theorem outV (z : N) (e : Int) (a0 a1 a2 a3 : Value) (L : List Value) (b0 b1 b2 b3 b4 : Blk) (R : List Blk) : outOf Tryz.prog 97 (a0 :: a1 :: a2 :: a3 :: p3 :: .int .i64 e :: L) (b0 :: b1 :: b2 :: b3 :: b4 :: rb z :: R) = some (resV (z, e)) := by kernel_rfl
theorem bif3_badD {x : N} (h : okB x = false) : ∃ e : Int, ∀ {α : Type} (a : α) (f : Int → α), bif3 x a f = f e := by
  unfold okB at h
  cases hr : rgB x
  · exact ⟨3, fun a f => by unfold bif3; rw [hr]; rfl⟩
  · cases hi : inB x
    · exact ⟨8, fun a f => by unfold bif3; rw [hr, hi]; rfl⟩
    · rw [hr, hi] at h; cases h
theorem dvT {α : Type} {o : Int} (h : o ≠ 0) {t : Option α} : dv o t = t := by
  unfold dv; rw [show (o != 0) = true from bne_iff_ne.2 h]; rfl
theorem hNR_eq {y : N} (h : y.nf.In 4096) : hNR y = (N.z y.nf).nrm := by
  have hz := In_z h
  unfold hNR
  rw [prR_eq, conjW_in hz (by omega)]
  exact mulW_eq' ((hz.mul hz.conj).mono (by omega)) (by show _ ≤ (0 : Int) + 0; omega) (by show (0 : Int) + 0 ≤ _; omega)
theorem nrm_in {y : N} (h : y.In 4096) : y.nrm.In 67108864 := (h.mul h.conj).mono (by omega)
theorem hOT_eq {y : N} (h : y.nf.In 4096) : hOT y = (N.z y.nf).nrm.alt := by
  have e := altW_in (nrm_in (In_z h)) (by omega)
  unfold hOT
  rw [hNR_eq h, ← e]
  have hc : (N.z y.nf).nrm.c = 0 := by simp only [N.nrm, N.mul, N.conj]; grind
  ext
  · rfl
  · rfl
  · exact hc.symm
  · rfl
  · show (0 : Int) = 0 + 0; omega
theorem hBL_eq {y : N} (h : y.nf.In 4096) : hBL y = (N.z y.nf).bel := by
  have h1 := nrm_in (In_z h)
  unfold hBL
  rw [hNR_eq h, hOT_eq h, prR_eq, mulW_eq' ((h1.mul h1.alt).mono (by omega)) (by show _ ≤ (0 : Int) + 0 + (0 + 0); omega) (by show (0 : Int) + 0 + (0 + 0) ≤ _; omega)]
  rfl
theorem hAB_eq {x y : N} (hx : x.nf.In 4096) (hy : y.nf.In 4096) : hAB x y = quA x.nf y.nf := by
  have h1 := nrm_in (In_z hy)
  have h2 := In_z hx
  have h3 := In_z hy
  unfold hAB
  rw [hOT_eq hy, prR_eq, prR_eq, conjW_in h3 (by omega)]
  rw [mulW_eq' (x := N.z x.nf) ((h2.mul h3.conj).mono (by omega)) (by show _ ≤ (0 : Int) + 0; omega) (by show (0 : Int) + 0 ≤ _; omega)]
  rw [mulW_eq' (((((h2.mul h3.conj).mono (show _ ≤ 67108864 by omega)).mul h1.alt).mono (by omega))) (by show _ ≤ (0 : Int) + 0 + (0 + 0); omega) (by show (0 : Int) + 0 + (0 + 0) ≤ _; omega)]
  exact N.mul_assoc _ _ _
theorem eV (M : Int) (x y : N) (v : Value) (hv : (divT x y).get = some v) : EvF Tryz.prog (orcL LDV) (Sg1 M) 97 [N.v x, N.v y] v := by
  unfold divT at hv
  simp only [okT_get] at hv
  have start : ∀ (w : Value), plain w = true → EvP Tryz.prog (orcL LDV) (Sg1 M) Value 3 0 [qV 0, qV 1, qV 2, qV 3, qV 4, qV 5, qV 6, qV 7, qV 8, qV 9, qV 10, qV 11, qV 12, qV 13, qV 14, .block 0 (.loop (BV 0)), qV 16, qV 17, qV 18, qV 19, qV 20, .block 2 (.loop (BV 1)), qV 22, qV 23, qV 24, qV 25, qV 26] (N.v x :: N.v y :: List.replicate 155 undef) (Sg1 M) (fun e T S => (match e with | .exit _ => False | _ => True) ∧ outOf Tryz.prog 97 T S = some w) → EvF Tryz.prog (orcL LDV) (Sg1 M) 97 [N.v x, N.v y] w := by
    intro w hp h
    refine EvF.of_body hp ?_
    rw [tmpsV]
    show Ev Tryz.prog (orcL LDV) (Sg1 M) Value 3 _ _ _ _
    refine Ev.of_pieces ?_
    rw [show flatC (bodyOf Tryz.prog 97) = _ from LV_eq]
    exact h
  cases hx : okB x with
  | false =>
    obtain ⟨e, he⟩ := bif3_badD hx
    rw [he] at hv
    cases hv
    exact start _ rfl (EvP.stop (fun fs k => (headV M fs x y _ k).trans (he _ _)) ⟨trivial, outV O e _ _ _ _ _ _ _ _ _ _ _⟩)
  | true =>
    rw [bif3_ok hx] at hv
    cases hy : okB y with
    | false =>
      obtain ⟨e, he⟩ := bif3_badD hy
      rw [he] at hv
      cases hv
      exact start _ rfl (EvP.stop (fun fs k => (headV M fs x y _ k).trans ((bif3_ok hx).trans (he _ _))) ⟨trivial, outV O e _ _ _ _ _ _ _ _ _ _ _⟩)
    | true =>
      rw [bif3_ok hy] at hv
      cases hv
      have b1 : bydB x.nf 4096 = !(wi x.nf) := bydB_eq x.nf 4096 (by omega) (by omega)
      have b2 : bydB y.nf 4096 = !(wi y.nf) := bydB_eq y.nf 4096 (by omega) (by omega)
      unfold divS
      cases h1 : wi x.nf with
      | false => exact start _ rfl (EvP.stop (fun fs k => (headV M fs x y _ k).trans ((bif3_ok hx).trans ((bif3_ok hy).trans ((condT (symN_of hx)).trans ((condT (symN_of hy)).trans (condT (by rw [b1, h1]; rfl))))))) ⟨trivial, outV O 8 _ _ _ _ _ _ _ _ _ _ _⟩)
      | true =>
        cases h2 : wi y.nf with
        | false => exact start _ rfl (EvP.stop (fun fs k => (headV M fs x y _ k).trans ((bif3_ok hx).trans ((bif3_ok hy).trans ((condT (symN_of hx)).trans ((condT (symN_of hy)).trans ((condF (by rw [b1, h1]; rfl)).trans (condT (by rw [b2, h2]; rfl)))))))) ⟨trivial, outV O 8 _ _ _ _ _ _ _ _ _ _ _⟩)
        | true =>
          cases hz : y.zero with
          | true => exact start _ rfl (EvP.stop (fun fs k => (headV M fs x y _ k).trans ((bif3_ok hx).trans ((bif3_ok hy).trans ((condT (symN_of hx)).trans ((condT (symN_of hy)).trans ((condF (by rw [b1, h1]; rfl)).trans ((condF (by rw [b2, h2]; rfl)).trans (condT (by rw [nf_zero', hz])))))))))  ⟨trivial, outV O 6 _ _ _ _ _ _ _ _ _ _ _⟩)
          | false =>
            have i1 := (wi_iff _).1 h1
            have i2 := (wi_iff _).1 h2
            have hq := quB_nf hx hy h1 h2 hz
            obtain ⟨-, -, hz', k1, k2, k3, k4⟩ := quB_iff.1 hq
            obtain ⟨o1, o2, t1, t2, ob⟩ := quO_pos i2 hz'
            have eB := hBL_eq i2
            have eA := hAB_eq i1 i2
            obtain ⟨ob1, ob2⟩ := oB_iff.1 ob
            have ek : w (x.nf.k - y.nf.k) = x.nf.k - y.nf.k := w_eq _ (by omega) (by omega)
            refine start _ rfl (EvP.run (fun fs k => (headV M fs x y _ k).trans ((bif3_ok hx).trans ((bif3_ok hy).trans ((condT (symN_of hx)).trans ((condT (symN_of hy)).trans ((condF (by rw [b1, h1]; rfl)).trans ((condF (by rw [b2, h2]; rfl)).trans (condF (by rw [nf_zero', hz])))))))))  ?_)
            refine EvP.step (Ev.block ((loop1V M (hBL y) (w (x.nf.k - y.nf.k)) (by rw [eB]; exact ob1) (by rw [eB]; exact ob2) (by rw [ek]; omega) (by rw [ek]; omega) (sHead M x y) _ _ _ _ _ _ _ _ _ _ _ _ _ _ _ _ _ _ _ _ _ _ _ _ _ _ _ _ _ _ _ _ _ _ _ _ _ _ _ _ _ _ _ _ _ _ _ _ _ _ _ _ _ _ _ _ _ _ _ _ _ _ _ _ _ _ _ _ _ _ _ _ _ _ _ _ _ _ _ _ _ _ _ _ _ _ _ _ _ _ _ _ _ _ _ _ _ _ _ _ _ _ _ _ _ _ _ _ _ _ _ _ _ _ _ _ _ _ _ _ _ _ _ _ _ _ _ _ _ _ _ _ _ _ _ _ _ _ _ _ _ _ _ _ _ _ _ _ _ _ _ _ _ _ _).mono ?_))
            rintro e T S ⟨rfl, ⟨c64, c65, c66, c67, c68, c69, c70, rfl⟩, rfl⟩
            have eW : (oddS (hBL y)).1 = quO y.nf := by rw [eB]; rfl
            have eT : (((oddS (hBL y)).2 : Nat) : Int) = quT y.nf := by rw [eB]; rfl
            have w0 : (oddS (hBL y)).1 ≠ 0 := by rw [eW]; omega
            simp only [cond_true, cond_false]
            unfold quoS remB
            rw [← eA, ← eW]
            cases r1 : (hAB x y).a.tmod (oddS (hBL y)).1 != 0 with
            | true => exact EvP.stop (fun fs k => (midV M fs (hAB x y) (oddS (hBL y)).1 _ _ _ _ _ _ _ _ _ _ _ _ _ _ _ _ _ _ _ _ _ _ _ _ _ _ _ _ _ _ _ _ _ _ _ _ _ _ _ _ _ _ _ _ _ _ _ _ _ _ _ _ _ _ _ _ _ _ _ _ _ _ _ _ _ _ _ _ _ _ _ _ _ _ _ _ _ _ _ _ _ _ _ _ _ _ _ _ _ _ _ _ _ _ _ _ _ _ _ _ _ _ _ _ _ _ _ _ _ _ _ _ _ _ _ _ _ _ _ _ _ _ _ _ _ _ _ _ _ _ _ _ _ _ _ _ _ _ _ _ _ _ _ _ _ _ _ _ _ _ _ _ _ _ _ _ _ _ _ _ k).trans ((dvT w0).trans (condT r1))) ⟨trivial, outV O 6 _ _ _ _ _ _ _ _ _ _ _⟩
            | false =>
              cases r2 : (hAB x y).b.tmod (oddS (hBL y)).1 != 0 with
              | true => exact EvP.stop (fun fs k => (midV M fs (hAB x y) (oddS (hBL y)).1 _ _ _ _ _ _ _ _ _ _ _ _ _ _ _ _ _ _ _ _ _ _ _ _ _ _ _ _ _ _ _ _ _ _ _ _ _ _ _ _ _ _ _ _ _ _ _ _ _ _ _ _ _ _ _ _ _ _ _ _ _ _ _ _ _ _ _ _ _ _ _ _ _ _ _ _ _ _ _ _ _ _ _ _ _ _ _ _ _ _ _ _ _ _ _ _ _ _ _ _ _ _ _ _ _ _ _ _ _ _ _ _ _ _ _ _ _ _ _ _ _ _ _ _ _ _ _ _ _ _ _ _ _ _ _ _ _ _ _ _ _ _ _ _ _ _ _ _ _ _ _ _ _ _ _ _ _ _ _ _ k).trans ((dvT w0).trans ((condF r1).trans ((dvT w0).trans (condT r2))))) ⟨trivial, outV O 6 _ _ _ _ _ _ _ _ _ _ _⟩
              | false =>
                cases r3 : (hAB x y).c.tmod (oddS (hBL y)).1 != 0 with
                | true => exact EvP.stop (fun fs k => (midV M fs (hAB x y) (oddS (hBL y)).1 _ _ _ _ _ _ _ _ _ _ _ _ _ _ _ _ _ _ _ _ _ _ _ _ _ _ _ _ _ _ _ _ _ _ _ _ _ _ _ _ _ _ _ _ _ _ _ _ _ _ _ _ _ _ _ _ _ _ _ _ _ _ _ _ _ _ _ _ _ _ _ _ _ _ _ _ _ _ _ _ _ _ _ _ _ _ _ _ _ _ _ _ _ _ _ _ _ _ _ _ _ _ _ _ _ _ _ _ _ _ _ _ _ _ _ _ _ _ _ _ _ _ _ _ _ _ _ _ _ _ _ _ _ _ _ _ _ _ _ _ _ _ _ _ _ _ _ _ _ _ _ _ _ _ _ _ _ _ _ _ k).trans ((dvT w0).trans ((condF r1).trans ((dvT w0).trans ((condF r2).trans ((dvT w0).trans (condT r3))))))) ⟨trivial, outV O 6 _ _ _ _ _ _ _ _ _ _ _⟩
                | false =>
                  cases r4 : (hAB x y).d.tmod (oddS (hBL y)).1 != 0 with
                  | true => exact EvP.stop (fun fs k => (midV M fs (hAB x y) (oddS (hBL y)).1 _ _ _ _ _ _ _ _ _ _ _ _ _ _ _ _ _ _ _ _ _ _ _ _ _ _ _ _ _ _ _ _ _ _ _ _ _ _ _ _ _ _ _ _ _ _ _ _ _ _ _ _ _ _ _ _ _ _ _ _ _ _ _ _ _ _ _ _ _ _ _ _ _ _ _ _ _ _ _ _ _ _ _ _ _ _ _ _ _ _ _ _ _ _ _ _ _ _ _ _ _ _ _ _ _ _ _ _ _ _ _ _ _ _ _ _ _ _ _ _ _ _ _ _ _ _ _ _ _ _ _ _ _ _ _ _ _ _ _ _ _ _ _ _ _ _ _ _ _ _ _ _ _ _ _ _ _ _ _ _ k).trans ((dvT w0).trans ((condF r1).trans ((dvT w0).trans ((condF r2).trans ((dvT w0).trans ((condF r3).trans ((dvT w0).trans (condT r4))))))))) ⟨trivial, outV O 6 _ _ _ _ _ _ _ _ _ _ _⟩
                  | false =>
                    have go : ∀ {α : Type} (fs : Nat → Nat) (K : Int) (B3 B4 B6 B7 B8 : Blk) (v0 v1 v2 v3 v5 v6 v8 v9 v12 v13 v14 v15 v16 v17 v18 v19 v20 v21 v22 v23 v24 v25 v26 v27 v28 v29 v30 v31 v32 v33 v34 v35 v36 v37 v38 v39 v40 v41 v42 v43 v44 v45 v46 v47 v48 v49 v50 v51 v52 v53 v54 v55 v56 v57 v58 v59 v60 v61 v62 v63 v64 v65 v66 v67 v68 v69 v70 v71 v72 v73 v74 v75 v76 v77 v78 v79 v80 v81 v82 v83 v84 v85 v86 v87 v88 v89 v90 v91 v92 v93 v94 v95 v96 v97 v98 v99 v100 v101 v102 v103 v104 v105 v106 v107 v108 v109 v110 v111 v112 v113 v114 v115 v116 v117 v118 v119 v120 v121 v122 v123 v124 v125 v126 v127 v128 v129 v130 v131 v132 v133 v134 v135 v136 v137 v138 v139 v140 v141 v142 v143 v144 v145 v146 v147 v148 v149 v150 v151 v152 v153 v154 v155 v156 : Value) (l : List Code) (k : Kont α), _ = _ := fun {α} fs K B3 B4 B6 B7 B8 v0 v1 v2 v3 v5 v6 v8 v9 v12 v13 v14 v15 v16 v17 v18 v19 v20 v21 v22 v23 v24 v25 v26 v27 v28 v29 v30 v31 v32 v33 v34 v35 v36 v37 v38 v39 v40 v41 v42 v43 v44 v45 v46 v47 v48 v49 v50 v51 v52 v53 v54 v55 v56 v57 v58 v59 v60 v61 v62 v63 v64 v65 v66 v67 v68 v69 v70 v71 v72 v73 v74 v75 v76 v77 v78 v79 v80 v81 v82 v83 v84 v85 v86 v87 v88 v89 v90 v91 v92 v93 v94 v95 v96 v97 v98 v99 v100 v101 v102 v103 v104 v105 v106 v107 v108 v109 v110 v111 v112 v113 v114 v115 v116 v117 v118 v119 v120 v121 v122 v123 v124 v125 v126 v127 v128 v129 v130 v131 v132 v133 v134 v135 v136 v137 v138 v139 v140 v141 v142 v143 v144 v145 v146 v147 v148 v149 v150 v151 v152 v153 v154 v155 v156 l k => (midV (α := α) M fs (hAB x y) (oddS (hBL y)).1 K B3 B4 B6 B7 B8 v0 v1 v2 v3 v5 v6 v8 v9 v12 v13 v14 v15 v16 v17 v18 v19 v20 v21 v22 v23 v24 v25 v26 v27 v28 v29 v30 v31 v32 v33 v34 v35 v36 v37 v38 v39 v40 v41 v42 v43 v44 v45 v46 v47 v48 v49 v50 v51 v52 v53 v54 v55 v56 v57 v58 v59 v60 v61 v62 v63 v64 v65 v66 v67 v68 v69 v70 v71 v72 v73 v74 v75 v76 v77 v78 v79 v80 v81 v82 v83 v84 v85 v86 v87 v88 v89 v90 v91 v92 v93 v94 v95 v96 v97 v98 v99 v100 v101 v102 v103 v104 v105 v106 v107 v108 v109 v110 v111 v112 v113 v114 v115 v116 v117 v118 v119 v120 v121 v122 v123 v124 v125 v126 v127 v128 v129 v130 v131 v132 v133 v134 v135 v136 v137 v138 v139 v140 v141 v142 v143 v144 v145 v146 v147 v148 v149 v150 v151 v152 v153 v154 v155 v156 l k).trans ((dvT w0).trans ((condF r1).trans ((dvT w0).trans ((condF r2).trans ((dvT w0).trans ((condF r3).trans ((dvT w0).trans ((condF r4).trans ((dvT w0).trans ((dvT w0).trans ((dvT w0).trans (dvT w0))))))))))))
                    have eK : w (x.nf.k - y.nf.k) + 2 * (((oddS (hBL y)).2 : Nat) : Int) = (quN x.nf y.nf).k := by rw [ek, eT]; rfl
                    have qi := quN_in i1 i2
                    have eN : kN (dvN (hAB x y) (oddS (hBL y)).1) (quN x.nf y.nf).k = quN x.nf y.nf := by
                      obtain ⟨a1, a2, b1, b2, c1, c2, d1, d2⟩ := qi
                      simp only [quN] at a1 a2 b1 b2 c1 c2 d1 d2
                      rw [eA, eW]
                      ext
                      · exact w_eq _ (by omega) (by omega)
                      · exact w_eq _ (by omega) (by omega)
                      · exact w_eq _ (by omega) (by omega)
                      · exact w_eq _ (by omega) (by omega)
                      · rfl
                    have eZ : (dvN (hAB x y) (oddS (hBL y)).1).zero = (quN x.nf y.nf).zero := by rw [← eN]; rfl
                    have di : (dvN (hAB x y) (oddS (hBL y)).1).In 18014398509481984 := by
                      rw [← eN] at qi; exact ⟨qi.a1, qi.a2, qi.b1, qi.b2, qi.c1, qi.c2, qi.d1, qi.d2⟩
                    have kb : -1000 ≤ (quN x.nf y.nf).k ∧ (quN x.nf y.nf).k ≤ 1000 := by
                      show -1000 ≤ x.nf.k - y.nf.k + 2 * quT y.nf ∧ x.nf.k - y.nf.k + 2 * quT y.nf ≤ 1000; omega
                    simp only [Bool.or_false, cond_false]
                    unfold quoN
                    cases z1 : (quN x.nf y.nf).zero with
                    | true =>
                      have eO : dvN (hAB x y) (oddS (hBL y)).1 = O := by
                        rw [z1] at eZ
                        simp only [N.zero, Bool.and_eq_true, beq_iff_eq] at eZ
                        obtain ⟨⟨⟨z1, z2⟩, z3⟩, z4⟩ := eZ
                        ext
                        · exact z1
                        · exact z2
                        · exact z3
                        · exact z4
                        · rfl
                      refine EvP.stop (fun fs k => (go fs _ _ _ _ _ _ _ _ _ _ _ _ _ _ _ _ _ _ _ _ _ _ _ _ _ _ _ _ _ _ _ _ _ _ _ _ _ _ _ _ _ _ _ _ _ _ _ _ _ _ _ _ _ _ _ _ _ _ _ _ _ _ _ _ _ _ _ _ _ _ _ _ _ _ _ _ _ _ _ _ _ _ _ _ _ _ _ _ _ _ _ _ _ _ _ _ _ _ _ _ _ _ _ _ _ _ _ _ _ _ _ _ _ _ _ _ _ _ _ _ _ _ _ _ _ _ _ _ _ _ _ _ _ _ _ _ _ _ _ _ _ _ _ _ _ _ _ _ _ _ _ _ _ _ _ _ _ _ _ _ k).trans (condT (by rw [eZ, z1]))) ⟨trivial, ?_⟩
                      rw [eO]
                      exact outV O 0 _ _ _ _ _ _ _ _ _ _ _
                    | false =>
                      refine EvP.run (fun fs k => (go fs _ _ _ _ _ _ _ _ _ _ _ _ _ _ _ _ _ _ _ _ _ _ _ _ _ _ _ _ _ _ _ _ _ _ _ _ _ _ _ _ _ _ _ _ _ _ _ _ _ _ _ _ _ _ _ _ _ _ _ _ _ _ _ _ _ _ _ _ _ _ _ _ _ _ _ _ _ _ _ _ _ _ _ _ _ _ _ _ _ _ _ _ _ _ _ _ _ _ _ _ _ _ _ _ _ _ _ _ _ _ _ _ _ _ _ _ _ _ _ _ _ _ _ _ _ _ _ _ _ _ _ _ _ _ _ _ _ _ _ _ _ _ _ _ _ _ _ _ _ _ _ _ _ _ _ _ _ _ _ _ k).trans (condF (by rw [eZ, z1]))) ?_
                      refine EvP.step (Ev.block ((loop2V M (dvN (hAB x y) (oddS (hBL y)).1) (w (x.nf.k - y.nf.k) + 2 * (((oddS (hBL y)).2 : Nat) : Int)) (di.mono (by omega)) (by rw [eK]; exact kb.1) (by rw [eK]; exact kb.2) _ _ _ _ _ _ _ _ _ _ _ _ _ _ _ _ _ _ _ _ _ _ _ _ _ _ _ _ _ _ _ _ _ _ _ _ _ _ _ _ _ _ _ _ _ _ _ _ _ _ _ _ _ _ _ _ _ _ _ _ _ _ _ _ _ _ _ _ _ _ _ _ _ _ _ _ _ _ _ _ _ _ _ _ _ _ _ _ _ _ _ _ _ _ _ _ _ _ _ _ _ _ _ _ _ _ _ _ _ _ _ _ _ _ _ _ _ _ _ _ _ _ _ _ _ _ _ _ _ _ _ _ _ _ _ _ _ _ _ _ _ _ _ _ _ _ _ _ _ _ _ _ _ _ _ _ _ _ _ (N.qf (quN x.nf y.nf)) (by rw [eK, eN])).mono ?_))
                      rintro e T S ⟨rfl, Z, c118, c119, c120, c121, c122, c123, c124, c125, c126, c127, c128, c129, c130, c131, c132, c133, c134, c135, c136, c137, c138, c139, c140, c141, c142, rfl, rfl, hZ⟩
                      generalize N.qf (quN x.nf y.nf) = q at hZ ⊢
                      have hi : inB Z = inB q := by rw [← hZ]; rfl
                      have hr : rgB q = (!(decide (q.k < 0)) && !(decide (q.k > 60))) := rfl
                      unfold okB
                      rw [hr, ← hi]
                      cases n1 : decide (q.k < 0) with
                      | true => exact EvP.stop (fun fs k => (tailV M fs Z q.k _ _ _ _ _ _ _ _ _ _ _ _ _ _ _ _ _ _ _ _ _ _ _ _ _ _ _ _ _ _ _ _ _ _ _ _ _ _ _ _ _ _ _ _ _ _ _ _ _ _ _ _ _ _ _ _ _ _ _ _ _ _ _ _ _ _ _ _ _ _ _ _ _ _ _ _ _ _ _ _ _ _ _ _ _ _ _ _ _ _ _ _ _ _ _ _ _ _ _ _ _ _ _ _ _ _ _ _ _ _ _ _ _ _ _ _ _ _ _ _ _ _ _ _ _ _ _ _ _ _ _ _ _ _ _ _ _ _ _ _ _ _ _ _ _ _ _ _ _ _ _ _ _ _ _ _ _ _ _ k).trans (condT n1)) ⟨trivial, outV O 8 _ _ _ _ _ _ _ _ _ _ _⟩
                      | false =>
                        cases n2 : inB Z with
                        | false =>
                          rw [Bool.and_false]
                          exact EvP.stop (fun fs k => (tailV M fs Z q.k _ _ _ _ _ _ _ _ _ _ _ _ _ _ _ _ _ _ _ _ _ _ _ _ _ _ _ _ _ _ _ _ _ _ _ _ _ _ _ _ _ _ _ _ _ _ _ _ _ _ _ _ _ _ _ _ _ _ _ _ _ _ _ _ _ _ _ _ _ _ _ _ _ _ _ _ _ _ _ _ _ _ _ _ _ _ _ _ _ _ _ _ _ _ _ _ _ _ _ _ _ _ _ _ _ _ _ _ _ _ _ _ _ _ _ _ _ _ _ _ _ _ _ _ _ _ _ _ _ _ _ _ _ _ _ _ _ _ _ _ _ _ _ _ _ _ _ _ _ _ _ _ _ _ _ _ _ _ _ k).trans ((condF n1).trans (condT (by rw [byd_in, n2]; rfl)))) ⟨trivial, outV O 8 _ _ _ _ _ _ _ _ _ _ _⟩
                        | true =>
                          cases n3 : decide (q.k > 60) with
                          | true => exact EvP.stop (fun fs k => (tailV M fs Z q.k _ _ _ _ _ _ _ _ _ _ _ _ _ _ _ _ _ _ _ _ _ _ _ _ _ _ _ _ _ _ _ _ _ _ _ _ _ _ _ _ _ _ _ _ _ _ _ _ _ _ _ _ _ _ _ _ _ _ _ _ _ _ _ _ _ _ _ _ _ _ _ _ _ _ _ _ _ _ _ _ _ _ _ _ _ _ _ _ _ _ _ _ _ _ _ _ _ _ _ _ _ _ _ _ _ _ _ _ _ _ _ _ _ _ _ _ _ _ _ _ _ _ _ _ _ _ _ _ _ _ _ _ _ _ _ _ _ _ _ _ _ _ _ _ _ _ _ _ _ _ _ _ _ _ _ _ _ _ _ k).trans ((condF n1).trans ((condF (by rw [byd_in, n2]; rfl)).trans (condT n3)))) ⟨trivial, outV O 8 _ _ _ _ _ _ _ _ _ _ _⟩
                          | false =>
                            refine EvP.stop (fun fs k => (tailV M fs Z q.k _ _ _ _ _ _ _ _ _ _ _ _ _ _ _ _ _ _ _ _ _ _ _ _ _ _ _ _ _ _ _ _ _ _ _ _ _ _ _ _ _ _ _ _ _ _ _ _ _ _ _ _ _ _ _ _ _ _ _ _ _ _ _ _ _ _ _ _ _ _ _ _ _ _ _ _ _ _ _ _ _ _ _ _ _ _ _ _ _ _ _ _ _ _ _ _ _ _ _ _ _ _ _ _ _ _ _ _ _ _ _ _ _ _ _ _ _ _ _ _ _ _ _ _ _ _ _ _ _ _ _ _ _ _ _ _ _ _ _ _ _ _ _ _ _ _ _ _ _ _ _ _ _ _ _ _ _ _ _ k).trans ((condF n1).trans ((condF (by rw [byd_in, n2]; rfl)).trans (condF n3)))) ⟨trivial, ?_⟩
                            rw [hZ]
                            exact outV q 0 _ _ _ _ _ _ _ _ _ _ _
theorem cDivR_ok (M : Int) : ConOk M (con2 97 divT) := con2_ok (LDV_ok M) fun x y v h => eV M x y v h

noncomputable abbrev LDivides : List Con := [con2 55 fun x y => .val (resV (divR x y)), con2 97 fun x y => .val (resV (divR x y)), cAwk]
theorem LDivides_ok (M : Int) : ∀ c ∈ LDivides, ConOk M c :=
  mem_cons_ok (con2_val (cDiv_ok M) fun x y => divR_get x y) (mem_cons_ok (con2_val (cDivR_ok M) fun x y => divR_get x y) (mem_cons_ok (cAwk_ok M) nil_ok))
end Go.Proofs.YtihccnfaibiiiaaGreatDoor.R
/- A small evaluator over a shadow heap: calls of which the value and the old blocks are known. -/
namespace Go.Proofs.XX.Vm
open Go Go.RowKit

section
variable {P : Program} {orc : Orc} {Sg : List Blk}
/-- The same, where the old blocks behind the call are known, too. -/
theorem callInK_take (hsg : SgOk Sg) (horc : OrcOk P Sg (orcOf orc)) {fl m : Nat} {f : FuncId} {args : List Value} {S S1 : List Blk} {v : Value}
    (h : callInK P (evCodeK P orc Sg m) fl f args S (fun u U => some (u, U.take S.length)) = some (v, S1)) (hfl : Sg.length ≤ fl) (hS : Sg.length ≤ S.length) : ∃ N, CallAt P Sg fl f args S v (S1 ++ N) := by
  obtain ⟨v1, U, h1, h2⟩ := callInK_ok (P := P) (evCodeK_ok (orc := orc) (Sg := Sg) m) _ _ _ _ _ _ h
  simp only [Option.some.injEq, Prod.mk.injEq] at h2
  obtain ⟨rfl, rfl⟩ := h2
  refine ⟨U.drop S.length, ?_⟩
  rw [List.take_append_drop]
  exact callIn_ok (evCode_ok hsg horc m).1 h1 hfl hS
end
noncomputable section
/-- What is behind the last piece of a body. -/
def endK {α : Type} (P : Program) (f : FuncId) (k : Value → List Blk → Option α) : Kont α := fun x T' S' => match x with
  | .exit _ => none
  | _ => match outOf P f T' S' with
    | some v => k v S'
    | none => none
theorem callInK_endK {P : Program} {α : Type} {orc : Orc} {Sg : List Blk} {fl : Nat} {f : FuncId} {args : List Value} {S : List Blk} {k : Value → List Blk → Option α} (hb : (P.funcs[f]?).bind (·.body) ≠ none) :
    ∃ (m : Nat) (fs : Nat → Nat), callInK P (evCodeK P orc Sg m) fl f args S k = evP P orc Sg fl fs 0 (pcs P f) (tmps0Of P f args) S (endK P f k) := by
  obtain ⟨fs, h⟩ := callInK_pieces (P := P) (α := α) (orc := orc) (Sg := Sg) (fl := fl) (f := f) (args := args) (S := S) (k := k) hb _ (Nat.le_refl _)
  exact ⟨_, fs, h⟩
end
end Go.Proofs.XX.Vm
/- Ring: the program's Omega, for all numbers (made by mkpo.py, split.py). -/
namespace Go.Proofs.YtihccnfaibiiiaaGreatDoor.R
open Go Go.Proofs.XX.Vm Go.Proofs.XX.Rm Go.RowKit
set_option maxRecDepth 100000

def om0 : N := ⟨1, 0, 0, 0, 0⟩
def andE (n : Int) : Int := IntKind.i64.wrap ((BitVec.ofInt 64 n &&& BitVec.ofInt 64 7).toNat)
def ib (n : Int) : Blk := ⟨[.int .i64 n], 3, false, none⟩
def cb (x : N) : Blk := ⟨[.int .i64 x.a, .int .i64 x.b, .int .i64 x.c, .int .i64 x.d], 59, false, none⟩
def yl (b : Nat) : Value := .func (.yield b) #[] #[]
def TO (n : Int) : List Value := [.int .i64 (n), .pointer (some ⟨3, 0, none⟩), .pointer (some ⟨4, 0, none⟩), .pointer (some ⟨5, 0, none⟩), undef, undef, N.v om0, (.func (.func 91) #[] #[.pointer (some ⟨6, 0, none⟩)]), undef, undef, undef, undef, undef, undef, undef, undef]
noncomputable def hO (M n : Int) (x c : N) : List Blk := [uni, pow, mxl M, ib n, rb O, rb x, rb om0, loopBlk ⟨.ready, none, TO n, (rangeOf Tryz.prog 29 0).2.1, (rangeOf Tryz.prog 29 0).2.2.1, (rangeOf Tryz.prog 29 0).2.2.2⟩, cb c]
noncomputable abbrev qP (i : Nat) : Code := nthC (pcs Tryz.prog 29) i
noncomputable abbrev BO : Code := loopOf Tryz.prog 91 0
theorem LO_eq : pcs Tryz.prog 29 = [qP 0, qP 1, qP 2, .block 0 (.rangeFunc (rangeOf Tryz.prog 29 0).1 (rangeOf Tryz.prog 29 0).2.1 (rangeOf Tryz.prog 29 0).2.2.1 (rangeOf Tryz.prog 29 0).2.2.2), qP 4, qP 5] := by kernel_rfl
noncomputable abbrev qG (i : Nat) : Code := nthC (pcs Tryz.prog 91) i
theorem LG_eq : pcs Tryz.prog 91 = [qG 0, qG 1, .block 0 (.loop BO)] := by kernel_rfl
theorem headO {α : Type} (M : Int) (fs : Nat → Nat) (n : Int) (l : List Code) (k : Kont α) :
    evP Tryz.prog (orcL []) (Sg1 M) 3 fs 0 (qP 0 :: qP 1 :: qP 2 :: l) (.int .i64 n :: List.replicate 15 undef) (Sg1 M) k = evP Tryz.prog (orcL []) (Sg1 M) 3 fs 3 l (TO n) [uni, pow, mxl M, ib n, rb O, rb O, rb om0] k := by kernel_rfl
theorem headG {α : Type} (M : Int) (fs : Nat → Nat) (n : Int) (l : List Code) (k : Kont α) :
    evP Tryz.prog (orcL []) (Sg1 M) 3 fs 0 (qG 0 :: qG 1 :: l) (yl 7 :: .pointer (some ⟨6, 0, none⟩) :: List.replicate 19 undef) ((hO M n O om0).take 8) k = evP Tryz.prog (orcL []) (Sg1 M) 3 fs 2 l [yl 7, .pointer (some ⟨6, 0, none⟩), undef, .pointer (some ⟨8, 0, none⟩), undef, N.v om0, N.cv om0, .int .i64 0, undef, undef, undef, undef, undef, undef, undef, undef, undef, undef, undef, undef, undef] (hO M n O (⟨1, 0, 0, 0, 0⟩ : N) ++ []) k := by kernel_rfl
theorem roundO0 {α : Type} (M : Int) (m : Nat) (n : Int) (x : N) (v2 v4 v5 v6 v8 v9 v10 v11 v12 v13 v14 v15 v16 v17 v18 v19 v20 : Value) (k : Kont α) :
    evCodeK Tryz.prog (orcL []) (Sg1 M) (m + 60) 3 BO [yl 7, .pointer (some ⟨6, 0, none⟩), v2, .pointer (some ⟨8, 0, none⟩), v4, v5, v6, .int .i64 (0), v8, v9, v10, v11, v12, v13, v14, v15, v16, v17, v18, v19, v20] (hO M n x (⟨1, 0, 0, 0, 0⟩ : N) ++ []) k =
    bif (0 : Int) == andE n then k .normal [yl 7, .pointer (some ⟨6, 0, none⟩), v2, .pointer (some ⟨8, 0, none⟩), .int .i64 (0), v5, v6, .int .i64 (1), .bool true, .int .i64 (0), yl 7, .int .i64 (0), N.cv (⟨1, 0, 0, 0, 0⟩ : N), .pointer (some ⟨6, 4, none⟩), .int .i64 (0), N.v (⟨1, 0, 0, 0, 0⟩ : N), .bool true, .bool false, N.cv (⟨1, 0, 0, 0, 0⟩ : N), N.cv (⟨0, 1, 0, 0, 0⟩ : N), .int .i64 (1)] (hO M n (⟨1, 0, 0, 0, 0⟩ : N) (⟨0, 1, 0, 0, 0⟩ : N) ++ [rb (⟨1, 0, 0, 0, 0⟩ : N)]) else k .normal [yl 7, .pointer (some ⟨6, 0, none⟩), v2, .pointer (some ⟨8, 0, none⟩), .int .i64 (0), v5, v6, .int .i64 (1), .bool true, .int .i64 (0), yl 7, .int .i64 (0), N.cv (⟨1, 0, 0, 0, 0⟩ : N), .pointer (some ⟨6, 4, none⟩), .int .i64 (0), N.v (⟨1, 0, 0, 0, 0⟩ : N), .bool true, .bool false, N.cv (⟨1, 0, 0, 0, 0⟩ : N), N.cv (⟨0, 1, 0, 0, 0⟩ : N), .int .i64 (1)] (hO M n x (⟨0, 1, 0, 0, 0⟩ : N) ++ [rb (⟨1, 0, 0, 0, 0⟩ : N)]) := by kernel_rfl
theorem roundO1 {α : Type} (M : Int) (m : Nat) (n : Int) (x : N) (v2 v4 v5 v6 v8 v9 v10 v11 v12 v13 v14 v15 v16 v17 v18 v19 v20 : Value) (k : Kont α) :
    evCodeK Tryz.prog (orcL []) (Sg1 M) (m + 60) 3 BO [yl 7, .pointer (some ⟨6, 0, none⟩), v2, .pointer (some ⟨8, 0, none⟩), v4, v5, v6, .int .i64 (1), v8, v9, v10, v11, v12, v13, v14, v15, v16, v17, v18, v19, v20] (hO M n x (⟨0, 1, 0, 0, 0⟩ : N) ++ [rb (⟨1, 0, 0, 0, 0⟩ : N)]) k =
    bif (1 : Int) == andE n then k .normal [yl 7, .pointer (some ⟨6, 0, none⟩), v2, .pointer (some ⟨8, 0, none⟩), .int .i64 (1), v5, v6, .int .i64 (2), .bool true, .int .i64 (1), yl 7, .int .i64 (1), N.cv (⟨0, 1, 0, 0, 0⟩ : N), .pointer (some ⟨6, 4, none⟩), .int .i64 (0), N.v (⟨0, 1, 0, 0, 0⟩ : N), .bool true, .bool false, N.cv (⟨0, 1, 0, 0, 0⟩ : N), N.cv (⟨0, 0, 1, 0, 0⟩ : N), .int .i64 (2)] (hO M n (⟨0, 1, 0, 0, 0⟩ : N) (⟨0, 0, 1, 0, 0⟩ : N) ++ [rb (⟨1, 0, 0, 0, 0⟩ : N), rb (⟨0, 1, 0, 0, 0⟩ : N)]) else k .normal [yl 7, .pointer (some ⟨6, 0, none⟩), v2, .pointer (some ⟨8, 0, none⟩), .int .i64 (1), v5, v6, .int .i64 (2), .bool true, .int .i64 (1), yl 7, .int .i64 (1), N.cv (⟨0, 1, 0, 0, 0⟩ : N), .pointer (some ⟨6, 4, none⟩), .int .i64 (0), N.v (⟨0, 1, 0, 0, 0⟩ : N), .bool true, .bool false, N.cv (⟨0, 1, 0, 0, 0⟩ : N), N.cv (⟨0, 0, 1, 0, 0⟩ : N), .int .i64 (2)] (hO M n x (⟨0, 0, 1, 0, 0⟩ : N) ++ [rb (⟨1, 0, 0, 0, 0⟩ : N), rb (⟨0, 1, 0, 0, 0⟩ : N)]) := by kernel_rfl
theorem roundO2 {α : Type} (M : Int) (m : Nat) (n : Int) (x : N) (v2 v4 v5 v6 v8 v9 v10 v11 v12 v13 v14 v15 v16 v17 v18 v19 v20 : Value) (k : Kont α) :
    evCodeK Tryz.prog (orcL []) (Sg1 M) (m + 60) 3 BO [yl 7, .pointer (some ⟨6, 0, none⟩), v2, .pointer (some ⟨8, 0, none⟩), v4, v5, v6, .int .i64 (2), v8, v9, v10, v11, v12, v13, v14, v15, v16, v17, v18, v19, v20] (hO M n x (⟨0, 0, 1, 0, 0⟩ : N) ++ [rb (⟨1, 0, 0, 0, 0⟩ : N), rb (⟨0, 1, 0, 0, 0⟩ : N)]) k =
    bif (2 : Int) == andE n then k .normal [yl 7, .pointer (some ⟨6, 0, none⟩), v2, .pointer (some ⟨8, 0, none⟩), .int .i64 (2), v5, v6, .int .i64 (3), .bool true, .int .i64 (2), yl 7, .int .i64 (2), N.cv (⟨0, 0, 1, 0, 0⟩ : N), .pointer (some ⟨6, 4, none⟩), .int .i64 (0), N.v (⟨0, 0, 1, 0, 0⟩ : N), .bool true, .bool false, N.cv (⟨0, 0, 1, 0, 0⟩ : N), N.cv (⟨0, 0, 0, 1, 0⟩ : N), .int .i64 (3)] (hO M n (⟨0, 0, 1, 0, 0⟩ : N) (⟨0, 0, 0, 1, 0⟩ : N) ++ [rb (⟨1, 0, 0, 0, 0⟩ : N), rb (⟨0, 1, 0, 0, 0⟩ : N), rb (⟨0, 0, 1, 0, 0⟩ : N)]) else k .normal [yl 7, .pointer (some ⟨6, 0, none⟩), v2, .pointer (some ⟨8, 0, none⟩), .int .i64 (2), v5, v6, .int .i64 (3), .bool true, .int .i64 (2), yl 7, .int .i64 (2), N.cv (⟨0, 0, 1, 0, 0⟩ : N), .pointer (some ⟨6, 4, none⟩), .int .i64 (0), N.v (⟨0, 0, 1, 0, 0⟩ : N), .bool true, .bool false, N.cv (⟨0, 0, 1, 0, 0⟩ : N), N.cv (⟨0, 0, 0, 1, 0⟩ : N), .int .i64 (3)] (hO M n x (⟨0, 0, 0, 1, 0⟩ : N) ++ [rb (⟨1, 0, 0, 0, 0⟩ : N), rb (⟨0, 1, 0, 0, 0⟩ : N), rb (⟨0, 0, 1, 0, 0⟩ : N)]) := by kernel_rfl
theorem roundO3 {α : Type} (M : Int) (m : Nat) (n : Int) (x : N) (v2 v4 v5 v6 v8 v9 v10 v11 v12 v13 v14 v15 v16 v17 v18 v19 v20 : Value) (k : Kont α) :
    evCodeK Tryz.prog (orcL []) (Sg1 M) (m + 60) 3 BO [yl 7, .pointer (some ⟨6, 0, none⟩), v2, .pointer (some ⟨8, 0, none⟩), v4, v5, v6, .int .i64 (3), v8, v9, v10, v11, v12, v13, v14, v15, v16, v17, v18, v19, v20] (hO M n x (⟨0, 0, 0, 1, 0⟩ : N) ++ [rb (⟨1, 0, 0, 0, 0⟩ : N), rb (⟨0, 1, 0, 0, 0⟩ : N), rb (⟨0, 0, 1, 0, 0⟩ : N)]) k =
    bif (3 : Int) == andE n then k .normal [yl 7, .pointer (some ⟨6, 0, none⟩), v2, .pointer (some ⟨8, 0, none⟩), .int .i64 (3), v5, v6, .int .i64 (4), .bool true, .int .i64 (3), yl 7, .int .i64 (3), N.cv (⟨0, 0, 0, 1, 0⟩ : N), .pointer (some ⟨6, 4, none⟩), .int .i64 (0), N.v (⟨0, 0, 0, 1, 0⟩ : N), .bool true, .bool false, N.cv (⟨0, 0, 0, 1, 0⟩ : N), N.cv (⟨-1, 0, 0, 0, 0⟩ : N), .int .i64 (4)] (hO M n (⟨0, 0, 0, 1, 0⟩ : N) (⟨-1, 0, 0, 0, 0⟩ : N) ++ [rb (⟨1, 0, 0, 0, 0⟩ : N), rb (⟨0, 1, 0, 0, 0⟩ : N), rb (⟨0, 0, 1, 0, 0⟩ : N), rb (⟨0, 0, 0, 1, 0⟩ : N)]) else k .normal [yl 7, .pointer (some ⟨6, 0, none⟩), v2, .pointer (some ⟨8, 0, none⟩), .int .i64 (3), v5, v6, .int .i64 (4), .bool true, .int .i64 (3), yl 7, .int .i64 (3), N.cv (⟨0, 0, 0, 1, 0⟩ : N), .pointer (some ⟨6, 4, none⟩), .int .i64 (0), N.v (⟨0, 0, 0, 1, 0⟩ : N), .bool true, .bool false, N.cv (⟨0, 0, 0, 1, 0⟩ : N), N.cv (⟨-1, 0, 0, 0, 0⟩ : N), .int .i64 (4)] (hO M n x (⟨-1, 0, 0, 0, 0⟩ : N) ++ [rb (⟨1, 0, 0, 0, 0⟩ : N), rb (⟨0, 1, 0, 0, 0⟩ : N), rb (⟨0, 0, 1, 0, 0⟩ : N), rb (⟨0, 0, 0, 1, 0⟩ : N)]) := by kernel_rfl
theorem roundO4 {α : Type} (M : Int) (m : Nat) (n : Int) (x : N) (v2 v4 v5 v6 v8 v9 v10 v11 v12 v13 v14 v15 v16 v17 v18 v19 v20 : Value) (k : Kont α) :
    evCodeK Tryz.prog (orcL []) (Sg1 M) (m + 60) 3 BO [yl 7, .pointer (some ⟨6, 0, none⟩), v2, .pointer (some ⟨8, 0, none⟩), v4, v5, v6, .int .i64 (4), v8, v9, v10, v11, v12, v13, v14, v15, v16, v17, v18, v19, v20] (hO M n x (⟨-1, 0, 0, 0, 0⟩ : N) ++ [rb (⟨1, 0, 0, 0, 0⟩ : N), rb (⟨0, 1, 0, 0, 0⟩ : N), rb (⟨0, 0, 1, 0, 0⟩ : N), rb (⟨0, 0, 0, 1, 0⟩ : N)]) k =
    bif (4 : Int) == andE n then k .normal [yl 7, .pointer (some ⟨6, 0, none⟩), v2, .pointer (some ⟨8, 0, none⟩), .int .i64 (4), v5, v6, .int .i64 (5), .bool true, .int .i64 (4), yl 7, .int .i64 (4), N.cv (⟨-1, 0, 0, 0, 0⟩ : N), .pointer (some ⟨6, 4, none⟩), .int .i64 (0), N.v (⟨-1, 0, 0, 0, 0⟩ : N), .bool true, .bool false, N.cv (⟨-1, 0, 0, 0, 0⟩ : N), N.cv (⟨0, -1, 0, 0, 0⟩ : N), .int .i64 (5)] (hO M n (⟨-1, 0, 0, 0, 0⟩ : N) (⟨0, -1, 0, 0, 0⟩ : N) ++ [rb (⟨1, 0, 0, 0, 0⟩ : N), rb (⟨0, 1, 0, 0, 0⟩ : N), rb (⟨0, 0, 1, 0, 0⟩ : N), rb (⟨0, 0, 0, 1, 0⟩ : N), rb (⟨-1, 0, 0, 0, 0⟩ : N)]) else k .normal [yl 7, .pointer (some ⟨6, 0, none⟩), v2, .pointer (some ⟨8, 0, none⟩), .int .i64 (4), v5, v6, .int .i64 (5), .bool true, .int .i64 (4), yl 7, .int .i64 (4), N.cv (⟨-1, 0, 0, 0, 0⟩ : N), .pointer (some ⟨6, 4, none⟩), .int .i64 (0), N.v (⟨-1, 0, 0, 0, 0⟩ : N), .bool true, .bool false, N.cv (⟨-1, 0, 0, 0, 0⟩ : N), N.cv (⟨0, -1, 0, 0, 0⟩ : N), .int .i64 (5)] (hO M n x (⟨0, -1, 0, 0, 0⟩ : N) ++ [rb (⟨1, 0, 0, 0, 0⟩ : N), rb (⟨0, 1, 0, 0, 0⟩ : N), rb (⟨0, 0, 1, 0, 0⟩ : N), rb (⟨0, 0, 0, 1, 0⟩ : N), rb (⟨-1, 0, 0, 0, 0⟩ : N)]) := by kernel_rfl
theorem roundO5 {α : Type} (M : Int) (m : Nat) (n : Int) (x : N) (v2 v4 v5 v6 v8 v9 v10 v11 v12 v13 v14 v15 v16 v17 v18 v19 v20 : Value) (k : Kont α) :
    evCodeK Tryz.prog (orcL []) (Sg1 M) (m + 60) 3 BO [yl 7, .pointer (some ⟨6, 0, none⟩), v2, .pointer (some ⟨8, 0, none⟩), v4, v5, v6, .int .i64 (5), v8, v9, v10, v11, v12, v13, v14, v15, v16, v17, v18, v19, v20] (hO M n x (⟨0, -1, 0, 0, 0⟩ : N) ++ [rb (⟨1, 0, 0, 0, 0⟩ : N), rb (⟨0, 1, 0, 0, 0⟩ : N), rb (⟨0, 0, 1, 0, 0⟩ : N), rb (⟨0, 0, 0, 1, 0⟩ : N), rb (⟨-1, 0, 0, 0, 0⟩ : N)]) k =
    bif (5 : Int) == andE n then k .normal [yl 7, .pointer (some ⟨6, 0, none⟩), v2, .pointer (some ⟨8, 0, none⟩), .int .i64 (5), v5, v6, .int .i64 (6), .bool true, .int .i64 (5), yl 7, .int .i64 (5), N.cv (⟨0, -1, 0, 0, 0⟩ : N), .pointer (some ⟨6, 4, none⟩), .int .i64 (0), N.v (⟨0, -1, 0, 0, 0⟩ : N), .bool true, .bool false, N.cv (⟨0, -1, 0, 0, 0⟩ : N), N.cv (⟨0, 0, -1, 0, 0⟩ : N), .int .i64 (6)] (hO M n (⟨0, -1, 0, 0, 0⟩ : N) (⟨0, 0, -1, 0, 0⟩ : N) ++ [rb (⟨1, 0, 0, 0, 0⟩ : N), rb (⟨0, 1, 0, 0, 0⟩ : N), rb (⟨0, 0, 1, 0, 0⟩ : N), rb (⟨0, 0, 0, 1, 0⟩ : N), rb (⟨-1, 0, 0, 0, 0⟩ : N), rb (⟨0, -1, 0, 0, 0⟩ : N)]) else k .normal [yl 7, .pointer (some ⟨6, 0, none⟩), v2, .pointer (some ⟨8, 0, none⟩), .int .i64 (5), v5, v6, .int .i64 (6), .bool true, .int .i64 (5), yl 7, .int .i64 (5), N.cv (⟨0, -1, 0, 0, 0⟩ : N), .pointer (some ⟨6, 4, none⟩), .int .i64 (0), N.v (⟨0, -1, 0, 0, 0⟩ : N), .bool true, .bool false, N.cv (⟨0, -1, 0, 0, 0⟩ : N), N.cv (⟨0, 0, -1, 0, 0⟩ : N), .int .i64 (6)] (hO M n x (⟨0, 0, -1, 0, 0⟩ : N) ++ [rb (⟨1, 0, 0, 0, 0⟩ : N), rb (⟨0, 1, 0, 0, 0⟩ : N), rb (⟨0, 0, 1, 0, 0⟩ : N), rb (⟨0, 0, 0, 1, 0⟩ : N), rb (⟨-1, 0, 0, 0, 0⟩ : N), rb (⟨0, -1, 0, 0, 0⟩ : N)]) := by kernel_rfl
theorem roundO6 {α : Type} (M : Int) (m : Nat) (n : Int) (x : N) (v2 v4 v5 v6 v8 v9 v10 v11 v12 v13 v14 v15 v16 v17 v18 v19 v20 : Value) (k : Kont α) :
    evCodeK Tryz.prog (orcL []) (Sg1 M) (m + 60) 3 BO [yl 7, .pointer (some ⟨6, 0, none⟩), v2, .pointer (some ⟨8, 0, none⟩), v4, v5, v6, .int .i64 (6), v8, v9, v10, v11, v12, v13, v14, v15, v16, v17, v18, v19, v20] (hO M n x (⟨0, 0, -1, 0, 0⟩ : N) ++ [rb (⟨1, 0, 0, 0, 0⟩ : N), rb (⟨0, 1, 0, 0, 0⟩ : N), rb (⟨0, 0, 1, 0, 0⟩ : N), rb (⟨0, 0, 0, 1, 0⟩ : N), rb (⟨-1, 0, 0, 0, 0⟩ : N), rb (⟨0, -1, 0, 0, 0⟩ : N)]) k =
    bif (6 : Int) == andE n then k .normal [yl 7, .pointer (some ⟨6, 0, none⟩), v2, .pointer (some ⟨8, 0, none⟩), .int .i64 (6), v5, v6, .int .i64 (7), .bool true, .int .i64 (6), yl 7, .int .i64 (6), N.cv (⟨0, 0, -1, 0, 0⟩ : N), .pointer (some ⟨6, 4, none⟩), .int .i64 (0), N.v (⟨0, 0, -1, 0, 0⟩ : N), .bool true, .bool false, N.cv (⟨0, 0, -1, 0, 0⟩ : N), N.cv (⟨0, 0, 0, -1, 0⟩ : N), .int .i64 (7)] (hO M n (⟨0, 0, -1, 0, 0⟩ : N) (⟨0, 0, 0, -1, 0⟩ : N) ++ [rb (⟨1, 0, 0, 0, 0⟩ : N), rb (⟨0, 1, 0, 0, 0⟩ : N), rb (⟨0, 0, 1, 0, 0⟩ : N), rb (⟨0, 0, 0, 1, 0⟩ : N), rb (⟨-1, 0, 0, 0, 0⟩ : N), rb (⟨0, -1, 0, 0, 0⟩ : N), rb (⟨0, 0, -1, 0, 0⟩ : N)]) else k .normal [yl 7, .pointer (some ⟨6, 0, none⟩), v2, .pointer (some ⟨8, 0, none⟩), .int .i64 (6), v5, v6, .int .i64 (7), .bool true, .int .i64 (6), yl 7, .int .i64 (6), N.cv (⟨0, 0, -1, 0, 0⟩ : N), .pointer (some ⟨6, 4, none⟩), .int .i64 (0), N.v (⟨0, 0, -1, 0, 0⟩ : N), .bool true, .bool false, N.cv (⟨0, 0, -1, 0, 0⟩ : N), N.cv (⟨0, 0, 0, -1, 0⟩ : N), .int .i64 (7)] (hO M n x (⟨0, 0, 0, -1, 0⟩ : N) ++ [rb (⟨1, 0, 0, 0, 0⟩ : N), rb (⟨0, 1, 0, 0, 0⟩ : N), rb (⟨0, 0, 1, 0, 0⟩ : N), rb (⟨0, 0, 0, 1, 0⟩ : N), rb (⟨-1, 0, 0, 0, 0⟩ : N), rb (⟨0, -1, 0, 0, 0⟩ : N), rb (⟨0, 0, -1, 0, 0⟩ : N)]) := by kernel_rfl
theorem roundO7 {α : Type} (M : Int) (m : Nat) (n : Int) (x : N) (v2 v4 v5 v6 v8 v9 v10 v11 v12 v13 v14 v15 v16 v17 v18 v19 v20 : Value) (k : Kont α) :
    evCodeK Tryz.prog (orcL []) (Sg1 M) (m + 60) 3 BO [yl 7, .pointer (some ⟨6, 0, none⟩), v2, .pointer (some ⟨8, 0, none⟩), v4, v5, v6, .int .i64 (7), v8, v9, v10, v11, v12, v13, v14, v15, v16, v17, v18, v19, v20] (hO M n x (⟨0, 0, 0, -1, 0⟩ : N) ++ [rb (⟨1, 0, 0, 0, 0⟩ : N), rb (⟨0, 1, 0, 0, 0⟩ : N), rb (⟨0, 0, 1, 0, 0⟩ : N), rb (⟨0, 0, 0, 1, 0⟩ : N), rb (⟨-1, 0, 0, 0, 0⟩ : N), rb (⟨0, -1, 0, 0, 0⟩ : N), rb (⟨0, 0, -1, 0, 0⟩ : N)]) k =
    bif (7 : Int) == andE n then k .normal [yl 7, .pointer (some ⟨6, 0, none⟩), v2, .pointer (some ⟨8, 0, none⟩), .int .i64 (7), v5, v6, .int .i64 (8), .bool true, .int .i64 (7), yl 7, .int .i64 (7), N.cv (⟨0, 0, 0, -1, 0⟩ : N), .pointer (some ⟨6, 4, none⟩), .int .i64 (0), N.v (⟨0, 0, 0, -1, 0⟩ : N), .bool true, .bool false, N.cv (⟨0, 0, 0, -1, 0⟩ : N), N.cv (⟨1, 0, 0, 0, 0⟩ : N), .int .i64 (8)] (hO M n (⟨0, 0, 0, -1, 0⟩ : N) (⟨1, 0, 0, 0, 0⟩ : N) ++ [rb (⟨1, 0, 0, 0, 0⟩ : N), rb (⟨0, 1, 0, 0, 0⟩ : N), rb (⟨0, 0, 1, 0, 0⟩ : N), rb (⟨0, 0, 0, 1, 0⟩ : N), rb (⟨-1, 0, 0, 0, 0⟩ : N), rb (⟨0, -1, 0, 0, 0⟩ : N), rb (⟨0, 0, -1, 0, 0⟩ : N), rb (⟨0, 0, 0, -1, 0⟩ : N)]) else k .normal [yl 7, .pointer (some ⟨6, 0, none⟩), v2, .pointer (some ⟨8, 0, none⟩), .int .i64 (7), v5, v6, .int .i64 (8), .bool true, .int .i64 (7), yl 7, .int .i64 (7), N.cv (⟨0, 0, 0, -1, 0⟩ : N), .pointer (some ⟨6, 4, none⟩), .int .i64 (0), N.v (⟨0, 0, 0, -1, 0⟩ : N), .bool true, .bool false, N.cv (⟨0, 0, 0, -1, 0⟩ : N), N.cv (⟨1, 0, 0, 0, 0⟩ : N), .int .i64 (8)] (hO M n x (⟨1, 0, 0, 0, 0⟩ : N) ++ [rb (⟨1, 0, 0, 0, 0⟩ : N), rb (⟨0, 1, 0, 0, 0⟩ : N), rb (⟨0, 0, 1, 0, 0⟩ : N), rb (⟨0, 0, 0, 1, 0⟩ : N), rb (⟨-1, 0, 0, 0, 0⟩ : N), rb (⟨0, -1, 0, 0, 0⟩ : N), rb (⟨0, 0, -1, 0, 0⟩ : N), rb (⟨0, 0, 0, -1, 0⟩ : N)]) := by kernel_rfl
theorem roundO8 {α : Type} (M : Int) (m : Nat) (n : Int) (x : N) (v2 v4 v5 v6 v8 v9 v10 v11 v12 v13 v14 v15 v16 v17 v18 v19 v20 : Value) (k : Kont α) :
    evCodeK Tryz.prog (orcL []) (Sg1 M) (m + 60) 3 BO [yl 7, .pointer (some ⟨6, 0, none⟩), v2, .pointer (some ⟨8, 0, none⟩), v4, v5, v6, .int .i64 (8), v8, v9, v10, v11, v12, v13, v14, v15, v16, v17, v18, v19, v20] (hO M n x (⟨1, 0, 0, 0, 0⟩ : N) ++ [rb (⟨1, 0, 0, 0, 0⟩ : N), rb (⟨0, 1, 0, 0, 0⟩ : N), rb (⟨0, 0, 1, 0, 0⟩ : N), rb (⟨0, 0, 0, 1, 0⟩ : N), rb (⟨-1, 0, 0, 0, 0⟩ : N), rb (⟨0, -1, 0, 0, 0⟩ : N), rb (⟨0, 0, -1, 0, 0⟩ : N), rb (⟨0, 0, 0, -1, 0⟩ : N)]) k = k (.exit 0) [yl 7, .pointer (some ⟨6, 0, none⟩), v2, .pointer (some ⟨8, 0, none⟩), v4, v5, v6, .int .i64 (8), .bool false, v9, v10, v11, v12, v13, v14, v15, v16, v17, v18, v19, v20] (hO M n x (⟨1, 0, 0, 0, 0⟩ : N) ++ [rb (⟨1, 0, 0, 0, 0⟩ : N), rb (⟨0, 1, 0, 0, 0⟩ : N), rb (⟨0, 0, 1, 0, 0⟩ : N), rb (⟨0, 0, 0, 1, 0⟩ : N), rb (⟨-1, 0, 0, 0, 0⟩ : N), rb (⟨0, -1, 0, 0, 0⟩ : N), rb (⟨0, 0, -1, 0, 0⟩ : N), rb (⟨0, 0, 0, -1, 0⟩ : N)]) := by kernel_rfl
theorem pushO {α : Type} (c : Bool) (M n : Int) (a x b : N) (T : List Value) (J : List Blk) (k : Kont α) : (bif c then k .normal T (hO M n a b ++ J) else k .normal T (hO M n x b ++ J)) = k .normal T (hO M n (bif c then a else x) b ++ J) := by cases c <;> rfl
def xo (n : Int) : N := (bif (7 : Int) == andE n then (⟨0, 0, 0, -1, 0⟩ : N) else (bif (6 : Int) == andE n then (⟨0, 0, -1, 0, 0⟩ : N) else (bif (5 : Int) == andE n then (⟨0, -1, 0, 0, 0⟩ : N) else (bif (4 : Int) == andE n then (⟨-1, 0, 0, 0, 0⟩ : N) else (bif (3 : Int) == andE n then (⟨0, 0, 0, 1, 0⟩ : N) else (bif (2 : Int) == andE n then (⟨0, 0, 1, 0, 0⟩ : N) else (bif (1 : Int) == andE n then (⟨0, 1, 0, 0, 0⟩ : N) else (bif (0 : Int) == andE n then (⟨1, 0, 0, 0, 0⟩ : N) else O))))))))
theorem tmpsG (a b : Value) : tmps0Of Tryz.prog 91 [a, b] = a :: b :: List.replicate 19 undef := by kernel_rfl
theorem outG (T : List Value) (S : List Blk) : outOf Tryz.prog 91 T S = some (.tuple #[]) := by kernel_rfl
theorem evG (M n : Int) : EvM Tryz.prog (orcL []) (Sg1 M) Value 3 91 [yl 7, .pointer (some ⟨6, 0, none⟩)] ((hO M n O om0).take 8) fun _ S2 => S2 = (hO M n (xo n) (⟨1, 0, 0, 0, 0⟩ : N) ++ [rb (⟨1, 0, 0, 0, 0⟩ : N), rb (⟨0, 1, 0, 0, 0⟩ : N), rb (⟨0, 0, 1, 0, 0⟩ : N), rb (⟨0, 0, 0, 1, 0⟩ : N), rb (⟨-1, 0, 0, 0, 0⟩ : N), rb (⟨0, -1, 0, 0, 0⟩ : N), rb (⟨0, 0, -1, 0, 0⟩ : N), rb (⟨0, 0, 0, -1, 0⟩ : N)]) := by
  refine EvM.of_body ?_
  rw [tmpsG]
  refine Ev.of_pieces ?_
  rw [show flatC (bodyOf Tryz.prog 91) = _ from LG_eq]
  refine EvP.run (fun fs k => headG M fs n _ k) ?_
  refine EvP.step (Ev.block ?_)
  show Ev _ _ _ _ _ (.loop BO) _ _ _
  refine Ev.unroll (Ev.of_eq 60 (fun s k => (roundO0 M s n _ _ _ _ _ _ _ _ _ _ _ _ _ _ _ _ _ _ k).trans (pushO _ _ _ _ _ _ _ _ k)) ?_)
  show Ev _ _ _ _ _ (.loop BO) _ _ _
  refine Ev.unroll (Ev.of_eq 60 (fun s k => (roundO1 M s n _ _ _ _ _ _ _ _ _ _ _ _ _ _ _ _ _ _ k).trans (pushO _ _ _ _ _ _ _ _ k)) ?_)
  show Ev _ _ _ _ _ (.loop BO) _ _ _
  refine Ev.unroll (Ev.of_eq 60 (fun s k => (roundO2 M s n _ _ _ _ _ _ _ _ _ _ _ _ _ _ _ _ _ _ k).trans (pushO _ _ _ _ _ _ _ _ k)) ?_)
  show Ev _ _ _ _ _ (.loop BO) _ _ _
  refine Ev.unroll (Ev.of_eq 60 (fun s k => (roundO3 M s n _ _ _ _ _ _ _ _ _ _ _ _ _ _ _ _ _ _ k).trans (pushO _ _ _ _ _ _ _ _ k)) ?_)
  show Ev _ _ _ _ _ (.loop BO) _ _ _
  refine Ev.unroll (Ev.of_eq 60 (fun s k => (roundO4 M s n _ _ _ _ _ _ _ _ _ _ _ _ _ _ _ _ _ _ k).trans (pushO _ _ _ _ _ _ _ _ k)) ?_)
  show Ev _ _ _ _ _ (.loop BO) _ _ _
  refine Ev.unroll (Ev.of_eq 60 (fun s k => (roundO5 M s n _ _ _ _ _ _ _ _ _ _ _ _ _ _ _ _ _ _ k).trans (pushO _ _ _ _ _ _ _ _ k)) ?_)
  show Ev _ _ _ _ _ (.loop BO) _ _ _
  refine Ev.unroll (Ev.of_eq 60 (fun s k => (roundO6 M s n _ _ _ _ _ _ _ _ _ _ _ _ _ _ _ _ _ _ k).trans (pushO _ _ _ _ _ _ _ _ k)) ?_)
  show Ev _ _ _ _ _ (.loop BO) _ _ _
  refine Ev.unroll (Ev.of_eq 60 (fun s k => (roundO7 M s n _ _ _ _ _ _ _ _ _ _ _ _ _ _ _ _ _ _ k).trans (pushO _ _ _ _ _ _ _ _ k)) ?_)
  show Ev _ _ _ _ _ (.loop BO) _ _ _
  refine Ev.unroll (Ev.of_eq 60 (fun s k => roundO8 M s n _ _ _ _ _ _ _ _ _ _ _ _ _ _ _ _ _ _ k) ?_)
  exact EvP.nil ⟨trivial, _, outG _ _, rfl⟩
theorem tailO {α : Type} (M : Int) (fs : Nat → Nat) (n : Int) (x : N) (b6 b7 b8 b9 b10 b11 b12 b13 b14 b15 b16 : Blk) (k : Kont α) :
    evP Tryz.prog (orcL []) (Sg1 M) 3 fs 4 [qP 4, qP 5] (TO n) [uni, pow, mxl M, ib n, rb O, rb x, b6, b7, b8, b9, b10, b11, b12, b13, b14, b15, b16] k = k .ret [.int .i64 (n), .pointer (some ⟨3, 0, none⟩), .pointer (some ⟨4, 0, none⟩), .pointer (some ⟨5, 0, none⟩), undef, undef, N.v om0, (.func (.func 91) #[] #[.pointer (some ⟨6, 0, none⟩)]), undef, undef, undef, undef, undef, undef, undef, N.v x] [uni, pow, mxl M, ib n, rb x, rb x, b6, b7, b8, b9, b10, b11, b12, b13, b14, b15, b16] := by kernel_rfl
theorem tmpsO (n : Int) : tmps0Of Tryz.prog 29 [.int .i64 n] = .int .i64 n :: List.replicate 15 undef := by kernel_rfl
theorem outO (x : N) (a0 a1 : Value) (L : List Value) (b0 b1 b2 b3 : Blk) (R : List Blk) : outOf Tryz.prog 29 (a0 :: a1 :: .pointer (some ⟨4, 0, none⟩) :: L) (b0 :: b1 :: b2 :: b3 :: rb x :: R) = some (N.v x) := by kernel_rfl
theorem opdO (n : Int) : opd 3 (TO n) (rangeOf Tryz.prog 29 0).1 = some (.func (.func 91) #[] #[.pointer (some ⟨6, 0, none⟩)]) := by kernel_rfl
theorem calO : callee Tryz.prog (.func (.func 91) #[] #[.pointer (some ⟨6, 0, none⟩)]) [.func (.yield 7) #[] #[]] = some (.call 91 [yl 7, .pointer (some ⟨6, 0, none⟩)]) := by kernel_rfl
theorem loopAtO (M n : Int) (x c : N) (J : List Blk) : loopAt (hO M n x c ++ J) 7 = some ⟨.ready, none, TO n, (rangeOf Tryz.prog 29 0).2.1, (rangeOf Tryz.prog 29 0).2.2.1, (rangeOf Tryz.prog 29 0).2.2.2⟩ := rfl
theorem eO (M n : Int) : EvF Tryz.prog (orcL []) (Sg1 M) 29 [.int .i64 n] (N.v (xo n)) := by
  refine EvF.of_body rfl ?_
  rw [tmpsO]
  show Ev Tryz.prog (orcL []) (Sg1 M) Value 3 _ _ _ _
  refine Ev.of_pieces ?_
  rw [show flatC (bodyOf Tryz.prog 29) = _ from LO_eq]
  refine EvP.run (fun fs k => headO M fs n _ k) ?_
  refine EvP.step (Ev.block ?_)
  refine Ev.range (show 3 ≤ 7 by decide) (opdO n) calO ((evG M n).mono ?_)
  rintro v S2 rfl
  refine ⟨_, loopAtO M n _ _ _, rfl, rfl, ?_⟩
  exact EvP.stop (fun fs k => tailO M fs n (xo n) _ _ _ _ _ _ _ _ _ _ _ k) ⟨trivial, outO _ _ _ _ _ _ _ _ _⟩
theorem andE_eq (n : Int) : andE n = n % 8 := by
  have h : (BitVec.ofInt 64 n &&& BitVec.ofInt 64 7).toNat = (n % 18446744073709551616).toNat % 8 := by
    rw [BitVec.toNat_and, BitVec.toNat_ofInt]
    exact Nat.and_two_pow_sub_one_eq_mod _ 3
  unfold andE
  rw [h, show IntKind.i64.wrap (((n % 18446744073709551616).toNat % 8 : Nat) : Int) = (((n % 18446744073709551616).toNat % 8 : Nat) : Int) from w_eq _ (by omega) (by omega)]
  omega
end Go.Proofs.YtihccnfaibiiiaaGreatDoor.R
/- Ring: the program's Real, and the sign of a real number. -/
namespace Go.Proofs.YtihccnfaibiiiaaGreatDoor.R
open Go Go.Proofs.XX.Vm Go.Proofs.XX.Rm Go.RowKit
set_option maxRecDepth 100000

theorem N.nf_ups_self {x : N} (h : 0 ≤ x.k) : x.nf.ups (x.k - x.nf.k).toNat = x := by
  cases hz : x.zero with
  | true =>
    rw [N.nf_of_zero hz, N.ups_zero (x := O) rfl]
    simp only [N.zero, Bool.and_eq_true, beq_iff_eq] at hz
    obtain ⟨⟨⟨z1, z2⟩, z3⟩, z4⟩ := hz
    ext
    · exact z1.symm
    · exact z2.symm
    · exact z3.symm
    · exact z4.symm
    · show (0 : Int) + ((x.k - 0).toNat : Nat) = x.k; omega
  | false =>
    have e : x.nf = x.nfL x.k.toNat := by unfold N.nf; rw [hz]; rfl
    rw [e]
    obtain ⟨m, h1, h2, h3⟩ := N.nfL_ups x x.k.toNat h
    rw [show (x.k - (x.nfL x.k.toNat).k).toNat = m by omega]
    exact h1
theorem N.nf_inj {x y : N} (h : 0 ≤ x.k) (hk : x.k = y.k) (e : x.nf = y.nf) : x = y := by
  rw [← N.nf_ups_self h, ← N.nf_ups_self (x := y) (by omega), e, hk]
theorem eqN_nf {x y : N} (h : 0 ≤ x.k) (hk : x.k = y.k) : eqN x.nf y.nf = eqN x y := by
  rw [Bool.eq_iff_iff, eqN_iff, eqN_iff]
  exact ⟨fun e => N.nf_inj h hk e, fun e => by rw [e]⟩
/-- Real. -/
def realB (x : N) : Bool := eqN x x.conj
def realW (x : N) : Bool := (x.a == x.a) && ((x.b == w (0 - x.d)) && ((x.c == w (0 - x.c)) && ((x.d == w (0 - x.b)) && true)))
theorem realW_eq {x : N} (h : okB x = true) : realW x = realB x := by
  have e : realW x = eqN x (conjW x) := by
    unfold realW eqN conjW
    cases (x.a == x.a) <;> cases (x.b == w (0 - x.d)) <;> cases (x.c == w (0 - x.c)) <;> cases (x.d == w (0 - x.b)) <;> simp
  rw [e, conjW_eq h]; rfl
def badB (n : Int) : OT := .val (resB (false, n))
def realT (x : N) : OT := okT x (.val (resB (realB x, 0))) badB
theorem tReal (M : Int) (m : Nat) (x : N) : runK Tryz.prog (orcL [cChk]) (Sg1 M) (m + 60) 34 [N.v x] =
    bif3 x (some (resB (realW x, 0))) fun n => some (resB (false, n)) := by kernel_rfl
theorem LK_ok (M : Int) : ∀ c ∈ [cChk], ConOk M c := mem_cons_ok (cChk_ok M) nil_ok
theorem cReal_ok (M : Int) : ConOk M (con1 34 realT) := con1_ok (LK_ok M) fun x v h => by
  refine EvF.of_eq 60 fun m => get_some h ?_
  rw [tReal]
  unfold realT badB
  rw [okT_get]
  exact bif3_ext (fun hx => by rw [realW_eq hx]; rfl) fun n => rfl
/-- The sign of a real number. -/
def sgn2 (n : Int) : Int := bif decide (n < 0) then -(n * n) else n * n
def negB (x : N) : Bool := decide (sgn2 x.a + 2 * sgn2 x.b < 0)
theorem tNgP (M : Int) (m : Nat) (x : N) : runK Tryz.prog (orcL []) (Sg1 M) (m + 60) 71 [N.v x] =
    bif decide (x.a < 0) then (bif decide (x.b < 0) then some (.bool (decide (w (w (w (0 - x.a) * x.a) + w (2 * w (w (0 - x.b) * x.b))) < 0))) else some (.bool (decide (w (w (w (0 - x.a) * x.a) + w (2 * w (x.b * x.b))) < 0))))
    else (bif decide (x.b < 0) then some (.bool (decide (w (w (x.a * x.a) + w (2 * w (w (0 - x.b) * x.b))) < 0))) else some (.bool (decide (w (w (x.a * x.a) + w (2 * w (x.b * x.b))) < 0)))) := by kernel_rfl
theorem sq_in {a : Int} (h1 : -1073741824 ≤ a) (h2 : a ≤ 1073741824) : 0 ≤ a * a ∧ a * a ≤ 1152921504606846976 := by
  have := bd_mul h1 h2 h1 h2
  exact ⟨sq_nonneg a, by omega⟩
theorem nsq {a : Int} (h1 : -1073741824 ≤ a) (h2 : a ≤ 1073741824) : w (w (0 - a) * a) = -(a * a) := by
  have := sq_in h1 h2
  rw [w_eq (0 - a) (by omega) (by omega), Int.zero_sub, Int.neg_mul]
  exact w_eq _ (by omega) (by omega)
theorem psq {a : Int} (h1 : -1073741824 ≤ a) (h2 : a ≤ 1073741824) : w (a * a) = a * a := by
  have := sq_in h1 h2
  exact w_eq _ (by omega) (by omega)
def cNgP : Con := con1 71 fun x => okV x (.bool (negB x))
theorem cNgP_ok (M : Int) : ConOk M cNgP := con1_ok nil_ok fun x v h => by
  obtain ⟨h0, rfl⟩ := okV_get h
  obtain ⟨-, -, a1, a2, b1, b2, -⟩ := (okB_iff x).1 h0
  have qa := sq_in a1 a2
  have qb := sq_in b1 b2
  refine EvF.of_eq 60 fun m => ?_
  rw [tNgP, nsq a1 a2, nsq b1 b2, psq a1 a2, psq b1 b2]
  have e1 : w (2 * -(x.b * x.b)) = 2 * -(x.b * x.b) := w_eq _ (by omega) (by omega)
  have e2 : w (2 * (x.b * x.b)) = 2 * (x.b * x.b) := w_eq _ (by omega) (by omega)
  rw [e1, e2, w_eq (-(x.a * x.a) + 2 * -(x.b * x.b)) (by omega) (by omega), w_eq (-(x.a * x.a) + 2 * (x.b * x.b)) (by omega) (by omega), w_eq (x.a * x.a + 2 * -(x.b * x.b)) (by omega) (by omega), w_eq (x.a * x.a + 2 * (x.b * x.b)) (by omega) (by omega)]
  unfold negB sgn2
  cases decide (x.a < 0) <;> cases decide (x.b < 0) <;> rfl
end Go.Proofs.YtihccnfaibiiiaaGreatDoor.R
/- Ring: numbers turned by eighths, and what Phase gives, as plain mathematics. -/
namespace Go.Proofs.YtihccnfaibiiiaaGreatDoor.R
open Go Go.Proofs.XX.Vm Go.Proofs.XX.Rm Go.RowKit
set_option maxRecDepth 100000

def resP (r : Int × Int) : Value := .tuple #[.int .i64 r.1, .int .i64 r.2]
/-- Turned by an eighth. -/
def trE (z : N) : N := ⟨-z.d, z.a, z.b, z.c, z.k⟩
def trEs : Nat → N → N
  | 0, z => z
  | m + 1, z => trE (trEs m z)
theorem okB_trE {z : N} (h : okB z = true) : okB (trE z) = true := by
  obtain ⟨k1, k2, a1, a2, b1, b2, c1, c2, d1, d2⟩ := (okB_iff z).1 h
  refine (okB_iff _).2 ⟨k1, k2, ?_⟩
  constructor <;> simp only [trE] <;> omega
theorem okB_trEs {z : N} (h : okB z = true) : ∀ m, okB (trEs m z) = true
  | 0 => h
  | m + 1 => okB_trE (okB_trEs h m)
def phF (x y : N) : Nat → Nat → Int × Int
  | 0, _ => (0, 6)
  | m + 1, j => bif eqN x.nf (trEs j y).nf then ((j : Int), 0) else phF x y m (j + 1)
def phaS (x y : N) : Int × Int := phF x y 8 0
def badP (n : Int) : OT := .val (resP (0, n))
def phaT (x y : N) : OT := okT x (okT y (.val (resP (phaS x y))) badP) badP
theorem trE_even (z : N) : (trE z).even = z.even := by
  rw [Bool.eq_iff_iff, N.even_iff, N.even_iff]; simp only [trE]; omega
theorem trE_goes (z : N) : (trE z).goes = z.goes := by
  unfold N.goes; rw [trE_even]; rfl
theorem trE_zero (z : N) : (trE z).zero = z.zero := by
  rw [Bool.eq_iff_iff]; simp only [N.zero, trE, Bool.and_eq_true, beq_iff_eq]; omega
theorem trE_dn {z : N} (h : z.even = true) : (trE z).dn = trE z.dn := by
  rw [N.even_iff] at h
  ext <;> simp only [trE, N.dn] <;> omega
theorem trE_nfL : ∀ (n : Nat) (z : N), (trE z).nfL n = trE (z.nfL n)
  | 0, z => rfl
  | n + 1, z => by
    simp only [N.nfL]
    rw [trE_goes]
    cases hg : z.goes with
    | false => rfl
    | true =>
      rw [cond_true, cond_true, trE_dn ((N.goes_iff z).1 hg).2]
      exact trE_nfL n z.dn
theorem trE_nf (z : N) : (trE z).nf = trE z.nf := by
  unfold N.nf
  rw [trE_zero]
  cases z.zero with
  | true => rfl
  | false => exact trE_nfL z.k.toNat z
theorem trEs_nf (z : N) : ∀ m, (trEs m z).nf = trEs m z.nf
  | 0 => rfl
  | m + 1 => by simp only [trEs]; rw [trE_nf, trEs_nf z m]
def phS (x y : N) : Int × Int := bif3 x (bif3 y (phaS x y) fun n => (0, n)) fun n => (0, n)
theorem phS_get (x y : N) : (phaT x y).get = some (resP (phS x y)) := by
  unfold phaT phS badP; simp only [okT_get, OT.get]; unfold bif3
  cases rgB x <;> cases inB x <;> cases rgB y <;> cases inB y <;> rfl
end Go.Proofs.YtihccnfaibiiiaaGreatDoor.R
