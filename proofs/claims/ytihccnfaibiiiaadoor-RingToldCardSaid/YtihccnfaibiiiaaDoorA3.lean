/- Ring: the least form, whole. -/
import Derived.Test.YtihccnfaibiiiaaDoorA2
namespace Go.Proofs.YtihccnfaibiiiaaDoor.R
open Go Go.Proofs.XX.Vm Go.Proofs.XX.Rm
set_option maxRecDepth 100000
theorem condT {α : Type} {b : Bool} {x y : α} (h : b = true) : (bif b then x else y) = x := by subst h; rfl
theorem condF {α : Type} {b : Bool} {x y : α} (h : b = false) : (bif b then x else y) = y := by subst h; rfl

theorem e46 (M : Int) (x : N) (h1 : -9223372036854775808 ≤ x.k) (h2 : x.k ≤ 9223372036854775807) : EvF Tryd.prog (orcL L1) (Sg1 M) 46 [N.v x] (resV (leastW x)) := by
  refine EvF.of_body rfl ?_
  rw [tmps46]
  show Ev Tryd.prog (orcL L1) (Sg1 M) Value 3 _ _ _ _
  refine Ev.of_pieces ?_
  rw [show flatC (bodyOf Tryd.prog 46) = _ from L46_eq]
  cases hz : z0 x with
  | true =>
    refine EvP.stop (fun fs k => (head46 M fs x _ k).trans (condT hz)) ⟨trivial, ?_⟩
    unfold leastW
    rw [hz]
    exact out46 x O 0 _ _ _ _ _
  | false =>
    refine EvP.run (fun fs k => (head46 M fs x _ k).trans (condF hz)) ?_
    refine EvP.step (Ev.block ((loop1 M x h1 h2 _ rfl).mono ?_))
    rintro e T S ⟨rfl, ⟨L, hL, rfl⟩, rfl, h3, h4⟩
    match L, hL with
    | [v4, v5, v6, v7, v8, v9, v10, v11, v12, v13, v14, v15, v16, v17, v18, v19, v20, v21, v22, v23, v24, v25, v26, v27, v28, v29, v30, v31], _ =>
    refine EvP.run (fun fs k => mid46 M fs x _ _ v4 v5 v6 v7 v8 v9 v10 v11 v12 v13 v14 v15 v16 v17 v18 v19 v20 v21 v22 v23 v24 v25 v26 v27 v28 v29 v30 v31 _ k) ?_
    refine EvP.step (Ev.block ((loop2 M x (midW x) h4 _ rfl).mono ?_))
    rintro e T S ⟨rfl, ⟨L, hL, rfl⟩, rfl⟩
    match L, hL with
    | [v5, v6, v7, v8, v9, v10, v11, v12, v13, v14, v15, v16, v17, v18, v19, v20, v21, v22, v23, v24, v25, v26, v27, v28, v29, v30, v31], _ =>
    have hl : leastW x = bif rgB (endW x) then (bif inB (endW x) then (endW x, 0) else (O, 8)) else (O, 8) := by unfold leastW; rw [hz]; rfl
    cases h1 : rgB (endW x) with
    | false =>
      refine EvP.stop (fun fs k => (tail46 M fs x _ _ v5 v6 v7 v8 v9 v10 v11 v12 v13 v14 v15 v16 v17 v18 v19 v20 v21 v22 v23 v24 v25 v26 v27 v28 v29 v30 v31 k).trans (condF h1)) ⟨trivial, ?_⟩
      rw [hl, h1]
      exact out46 x O 8 _ _ _ _ _
    | true =>
      cases h2 : inB (endW x) with
      | false =>
        refine EvP.stop (fun fs k => (tail46 M fs x _ _ v5 v6 v7 v8 v9 v10 v11 v12 v13 v14 v15 v16 v17 v18 v19 v20 v21 v22 v23 v24 v25 v26 v27 v28 v29 v30 v31 k).trans ((condT h1).trans (condF h2))) ⟨trivial, ?_⟩
        rw [hl, h1, h2]
        exact out46 x O 8 _ _ _ _ _
      | true =>
        refine EvP.stop (fun fs k => (tail46 M fs x _ _ v5 v6 v7 v8 v9 v10 v11 v12 v13 v14 v15 v16 v17 v18 v19 v20 v21 v22 v23 v24 v25 v26 v27 v28 v29 v30 v31 k).trans ((condT h1).trans (condT h2))) ⟨trivial, ?_⟩
        rw [hl, h1, h2]
        exact out46 x (endW x) 0 _ _ _ _ _
end Go.Proofs.YtihccnfaibiiiaaDoor.R
