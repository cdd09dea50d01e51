/- Ring: the specification's least form, whole. -/
import Derived.Test.YtihccnfaibiiiaaDoorC1
namespace Go.Proofs.YtihccnfaibiiiaaDoor.R
open Go Go.Proofs.XX.Vm Go.Proofs.XX.Rm Go.RowKit
set_option maxRecDepth 100000

abbrev LR : List Con := [cEvn, cHlv, cZer]
theorem LR_ok (M : Int) : ∀ c ∈ LR, ConOk M c := mem_cons_ok (cEvn_ok M) (mem_cons_ok (cHlv_ok M) (mem_cons_ok (cZer_ok M) nil_ok))
noncomputable abbrev q43 (i : Nat) : Code := nthC (pcs Tryd.prog 43) i
noncomputable abbrev B43 : Code := loopOf Tryd.prog 43 0
theorem L43_eq : pcs Tryd.prog 43 = [q43 0, q43 1, q43 2, .block 0 (.loop B43), q43 4, q43 5] := by kernel_rfl
theorem head43 {α : Type} (M : Int) (fs : Nat → Nat) (x : N) (l : List Code) (k : Kont α) :
    evP Tryd.prog (orcL LR) (Sg1 M) 3 fs 0 (q43 0 :: q43 1 :: q43 2 :: l) (N.v x :: List.replicate 19 undef) (Sg1 M) k =
    bif x.zero then k .ret [N.v x, p1, p2, N.v x, .bool true, N.v O, undef, undef, undef, undef, undef, undef, undef, undef, undef, undef, undef, undef, undef, undef] [uni, pow, mxl M, rb x, rb O]
    else evP Tryd.prog (orcL LR) (Sg1 M) 3 fs 3 l [N.v x, p1, p2, N.v x, .bool false, undef, undef, undef, undef, undef, undef, undef, undef, undef, undef, undef, undef, undef, undef, undef] [uni, pow, mxl M, rb x, rb O] k := by kernel_rfl
theorem round43 {α : Type} (M : Int) (n : Nat) (x y : N) (R : Blk) (v3 v4 v5 v6 v7 v8 v9 v10 v11 v12 v13 v14 v15 v16 v17 v18 v19 : Value) (k : Kont α) :
    evCodeK Tryd.prog (orcL LR) (Sg1 M) (n + 60) 3 B43 [N.v x, p1, p2, v3, v4, v5, v6, v7, v8, v9, v10, v11, v12, v13, v14, v15, v16, v17, v18, v19] [uni, pow, mxl M, rb y, R] k =
    bif decide (y.k > 0) then (bif evR y then k .normal [N.v x, p1, p2, v3, v4, v5, p14, (.int .i64 y.k), (.bool (decide (y.k > 0))), (.bool true), (N.v y), (.bool (evR y)), (.bool true), (N.v y), (N.v (hfR y)), p14, (.int .i64 y.k), (.int .i64 (w (y.k - 1))), p14, v19] [uni, pow, mxl M, rb (dnR y), R] else k (.exit 0) [N.v x, p1, p2, v3, v4, v5, p14, (.int .i64 y.k), (.bool (decide (y.k > 0))), (.bool true), (N.v y), (.bool (evR y)), (.bool false), v13, v14, v15, v16, v17, v18, v19] [uni, pow, mxl M, rb y, R])
    else k (.exit 0) [N.v x, p1, p2, v3, v4, v5, p14, (.int .i64 y.k), (.bool (decide (y.k > 0))), (.bool false), undef, undef, (.bool false), v13, v14, v15, v16, v17, v18, v19] [uni, pow, mxl M, rb y, R] := by kernel_rfl
theorem tail43 {α : Type} (M : Int) (fs : Nat → Nat) (x y R : N) (v3 v4 v5 v6 v7 v8 v9 v10 v11 v12 v13 v14 v15 v16 v17 v18 v19 : Value) (k : Kont α) :
    evP Tryd.prog (orcL LR) (Sg1 M) 3 fs 4 [q43 4, q43 5] [N.v x, p1, p2, v3, v4, v5, v6, v7, v8, v9, v10, v11, v12, v13, v14, v15, v16, v17, v18, v19] [uni, pow, mxl M, rb y, rb R] k =
    k .ret [N.v x, p1, p2, v3, v4, v5, v6, v7, v8, v9, v10, v11, v12, v13, v14, v15, v16, v17, v18, (N.v y)] [uni, pow, mxl M, rb y, rb y] := by kernel_rfl
def symN (x : N) : Bool := symB x.a && symB x.b && symB x.c && symB x.d && decide (x.k ≤ 9223372036854775807)
theorem symN_iff {x : N} (h : symN x = true) : x.In 9223372036854775807 ∧ x.k ≤ 9223372036854775807 := by
  simp only [symN, Bool.and_eq_true, decide_eq_true_eq] at h
  obtain ⟨⟨⟨⟨h1, h2⟩, h3⟩, h4⟩, h5⟩ := h
  have a := symB_iff h1; have b := symB_iff h2; have c := symB_iff h3; have d := symB_iff h4
  exact ⟨⟨by omega, a.2, by omega, b.2, by omega, c.2, by omega, d.2⟩, h5⟩
theorem loop43 (M : Int) (x : N) (h1 : x.In 9223372036854775807) (h2 : x.k ≤ 9223372036854775807) (L : List Value) (hL : L.length = 17) :
    Ev Tryd.prog (orcL LR) (Sg1 M) Value 3 (.loop B43) (N.v x :: p1 :: p2 :: L) [uni, pow, mxl M, rb x, rb O] fun e T S => e = .exit 0 ∧ (∃ L : List Value, L.length = 17 ∧ T = N.v x :: p1 :: p2 :: L) ∧ S = [uni, pow, mxl M, rb (x.nfL x.k.toNat), rb O] := by
  refine Ev.loop (fun m T S => ∃ (L : List Value) (y : N), L.length = 17 ∧ T = N.v x :: p1 :: p2 :: L ∧ S = [uni, pow, mxl M, rb y, rb O] ∧ m = y.k.toNat ∧ y.nfL m = x.nfL x.k.toNat ∧ y.In 9223372036854775807 ∧ y.k ≤ 9223372036854775807) ?_ x.k.toNat _ _ ⟨L, x, hL, rfl, rfl, rfl, rfl, h1, h2⟩
  rintro m T S ⟨L, y, hL, rfl, rfl, rfl, hm, h1, h2⟩
  match L, hL with
  | [v3, v4, v5, v6, v7, v8, v9, v10, v11, v12, v13, v14, v15, v16, v17, v18, v19], _ =>
  by_cases hk : y.k > 0
  · obtain ⟨n, hn⟩ : ∃ n, y.k.toNat = n + 1 := ⟨y.k.toNat - 1, by omega⟩
    rw [hn] at hm ⊢
    cases he : y.even with
    | true =>
      have hg : y.goes = true := by rw [N.goes_iff]; exact ⟨hk, he⟩
      simp only [N.nfL, hg, cond_true] at hm
      have hd := dnR_eq h1 he (by omega) h2
      refine Ev.of_eq 60 (fun n k => (round43 M n x y _ v3 v4 v5 v6 v7 v8 v9 v10 v11 v12 v13 v14 v15 v16 v17 v18 v19 k).trans ((condT (decide_eq_true hk)).trans (condT (by rw [evR_eq, he])))) ?_
      refine ⟨n, Nat.lt_succ_self n, _, y.dn, rfl, rfl, by rw [hd], ?_, hm, h1.dn', ?_⟩
      · simp only [N.dn]; omega
      · simp only [N.dn]; omega
    | false =>
      have hg : y.goes = false := by rw [Bool.eq_false_iff, ne_eq, N.goes_iff, he]; simp
      rw [N.nfL_stop hg] at hm
      refine Ev.of_eq 60 (fun n k => (round43 M n x y _ v3 v4 v5 v6 v7 v8 v9 v10 v11 v12 v13 v14 v15 v16 v17 v18 v19 k).trans ((condT (decide_eq_true hk)).trans (condF (by rw [evR_eq, he])))) ?_
      exact ⟨rfl, ⟨_, rfl, rfl⟩, by rw [hm]⟩
  · have hg : y.goes = false := by rw [Bool.eq_false_iff, ne_eq, N.goes_iff]; omega
    rw [N.nfL_stop hg] at hm
    refine Ev.of_eq 60 (fun n k => (round43 M n x y _ v3 v4 v5 v6 v7 v8 v9 v10 v11 v12 v13 v14 v15 v16 v17 v18 v19 k).trans (condF (decide_eq_false hk))) ?_
    exact ⟨rfl, ⟨_, rfl, rfl⟩, by rw [hm]⟩
theorem tmps43 (x : N) : tmps0Of Tryd.prog 43 [N.v x] = N.v x :: List.replicate 19 undef := by kernel_rfl
theorem out43 (x y : N) (L : List Value) (b0 b1 b2 b3 : Blk) : outOf Tryd.prog 43 (N.v x :: p1 :: p2 :: L) [b0, b1, b2, b3, rb y] = some (N.v y) := by kernel_rfl
theorem e43 (M : Int) (x : N) (h : symN x = true) : EvF Tryd.prog (orcL LR) (Sg1 M) 43 [N.v x] (N.v x.nf) := by
  obtain ⟨h1, h2⟩ := symN_iff h
  refine EvF.of_body rfl ?_
  rw [tmps43]
  show Ev Tryd.prog (orcL LR) (Sg1 M) Value 3 _ _ _ _
  refine Ev.of_pieces ?_
  rw [show flatC (bodyOf Tryd.prog 43) = _ from L43_eq]
  cases hz : x.zero with
  | true =>
    refine EvP.stop (fun fs k => (head43 M fs x _ k).trans (condT hz)) ⟨trivial, ?_⟩
    rw [N.nf_of_zero hz]
    exact out43 x O _ _ _ _ _
  | false =>
    refine EvP.run (fun fs k => (head43 M fs x _ k).trans (condF hz)) ?_
    refine EvP.step (Ev.block ((loop43 M x h1 h2 _ rfl).mono ?_))
    rintro e T S ⟨rfl, ⟨L, hL, rfl⟩, rfl⟩
    match L, hL with
    | [v3, v4, v5, v6, v7, v8, v9, v10, v11, v12, v13, v14, v15, v16, v17, v18, v19], _ =>
    refine EvP.stop (fun fs k => tail43 M fs x _ _ v3 v4 v5 v6 v7 v8 v9 v10 v11 v12 v13 v14 v15 v16 v17 v18 v19 k) ⟨trivial, ?_⟩
    have e : x.nf = x.nfL x.k.toNat := by unfold N.nf; rw [hz]; rfl
    rw [e]
    exact out43 x _ _ _ _ _ _
def cFrm : Con := con1 43 fun x => .ite (symN x) (.val (N.v x.nf)) .no
theorem cFrm_ok (M : Int) : ConOk M cFrm := con1_ok (LR_ok M) fun x v h => by
  obtain ⟨h2, rfl⟩ := OT.pre h
  exact e43 M x h2
end Go.Proofs.YtihccnfaibiiiaaDoor.R
