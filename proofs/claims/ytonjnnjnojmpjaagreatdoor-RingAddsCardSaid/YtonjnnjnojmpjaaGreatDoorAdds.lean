/- Ring: RingAdds: the call returns true for every two numbers, and changes nothing. No condition. -/
import Derived.Test.YtonjnnjnojmpjaaGreatDoorK0
import Derived.Test.YtonjnnjnojmpjaaGreatDoorE2
namespace Go.Proofs.YtonjnnjnojmpjaaGreatDoor
open Go Go.Proofs.XX.Vm Go.Proofs.XX.Rm Go.RowKit Go.ChangeShapes Go.WideShapes Go.ChangeAt Go.Joins Go.Deep Go.Proofs.YtonjnnjnojmpjaaGreatDoor.R
set_option maxRecDepth 100000
namespace ringAdds
theorem tree (M : Int) (m : Nat) (x y : N) : runK Tryz.prog (orcL LAdds) (Sg1 M) (m + 60) 3 [N.v x, N.v y] =
    bif (twoS x y (x.sum y)).2 == (twoS x y (x.sum y)).2 then (bif (twoS x y (x.sum y.neg)).2 == (twoS x y (x.sum y.neg)).2 then (bif (twoS x y (x.mul y)).2 == (twoS x y (x.mul y)).2 then (bif eqN (twoS x y (x.sum y)).1 (twoS x y (x.sum y)).1 then (bif eqN (twoS x y (x.sum y.neg)).1 (twoS x y (x.sum y.neg)).1 then (bif eqN (twoS x y (x.mul y)).1 (twoS x y (x.mul y)).1 then (some (.bool true)) else some (.bool false)) else some (.bool false)) else some (.bool false)) else some (.bool false)) else some (.bool false)) else some (.bool false) := by kernel_rfl
theorem eqNs (x : N) : eqN x x = true := (eqN_iff x x).2 rfl
theorem law (M : Int) (x y : N) (w : World) (inv : Inv (Sg1 M) (baseRen (Sg1 M).length) (Sg1 M) w) : Calls Tryz.prog 3 #[N.v x, N.v y] w fun e w' => e = .returned (.bool true) ∧ Below w.heap.size w w' := by
  have e : EvF Tryz.prog (orcL LAdds) (Sg1 M) 3 [N.v x, N.v y] (.bool true) := EvF.of_eq 60 fun m => by
    rw [tree]
    simp only [eqNs, beq_self_eq_true, cond_true]
  exact e.calls (sg1 M) (orcOk_of (LAdds_ok M)) rfl inv
end ringAdds

namespace ringAdds
/-- What the row's list gives: the variables' cells. -/
theorem inv_of {W : World} (h : laidMetH Tryz.prog Rows.ringAddsRow.laid W) (sh : W.ShapedOpen Tryz.prog) : ∃ M : Int, Inv (Sg1 M) (baseRen (Sg1 M).length) (Sg1 M) W :=
  invOf h sh
theorem contract (H : Type) (enc : TypeId × Value → H) (W : World) (base : Nat) (args : Array Value) (ds gs : List (DataW H)) (before : List MemPlace)
    (hval : ∀ (j : Nat) t v, Tryz.f3.params[j]? = some t → args[j]? = some v → Value.okWide Tryz.prog W .any base t v)
    (hW : DataW.Whole enc Tryz.prog Tryz.f3.params.toList Rows.ringAddsSpec.vars false W args.toList ds gs before) (hL : laidMetH Tryz.prog Rows.ringAddsRow.laid W) (sh : W.ShapedOpen Tryz.prog) :
    Calls Tryz.prog 3 args W fun e W' => ∃ v, e = .returned v ∧ Rows.ringAddsSpec.post enc Tryz.prog Tryz.f3 false true false false W args v W' := by
  have hW' := hW
  obtain ⟨p, q, hA0, hV, rfl, hfz, hnd⟩ := hW
  have hA : DataW.TrodAll enc Tryz.prog W 0 (fun _ => true) true Tryz.f3.params.toList args.toList ds p := hA0
  rw [Tryz.params3] at hA hval
  obtain ⟨v0, vs0, d0, ds0, p0, q0, hargs, rfl, rfl, h0, r0⟩ := trodAll_cons hA
  obtain ⟨v1, vs1, d1, ds1, p1, q1, e1, rfl, rfl, h1, r1⟩ := trodAll_cons r0
  obtain ⟨e9, rfl, rfl⟩ := trodAll_nil r1
  obtain rfl : args = #[v0, v1] := by cases args; simp_all
  obtain ⟨rfl, rfl⟩ := trodVars_none hV
  obtain ⟨x, rfl, rfl, rfl, w0⟩ := openN (hval 0 23 v0 rfl rfl) h0
  obtain ⟨y, rfl, rfl, rfl, w1⟩ := openN (hval 1 23 v1 rfl rfl) h1
  clear hA0
  simp only [List.append_nil] at hW'
  obtain ⟨M, inv⟩ := inv_of hL sh
  refine (law M x y W inv).mono fun e W' ⟨he, hg⟩ => ?_
  subst he
  exact ⟨_, rfl, post_num hW' (fun _ _ _ => trodAll_cons_mk (shut_bool Tryz.underlying4 _) trodAll_mk0) (fun _ => trodAll_cons_mk (shutN x w0) (trodAll_cons_mk (shutN y w1) (trodAll_mk0))) (fun _ => rfl) hg (ok_one (by kernel_rfl) rfl (okWide_bool_mk Tryz.underlying4 _))⟩
theorem laid_met (os : Os) : laidMet Tryz.prog Rows.ringAddsRow.laid ((laidWorld os).forCall (fun _ _ => 0) ⟨#[], #[N.v O, N.v O], []⟩).memory :=
  laidMet_of_run' 8 (by kernel_rfl) (by kernel_rfl)
theorem reads (os : Os) {H : Type} (enc : TypeId × Value → H) : ∃ places, DataW.whole enc Tryz.prog ((laidWorld os).forCall (fun _ _ => 0) ⟨#[], #[N.v O, N.v O], []⟩).memory Tryz.f3.params.toList Rows.ringAddsSpec.vars false #[N.v O, N.v O].toList 8 = some ([.agg [.lit (.int .i64 0), .lit (.int .i64 0), .lit (.int .i64 0), .lit (.int .i64 0), .lit (.int .i64 0)], .agg [.lit (.int .i64 0), .lit (.int .i64 0), .lit (.int .i64 0), .lit (.int .i64 0), .lit (.int .i64 0)]], [], places) :=
  ⟨[], by kernel_rfl⟩
theorem lifted (os : Os) (started : os.Started) (H : Type) (enc : TypeId × Value → H) (F : Stop.Interp) :
    ReturnsInHanded {} Tryz.checked os 3 .any ((OpenSpec.ofChange Rows.ringAddsSpec).preRow enc Tryz.prog Tryz.f3 Rows.ringAddsRow.domain false Rows.ringAddsRow.laid) (((OpenSpec.ofChange Rows.ringAddsSpec).at F).post enc Tryz.prog Tryz.f3 false true false false) := by
  obtain ⟨places, hx⟩ := reads os enc
  refine returnsInHanded_of_row (C := Tryz.checked) (s := OpenSpec.ofChange Rows.ringAddsSpec) own started (by kernel_rfl) Tryz.func3
    (witness_row_at (enc := enc) (C := Tryz.checked) false (laidWorld os) #[N.v O, N.v O] rfl (by kernel_rfl) (by kernel_rfl) (by kernel_rfl)
      (OpenSpec.preRow_of_cond 8 hx (by kernel_rfl) (fun k hk => by cases hk) (by kernel_rfl) (laid_met os))) ?_
  intro W base args ds gs before hval hW _ _ _ hL sh _
  exact contract H enc W base args ds gs before hval hW hL sh
theorem said : Rows.RingAddsSaid :=
  OpenClaim.holds_of_cond 3 Tryz.f3 rfl rfl rfl rfl rfl rfl rfl ⟨rfl, rfl, rfl, rfl, rfl⟩ rfl rfl rfl rfl rfl (by kernel_rfl) Tryz.func3 (by kernel_rfl)
    (of_decide_eq_true (by kernel_rfl)) (by unfold Func.isWrapper; first | (rw [if_pos (by decide +kernel)]; kernel_rfl) | (rw [if_neg (by decide +kernel)]; exact ⟨rfl, rfl⟩))
    (fun os started H enc _ F => by rw [OpenClaim.pre_eq_preRow]; exact lifted os started H enc F)
theorem plain (f : FuncId) (fn : Func) (hf : Tryz.pinned.checked.prog.funcNamed "spoondrift/spoondriftlaw01.RingAdds" = some f) (hfn : Tryz.pinned.checked.prog.funcs[f]? = some fn) :
    false = Tryz.pinned.checked.prog.looks [] ∧ ∀ (j : Nat) t, fn.params[j]? = some t → Tryz.pinned.checked.prog.wantsStandIn t = false := by
  obtain rfl : f = 3 := Option.some.inj ((show Tryz.prog.funcNamed "spoondrift/spoondriftlaw01.RingAdds" = some 3 by kernel_rfl).symm.trans hf) |>.symm
  obtain rfl : fn = Tryz.f3 := (Option.some.inj (Tryz.func3.symm.trans hfn)).symm
  refine ⟨by kernel_rfl, fun j t ht => ?_⟩
  rw [Tryz.params3] at ht
  obtain rfl : t = 23 := by simpa using Array.mem_of_getElem? ht
  exact (show Tryz.prog.wantsStandIn 23 = false by kernel_rfl)
/-- The card. -/
theorem card : Rows.RingAddsCardSaid :=
  Claim7.holds_tied_plain_at .later [] _ _ _ _ said (fun _ h => by cases h) (by kernel_rfl) (fun _ h => by cases h) ringAdds_row_tie rfl ⟨rfl, rfl⟩ (by kernel_rfl) rfl plain (by kernel_rfl)
end ringAdds
end Go.Proofs.YtonjnnjnojmpjaaGreatDoor
