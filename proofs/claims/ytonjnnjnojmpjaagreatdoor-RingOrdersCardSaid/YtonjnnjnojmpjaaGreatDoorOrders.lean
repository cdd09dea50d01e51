/- Ring: RingOrders: the call returns true for every two numbers, and changes nothing. No condition. -/
import Derived.Test.YtonjnnjnojmpjaaGreatDoorK0
import Derived.Test.YtonjnnjnojmpjaaGreatDoorP4
namespace Go.Proofs.YtonjnnjnojmpjaaGreatDoor
open Go Go.Proofs.XX.Vm Go.Proofs.XX.Rm Go.RowKit Go.ChangeShapes Go.WideShapes Go.ChangeAt Go.Joins Go.Deep Go.Proofs.YtonjnnjnojmpjaaGreatDoor.R
set_option maxRecDepth 100000
namespace ringOrders
theorem tree (M : Int) (m : Nat) (x y : N) : runK Tryz.prog (orcL LOrders) (Sg1 M) (m + 60) 6 [N.v x, N.v y] =
    bif (realS x).2 == (realS x).2 then (bif (lesS x y).2 == (lesS x y).2 then (bif (phS x y).2 == (phS x y).2 then (bif (realS x).1 == (realS x).1 then (bif (lesS x y).1 == (lesS x y).1 then (bif (phS x y).1 == (phS x y).1 then (some (.bool true)) else some (.bool false)) else some (.bool false)) else some (.bool false)) else some (.bool false)) else some (.bool false)) else some (.bool false) := by kernel_rfl
theorem eqNs (x : N) : eqN x x = true := (eqN_iff x x).2 rfl
theorem law (M : Int) (x y : N) (w : World) (inv : Inv (Sg1 M) (baseRen (Sg1 M).length) (Sg1 M) w) : Calls Tryz.prog 6 #[N.v x, N.v y] w fun e w' => e = .returned (.bool true) ∧ Below w.heap.size w w' := by
  have e : EvF Tryz.prog (orcL LOrders) (Sg1 M) 6 [N.v x, N.v y] (.bool true) := EvF.of_eq 60 fun m => by
    rw [tree]
    simp only [beq_self_eq_true, cond_true]
  exact e.calls (sg1 M) (orcOk_of (LOrders_ok M)) rfl inv
end ringOrders

namespace ringOrders
/-- What the row's list gives: the variables' cells. -/
theorem inv_of {W : World} (h : laidMetH Tryz.prog Rows.ringOrdersRow.laid W) (sh : W.ShapedOpen Tryz.prog) : ∃ M : Int, Inv (Sg1 M) (baseRen (Sg1 M).length) (Sg1 M) W :=
  invOf h sh
theorem contract (H : Type) (enc : TypeId × Value → H) (W : World) (base : Nat) (args : Array Value) (ds gs : List (DataW H)) (before : List MemPlace)
    (hval : ∀ (j : Nat) t v, Tryz.f6.params[j]? = some t → args[j]? = some v → Value.okWide Tryz.prog W .any base t v)
    (hW : DataW.Whole enc Tryz.prog Tryz.f6.params.toList Rows.ringOrdersSpec.vars false W args.toList ds gs before) (hL : laidMetH Tryz.prog Rows.ringOrdersRow.laid W) (sh : W.ShapedOpen Tryz.prog) :
    Calls Tryz.prog 6 args W fun e W' => ∃ v, e = .returned v ∧ Rows.ringOrdersSpec.post enc Tryz.prog Tryz.f6 false true false false W args v W' := by
  have hW' := hW
  obtain ⟨p, q, hA0, hV, rfl, hfz, hnd⟩ := hW
  have hA : DataW.TrodAll enc Tryz.prog W 0 (fun _ => true) true Tryz.f6.params.toList args.toList ds p := hA0
  rw [Tryz.params6] at hA hval
  obtain ⟨v0, vs0, d0, ds0, p0, q0, hargs, rfl, rfl, h0, r0⟩ := trodAll_cons hA
  obtain ⟨v1, vs1, d1, ds1, p1, q1, e1, rfl, rfl, h1, r1⟩ := trodAll_cons r0
  obtain ⟨e9, rfl, rfl⟩ := trodAll_nil r1
  obtain rfl : args = #[v0, v1] := by cases args; simp_all
  obtain ⟨rfl, rfl⟩ := trodVars_none hV
  obtain ⟨x, rfl, rfl, rfl, w0⟩ := openN (hval 0 23 v0 rfl rfl) h0
  obtain ⟨y, rfl, rfl, rfl, w1⟩ := openN (hval 1 23 v1 rfl rfl) h1
  clear hA0
  simp only [List.append_nil] at hW'
  obtain ⟨M, inv⟩ := inv_of hL sh
  refine (law M x y W inv).mono fun e W' ⟨he, hg⟩ => ?_
  subst he
  exact ⟨_, rfl, post_num hW' (fun _ _ _ => trodAll_cons_mk (shut_bool Tryz.underlying4 _) trodAll_mk0) (fun _ => trodAll_cons_mk (shutN x w0) (trodAll_cons_mk (shutN y w1) (trodAll_mk0))) (fun _ => rfl) hg (ok_one (by kernel_rfl) rfl (okWide_bool_mk Tryz.underlying4 _))⟩
theorem laid_met (os : Os) : laidMet Tryz.prog Rows.ringOrdersRow.laid ((laidWorld os).forCall (fun _ _ => 0) ⟨#[], #[N.v O, N.v O], []⟩).memory :=
  laidMet_of_run' 8 (by kernel_rfl) (by kernel_rfl)
theorem reads (os : Os) {H : Type} (enc : TypeId × Value → H) : ∃ places, DataW.whole enc Tryz.prog ((laidWorld os).forCall (fun _ _ => 0) ⟨#[], #[N.v O, N.v O], []⟩).memory Tryz.f6.params.toList Rows.ringOrdersSpec.vars false #[N.v O, N.v O].toList 8 = some ([.agg [.lit (.int .i64 0), .lit (.int .i64 0), .lit (.int .i64 0), .lit (.int .i64 0), .lit (.int .i64 0)], .agg [.lit (.int .i64 0), .lit (.int .i64 0), .lit (.int .i64 0), .lit (.int .i64 0), .lit (.int .i64 0)]], [], places) :=
  ⟨[], by kernel_rfl⟩
theorem lifted (os : Os) (started : os.Started) (H : Type) (enc : TypeId × Value → H) (F : Stop.Interp) :
    ReturnsInHanded {} Tryz.checked os 6 .any ((OpenSpec.ofChange Rows.ringOrdersSpec).preRow enc Tryz.prog Tryz.f6 Rows.ringOrdersRow.domain false Rows.ringOrdersRow.laid) (((OpenSpec.ofChange Rows.ringOrdersSpec).at F).post enc Tryz.prog Tryz.f6 false true false false) := by
  obtain ⟨places, hx⟩ := reads os enc
  refine returnsInHanded_of_row (C := Tryz.checked) (s := OpenSpec.ofChange Rows.ringOrdersSpec) own started (by kernel_rfl) Tryz.func6
    (witness_row_at (enc := enc) (C := Tryz.checked) false (laidWorld os) #[N.v O, N.v O] rfl (by kernel_rfl) (by kernel_rfl) (by kernel_rfl)
      (OpenSpec.preRow_of_cond 8 hx (by kernel_rfl) (fun k hk => by cases hk) (by kernel_rfl) (laid_met os))) ?_
  intro W base args ds gs before hval hW _ _ _ hL sh _
  exact contract H enc W base args ds gs before hval hW hL sh
theorem said : Rows.RingOrdersSaid :=
  OpenClaim.holds_of_cond 6 Tryz.f6 rfl rfl rfl rfl rfl rfl rfl ⟨rfl, rfl, rfl, rfl, rfl⟩ rfl rfl rfl rfl rfl (by kernel_rfl) Tryz.func6 (by kernel_rfl)
    (of_decide_eq_true (by kernel_rfl)) (by unfold Func.isWrapper; first | (rw [if_pos (by decide +kernel)]; kernel_rfl) | (rw [if_neg (by decide +kernel)]; exact ⟨rfl, rfl⟩))
    (fun os started H enc _ F => by rw [OpenClaim.pre_eq_preRow]; exact lifted os started H enc F)
theorem plain (f : FuncId) (fn : Func) (hf : Tryz.pinned.checked.prog.funcNamed "spoondrift/spoondriftlaw01.RingOrders" = some f) (hfn : Tryz.pinned.checked.prog.funcs[f]? = some fn) :
    false = Tryz.pinned.checked.prog.looks [] ∧ ∀ (j : Nat) t, fn.params[j]? = some t → Tryz.pinned.checked.prog.wantsStandIn t = false := by
  obtain rfl : f = 6 := Option.some.inj ((show Tryz.prog.funcNamed "spoondrift/spoondriftlaw01.RingOrders" = some 6 by kernel_rfl).symm.trans hf) |>.symm
  obtain rfl : fn = Tryz.f6 := (Option.some.inj (Tryz.func6.symm.trans hfn)).symm
  refine ⟨by kernel_rfl, fun j t ht => ?_⟩
  rw [Tryz.params6] at ht
  obtain rfl : t = 23 := by simpa using Array.mem_of_getElem? ht
  exact (show Tryz.prog.wantsStandIn 23 = false by kernel_rfl)
/-- The card. -/
theorem card : Rows.RingOrdersCardSaid :=
  Claim7.holds_tied_plain_at .later [] _ _ _ _ said (fun _ h => by cases h) (by kernel_rfl) (fun _ h => by cases h) ringOrders_row_tie rfl ⟨rfl, rfl⟩ (by kernel_rfl) rfl plain (by kernel_rfl)
end ringOrders
end Go.Proofs.YtonjnnjnojmpjaaGreatDoor
