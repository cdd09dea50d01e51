/- Ring: RingTurns: the call returns true for every number, and changes nothing. No condition. -/
import Derived.Test.YtonjnnjnojmpjaaGreatDoorK0
import Derived.Test.YtonjnnjnojmpjaaGreatDoorE2
namespace Go.Proofs.YtonjnnjnojmpjaaGreatDoor
open Go Go.Proofs.XX.Vm Go.Proofs.XX.Rm Go.RowKit Go.ChangeShapes Go.WideShapes Go.ChangeAt Go.Joins Go.Deep Go.Proofs.YtonjnnjnojmpjaaGreatDoor.R
set_option maxRecDepth 100000
namespace ringTurns
theorem tree (M : Int) (m : Nat) (x : N) : runK Tryz.prog (orcL LTurns) (Sg1 M) (m + 60) 4 [N.v x] =
    bif (oneS x x.neg).2 == (oneS x x.neg).2 then (bif (oneS x x.conj).2 == (oneS x x.conj).2 then (bif (oneS x (N.dot x)).2 == (oneS x (N.dot x)).2 then (bif (norS x).2 == (norS x).2 then (bif eqN (oneS x x.neg).1 (oneS x x.neg).1 then (bif eqN (oneS x x.conj).1 (oneS x x.conj).1 then (bif eqN (oneS x (N.dot x)).1 (oneS x (N.dot x)).1 then (bif eqN (norS x).1 (norS x).1 then (some (.bool true)) else some (.bool false)) else some (.bool false)) else some (.bool false)) else some (.bool false)) else some (.bool false)) else some (.bool false)) else some (.bool false)) else some (.bool false) := by kernel_rfl
theorem eqNs (x : N) : eqN x x = true := (eqN_iff x x).2 rfl
theorem law (M : Int) (x : N) (w : World) (inv : Inv (Sg1 M) (baseRen (Sg1 M).length) (Sg1 M) w) : Calls Tryz.prog 4 #[N.v x] w fun e w' => e = .returned (.bool true) ∧ Below w.heap.size w w' := by
  have e : EvF Tryz.prog (orcL LTurns) (Sg1 M) 4 [N.v x] (.bool true) := EvF.of_eq 60 fun m => by
    rw [tree]
    simp only [eqNs, beq_self_eq_true, cond_true]
  exact e.calls (sg1 M) (orcOk_of (LTurns_ok M)) rfl inv
end ringTurns

namespace ringTurns
/-- What the row's list gives: the variables' cells. -/
theorem inv_of {W : World} (h : laidMetH Tryz.prog Rows.ringTurnsRow.laid W) (sh : W.ShapedOpen Tryz.prog) : ∃ M : Int, Inv (Sg1 M) (baseRen (Sg1 M).length) (Sg1 M) W :=
  invOf h sh
theorem contract (H : Type) (enc : TypeId × Value → H) (W : World) (base : Nat) (args : Array Value) (ds gs : List (DataW H)) (before : List MemPlace)
    (hval : ∀ (j : Nat) t v, Tryz.f4.params[j]? = some t → args[j]? = some v → Value.okWide Tryz.prog W .any base t v)
    (hW : DataW.Whole enc Tryz.prog Tryz.f4.params.toList Rows.ringTurnsSpec.vars false W args.toList ds gs before) (hL : laidMetH Tryz.prog Rows.ringTurnsRow.laid W) (sh : W.ShapedOpen Tryz.prog) :
    Calls Tryz.prog 4 args W fun e W' => ∃ v, e = .returned v ∧ Rows.ringTurnsSpec.post enc Tryz.prog Tryz.f4 false true false false W args v W' := by
  have hW' := hW
  obtain ⟨p, q, hA0, hV, rfl, hfz, hnd⟩ := hW
  have hA : DataW.TrodAll enc Tryz.prog W 0 (fun _ => true) true Tryz.f4.params.toList args.toList ds p := hA0
  rw [Tryz.params4] at hA hval
  obtain ⟨v0, vs0, d0, ds0, p0, q0, hargs, rfl, rfl, h0, r0⟩ := trodAll_cons hA
  obtain ⟨e9, rfl, rfl⟩ := trodAll_nil r0
  obtain rfl : args = #[v0] := by cases args; simp_all
  obtain ⟨rfl, rfl⟩ := trodVars_none hV
  obtain ⟨x, rfl, rfl, rfl, w0⟩ := openN (hval 0 23 v0 rfl rfl) h0
  clear hA0
  simp only [List.append_nil] at hW'
  obtain ⟨M, inv⟩ := inv_of hL sh
  refine (law M x W inv).mono fun e W' ⟨he, hg⟩ => ?_
  subst he
  exact ⟨_, rfl, post_num hW' (fun _ _ _ => trodAll_cons_mk (shut_bool Tryz.underlying4 _) trodAll_mk0) (fun _ => trodAll_cons_mk (shutN x w0) (trodAll_mk0)) (fun _ => rfl) hg (ok_one (by kernel_rfl) rfl (okWide_bool_mk Tryz.underlying4 _))⟩
theorem laid_met (os : Os) : laidMet Tryz.prog Rows.ringTurnsRow.laid ((laidWorld os).forCall (fun _ _ => 0) ⟨#[], #[N.v O], []⟩).memory :=
  laidMet_of_run' 8 (by kernel_rfl) (by kernel_rfl)
theorem reads (os : Os) {H : Type} (enc : TypeId × Value → H) : ∃ places, DataW.whole enc Tryz.prog ((laidWorld os).forCall (fun _ _ => 0) ⟨#[], #[N.v O], []⟩).memory Tryz.f4.params.toList Rows.ringTurnsSpec.vars false #[N.v O].toList 8 = some ([.agg [.lit (.int .i64 0), .lit (.int .i64 0), .lit (.int .i64 0), .lit (.int .i64 0), .lit (.int .i64 0)]], [], places) :=
  ⟨[], by kernel_rfl⟩
theorem lifted (os : Os) (started : os.Started) (H : Type) (enc : TypeId × Value → H) (F : Stop.Interp) :
    ReturnsInHanded {} Tryz.checked os 4 .any ((OpenSpec.ofChange Rows.ringTurnsSpec).preRow enc Tryz.prog Tryz.f4 Rows.ringTurnsRow.domain false Rows.ringTurnsRow.laid) (((OpenSpec.ofChange Rows.ringTurnsSpec).at F).post enc Tryz.prog Tryz.f4 false true false false) := by
  obtain ⟨places, hx⟩ := reads os enc
  refine returnsInHanded_of_row (C := Tryz.checked) (s := OpenSpec.ofChange Rows.ringTurnsSpec) own started (by kernel_rfl) Tryz.func4
    (witness_row_at (enc := enc) (C := Tryz.checked) false (laidWorld os) #[N.v O] rfl (by kernel_rfl) (by kernel_rfl) (by kernel_rfl)
      (OpenSpec.preRow_of_cond 8 hx (by kernel_rfl) (fun k hk => by cases hk) (by kernel_rfl) (laid_met os))) ?_
  intro W base args ds gs before hval hW _ _ _ hL sh _
  exact contract H enc W base args ds gs before hval hW hL sh
theorem said : Rows.RingTurnsSaid :=
  OpenClaim.holds_of_cond 4 Tryz.f4 rfl rfl rfl rfl rfl rfl rfl ⟨rfl, rfl, rfl, rfl, rfl⟩ rfl rfl rfl rfl rfl (by kernel_rfl) Tryz.func4 (by kernel_rfl)
    (of_decide_eq_true (by kernel_rfl)) (by unfold Func.isWrapper; first | (rw [if_pos (by decide +kernel)]; kernel_rfl) | (rw [if_neg (by decide +kernel)]; exact ⟨rfl, rfl⟩))
    (fun os started H enc _ F => by rw [OpenClaim.pre_eq_preRow]; exact lifted os started H enc F)
theorem plain (f : FuncId) (fn : Func) (hf : Tryz.pinned.checked.prog.funcNamed "spoondrift/spoondriftlaw01.RingTurns" = some f) (hfn : Tryz.pinned.checked.prog.funcs[f]? = some fn) :
    false = Tryz.pinned.checked.prog.looks [] ∧ ∀ (j : Nat) t, fn.params[j]? = some t → Tryz.pinned.checked.prog.wantsStandIn t = false := by
  obtain rfl : f = 4 := Option.some.inj ((show Tryz.prog.funcNamed "spoondrift/spoondriftlaw01.RingTurns" = some 4 by kernel_rfl).symm.trans hf) |>.symm
  obtain rfl : fn = Tryz.f4 := (Option.some.inj (Tryz.func4.symm.trans hfn)).symm
  refine ⟨by kernel_rfl, fun j t ht => ?_⟩
  rw [Tryz.params4] at ht
  obtain rfl : t = 23 := by simpa using Array.mem_of_getElem? ht
  exact (show Tryz.prog.wantsStandIn 23 = false by kernel_rfl)
/-- The card. -/
theorem card : Rows.RingTurnsCardSaid :=
  Claim7.holds_tied_plain_at .later [] _ _ _ _ said (fun _ h => by cases h) (by kernel_rfl) (fun _ h => by cases h) ringTurns_row_tie rfl ⟨rfl, rfl⟩ (by kernel_rfl) rfl plain (by kernel_rfl)
end ringTurns
end Go.Proofs.YtonjnnjnojmpjaaGreatDoor
