/- Ring: RingTexts: the call returns true for every number and every string, and changes nothing. No condition. -/
import Derived.Test.YtihccnfaibiiiaaDoorK0
import Derived.Test.YtihccnfaibiiiaaDoorUd
import Derived.ChangeMaps5
namespace Go.Proofs.YtihccnfaibiiiaaDoor
open Go Go.Proofs.XX.Vm Go.Proofs.XX.Rm Go.RowKit Go.ChangeShapes Go.WideShapes Go.ChangeAt Go.Joins Go.Deep Go.ChangeMaps Go.Proofs.YtihccnfaibiiiaaDoor.R
set_option maxRecDepth 100000
namespace ringTexts
theorem tree (M : Int) (m : Nat) (x : N) (s : ByteArray) : runK Tryd.prog (orcL LTexts) (Sg1 M) (m + 60) 5 [N.v x, .string s] =
    bif decide ((s.size : Int) > 200) then some (.bool true) else bif Nat.ble s.size 1000000 then (bif Nat.ble s.size 4000000 then (bif (prS x).2 == (prS x).2 then (bif (parM s.data.toList).2 == (parM s.data.toList).2 then (bif (bs (prS x).1).toList == (bs (prS x).1).toList then (bif eqN (parM s.data.toList).1 (parM s.data.toList).1 then some (.bool true) else some (.bool false)) else some (.bool false)) else some (.bool false)) else some (.bool false)) else none) else none := by kernel_rfl
theorem law (M : Int) (x : N) (s : ByteArray) (w : World) (inv : Inv (Sg1 M) (baseRen (Sg1 M).length) (Sg1 M) w) : Calls Tryd.prog 5 #[N.v x, .string s] w fun e w' => e = .returned (.bool true) ∧ Below w.heap.size w w' := by
  have e : EvF Tryd.prog (orcL LTexts) (Sg1 M) 5 [N.v x, .string s] (.bool true) := EvF.of_eq 60 fun m => by
    rw [tree]
    by_cases hs : (s.size : Int) > 200
    · rw [decide_eq_true hs]; rfl
    · have he : eqN (parM s.data.toList).1 (parM s.data.toList).1 = true := (eqN_iff _ _).2 rfl
      rw [decide_eq_false hs, Nat.ble_eq_true_of_le (show s.size ≤ 1000000 by omega), Nat.ble_eq_true_of_le (show s.size ≤ 4000000 by omega), he]
      simp only [beq_self_eq_true, cond_true, cond_false]
  exact e.calls (sg1 M) (orcOk_of (LTexts_ok M)) rfl inv
/-- What the row's list gives: the variables' cells. -/
theorem inv_of {W : World} (h : laidMetH Tryd.prog Rows.ringTextsRow.laid W) (sh : W.ShapedOpen Tryd.prog) : ∃ M : Int, Inv (Sg1 M) (baseRen (Sg1 M).length) (Sg1 M) W :=
  invOf h sh
theorem contract (H : Type) (enc : TypeId × Value → H) (W : World) (base : Nat) (args : Array Value) (ds gs : List (DataW H)) (before : List MemPlace)
    (hval : ∀ (j : Nat) t v, Tryd.f5.params[j]? = some t → args[j]? = some v → Value.okWide Tryd.prog W .any base t v)
    (hW : DataW.Whole enc Tryd.prog Tryd.f5.params.toList Rows.ringTextsSpec.vars false W args.toList ds gs before) (hL : laidMetH Tryd.prog Rows.ringTextsRow.laid W) (sh : W.ShapedOpen Tryd.prog) :
    Calls Tryd.prog 5 args W fun e W' => ∃ v, e = .returned v ∧ Rows.ringTextsSpec.post enc Tryd.prog Tryd.f5 false true false false W args v W' := by
  have hW' := hW
  obtain ⟨p, q, hA0, hV, rfl, hfz, hnd⟩ := hW
  have hA : DataW.TrodAll enc Tryd.prog W 0 (fun _ => true) true Tryd.f5.params.toList args.toList ds p := hA0
  rw [Tryd.params5] at hA hval
  obtain ⟨v0, vs0, d0, ds0, p0, q0, hargs, rfl, rfl, h0, r0⟩ := trodAll_cons hA
  obtain ⟨v1, vs1, d1, ds1, p1, q1, e1, rfl, rfl, h1, r1⟩ := trodAll_cons r0
  obtain ⟨e9, rfl, rfl⟩ := trodAll_nil r1
  obtain rfl : args = #[v0, v1] := by cases args; simp_all
  obtain ⟨rfl, rfl⟩ := trodVars_none hV
  obtain ⟨x, rfl, rfl, rfl, w0⟩ := openN (hval 0 23 v0 rfl rfl) h0
  obtain ⟨s, rfl, rfl, rfl, w1⟩ := open_string Tryd.underlying9 (hval 1 9 v1 rfl rfl) h1
  clear hA0
  simp only [List.append_nil] at hW'
  obtain ⟨M, inv⟩ := inv_of hL sh
  refine (law M x s W inv).mono fun e W' ⟨he, hg⟩ => ?_
  subst he
  exact ⟨_, rfl, post_num hW' (fun _ _ _ => trodAll_cons_mk (shut_bool Tryd.underlying4 _) trodAll_mk0) (fun _ => trodAll_cons_mk (shutN x w0) (trodAll_cons_mk (shut_string Tryd.underlying9 w1) (trodAll_mk0))) (fun _ => rfl) hg (ok_one (by kernel_rfl) rfl (okWide_bool_mk Tryd.underlying4 _))⟩
theorem laid_met (os : Os) : laidMet Tryd.prog Rows.ringTextsRow.laid ((laidWorld os).forCall (fun _ _ => 0) ⟨#[], #[N.v O, .string (bs [])], []⟩).memory :=
  laidMet_of_run' 8 (by kernel_rfl) (by kernel_rfl)
theorem reads (os : Os) {H : Type} (enc : TypeId × Value → H) : ∃ places, DataW.whole enc Tryd.prog ((laidWorld os).forCall (fun _ _ => 0) ⟨#[], #[N.v O, .string (bs [])], []⟩).memory Tryd.f5.params.toList Rows.ringTextsSpec.vars false #[N.v O, .string (bs [])].toList 8 = some ([.agg [.lit (.int .i64 0), .lit (.int .i64 0), .lit (.int .i64 0), .lit (.int .i64 0), .lit (.int .i64 0)], .lit (.string [])], [], places) :=
  ⟨[], by kernel_rfl⟩
theorem lifted (os : Os) (started : os.Started) (H : Type) (enc : TypeId × Value → H) (F : Stop.Interp) :
    ReturnsInHanded {} Tryd.checked os 5 .any ((OpenSpec.ofChange Rows.ringTextsSpec).preRow enc Tryd.prog Tryd.f5 Rows.ringTextsRow.domain false Rows.ringTextsRow.laid) (((OpenSpec.ofChange Rows.ringTextsSpec).at F).post enc Tryd.prog Tryd.f5 false true false false) := by
  obtain ⟨places, hx⟩ := reads os enc
  refine returnsInHanded_of_row (C := Tryd.checked) (s := OpenSpec.ofChange Rows.ringTextsSpec) own started (by kernel_rfl) Tryd.func5
    (witness_row_at (enc := enc) (C := Tryd.checked) false (laidWorld os) #[N.v O, .string (bs [])] rfl (by kernel_rfl) (by kernel_rfl) (by kernel_rfl)
      (OpenSpec.preRow_of_cond 8 hx (by kernel_rfl) (fun k hk => by cases hk) (by kernel_rfl) (laid_met os))) ?_
  intro W base args ds gs before hval hW _ _ _ hL sh _
  exact contract H enc W base args ds gs before hval hW hL sh
theorem said : Rows.RingTextsSaid :=
  OpenClaim.holds_of_cond 5 Tryd.f5 rfl rfl rfl rfl rfl rfl rfl ⟨rfl, rfl, rfl, rfl, rfl⟩ rfl rfl rfl rfl rfl (by kernel_rfl) Tryd.func5 (by kernel_rfl)
    (of_decide_eq_true (by kernel_rfl)) (by unfold Func.isWrapper; first | (rw [if_pos (by decide +kernel)]; kernel_rfl) | (rw [if_neg (by decide +kernel)]; exact ⟨rfl, rfl⟩))
    (fun os started H enc _ F => by rw [OpenClaim.pre_eq_preRow]; exact lifted os started H enc F)
theorem plain (f : FuncId) (fn : Func) (hf : Tryd.pinned.checked.prog.funcNamed "spoondrift/spoondriftlaw01.RingTexts" = some f) (hfn : Tryd.pinned.checked.prog.funcs[f]? = some fn) :
    false = Tryd.pinned.checked.prog.looks [] ∧ ∀ (j : Nat) t, fn.params[j]? = some t → Tryd.pinned.checked.prog.wantsStandIn t = false := by
  obtain rfl : f = 5 := Option.some.inj ((show Tryd.prog.funcNamed "spoondrift/spoondriftlaw01.RingTexts" = some 5 by kernel_rfl).symm.trans hf) |>.symm
  obtain rfl : fn = Tryd.f5 := (Option.some.inj (Tryd.func5.symm.trans hfn)).symm
  refine ⟨by kernel_rfl, fun j t ht => ?_⟩
  rw [Tryd.params5] at ht
  have ht2 : t = 23 ∨ t = 9 := by simpa using Array.mem_of_getElem? ht
  rcases ht2 with rfl | rfl
  · exact (show Tryd.prog.wantsStandIn 23 = false by kernel_rfl)
  · exact (show Tryd.prog.wantsStandIn 9 = false by kernel_rfl)
/-- The card. -/
theorem card : Rows.RingTextsCardSaid :=
  Claim7.holds_tied_plain_at .later [] _ _ _ _ said (fun _ h => by cases h) (by kernel_rfl) (fun _ h => by cases h) ringTexts_row_tie rfl ⟨rfl, rfl⟩ (by kernel_rfl) rfl plain (by kernel_rfl)
end ringTexts
end Go.Proofs.YtihccnfaibiiiaaDoor
