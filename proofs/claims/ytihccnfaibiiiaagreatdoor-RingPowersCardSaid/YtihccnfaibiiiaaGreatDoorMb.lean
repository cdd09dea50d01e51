/- Ring: the sum of a list: the specification's Sum, as a contract (made by mkspl.py). -/
import Derived.Test.YtihccnfaibiiiaaGreatDoorM6
import Derived.Test.YtihccnfaibiiiaaGreatDoorM7
namespace Go.Proofs.YtihccnfaibiiiaaGreatDoor.R
open Go Go.Proofs.XX.Vm Go.Proofs.XX.Rm Go.RowKit
set_option maxRecDepth 100000

theorem twoS_err {x y z : N} (h : ((twoS x y z).2 != 0) = true) : (twoS x y z).1 = O := by
  unfold twoS bif3 fitS at h ⊢
  cases h1 : rgB x <;> cases h2 : inB x <;> cases h3 : rgB y <;> cases h4 : inB y <;> cases h5 : okB z.nf <;> simp_all
noncomputable abbrev orSR : Orc := orcLM LSR [cCR]
theorem orSR_ok (M : Int) : OrcOk Tryz.prog (Sg1 M) (orcOf orSR) := orcLM_ok (LSR_ok M) (mem_cons_mok (cCR_ok M) nil_mok)
noncomputable abbrev BSR : Code := loopOf Tryz.prog 25 0
noncomputable abbrev qSR (i : Nat) : Code := nthC (pcs Tryz.prog 25) i
theorem LSRl_eq : pcs Tryz.prog 25 = [qSR 0, qSR 1, qSR 2, qSR 3, qSR 4, qSR 5, qSR 6, .block 0 (.loop BSR), qSR 8, qSR 9] := by kernel_rfl
theorem headSR {α : Type} (M : Int) (fs : Nat → Nat) (et : TypeId) (ro : Bool) (lo off n c : Nat) (L : List Int) (k : Kont α) :
    evP Tryz.prog orSR (Sg1 M) 4 fs 0 [qSR 0, qSR 1, qSR 2, qSR 3, qSR 4, qSR 5, qSR 6] (slV off n c :: List.replicate 34 undef) [uni, pow, mxl M, kB et ro lo L] k =
    bif tsL lo off n L then (bif (chkL (nmL L (off - lo) n)) != 0 then k .ret [slV off n c, undef, ptrN 4, .int .i64 ((chkL (nmL L (off - lo) n))), .int .i64 ((chkL (nmL L (off - lo) n))), undef, undef, undef, slV off n c, .int .i64 ((chkL (nmL L (off - lo) n))), .int .i64 ((chkL (nmL L (off - lo) n))), .bool true, N.v O, .int .i64 ((chkL (nmL L (off - lo) n))), undef, undef, undef, undef, undef, undef, undef, undef, undef, undef, undef, undef, undef, undef, undef, undef, undef, undef, undef, undef, undef] [uni, pow, mxl M, kB et ro lo L, rb O] else k .normal [slV off n c, undef, ptrN 4, .int .i64 (0), .int .i64 ((chkL (nmL L (off - lo) n))), ptrN 5, .int .i64 (0), .int .i64 (0), slV off n c, .int .i64 ((chkL (nmL L (off - lo) n))), .int .i64 ((chkL (nmL L (off - lo) n))), .bool false, undef, undef, undef, undef, undef, undef, undef, undef, undef, undef, undef, undef, undef, undef, undef, undef, undef, undef, undef, undef, undef, undef, undef] [uni, pow, mxl M, kB et ro lo L, rb O, rb O]) else none := by kernel_rfl
theorem roundSR {α : Type} (M : Int) (m : Nat) (et : TypeId) (ro : Bool) (lo off n c : Nat) (L : List Int) (i e : Int) (z : N) (v4 : Value) (v8 v9 v10 v11 v12 v13 v14 v15 v16 v17 v18 v19 v20 v21 v22 v23 v24 v25 v26 v27 v28 v29 v30 v31 v32 v33 v34 : Value) (k : Kont α) :
    evCodeK Tryz.prog orSR (Sg1 M) (m + 60) 4 BSR [slV off n c, undef, ptrN 4, .int .i64 (0), v4, ptrN 5, .int .i64 (e), .int .i64 (i), v8, v9, v10, v11, v12, v13, v14, v15, v16, v17, v18, v19, v20, v21, v22, v23, v24, v25, v26, v27, v28, v29, v30, v31, v32, v33, v34] [uni, pow, mxl M, kB et ro lo L, rb O, rb z] k =
    bif decide (i < (n : Int)) then (bif e == 0 then (bif decide (0 ≤ i) && decide (i < (n : Int)) then (bif insideI lo L (off + i.toNat * 5) 5 then k .normal [slV off n c, undef, ptrN 4, .int .i64 (0), v4, ptrN 5, .int .i64 ((twoS z (nmI L (off + i.toNat * 5 - lo)) (z.sum (nmI L (off + i.toNat * 5 - lo)))).2), .int .i64 (w (i + 1)), v8, v9, v10, v11, v12, v13, .int .i64 (i), slV off n c, .int .i64 ((n : Int)), .bool (decide (i < (n : Int))), .bool true, .int .i64 (e), .bool (e == 0), .bool true, .int .i64 (i), .int .i64 (w (i + 1)), resV (twoS z (nmI L (off + i.toNat * 5 - lo)) (z.sum (nmI L (off + i.toNat * 5 - lo)))), N.v z, slV off n c, .int .i64 (i), .pointer (some ⟨3, off + i.toNat * 5, none⟩), N.v (nmI L (off + i.toNat * 5 - lo)), resV (twoS z (nmI L (off + i.toNat * 5 - lo)) (z.sum (nmI L (off + i.toNat * 5 - lo)))), N.v (twoS z (nmI L (off + i.toNat * 5 - lo)) (z.sum (nmI L (off + i.toNat * 5 - lo)))).1, .int .i64 ((twoS z (nmI L (off + i.toNat * 5 - lo)) (z.sum (nmI L (off + i.toNat * 5 - lo)))).2), v33, v34] [uni, pow, mxl M, kB et ro lo L, rb O, rb (twoS z (nmI L (off + i.toNat * 5 - lo)) (z.sum (nmI L (off + i.toNat * 5 - lo)))).1] else none) else none) else k (.exit 0) [slV off n c, undef, ptrN 4, .int .i64 (0), v4, ptrN 5, .int .i64 (e), .int .i64 (i), v8, v9, v10, v11, v12, v13, .int .i64 (i), slV off n c, .int .i64 ((n : Int)), .bool (decide (i < (n : Int))), .bool true, .int .i64 (e), .bool (e == 0), .bool false, v22, v23, v24, v25, v26, v27, v28, v29, v30, v31, v32, v33, v34] [uni, pow, mxl M, kB et ro lo L, rb O, rb z]) else k (.exit 0) [slV off n c, undef, ptrN 4, .int .i64 (0), v4, ptrN 5, .int .i64 (e), .int .i64 (i), v8, v9, v10, v11, v12, v13, .int .i64 (i), slV off n c, .int .i64 ((n : Int)), .bool (decide (i < (n : Int))), .bool false, undef, undef, .bool false, v22, v23, v24, v25, v26, v27, v28, v29, v30, v31, v32, v33, v34] [uni, pow, mxl M, kB et ro lo L, rb O, rb z] := by kernel_rfl
theorem tailSR {α : Type} (M : Int) (fs : Nat → Nat) (et : TypeId) (ro : Bool) (lo : Nat) (L : List Int) (z : N) (e : Int) (a0 a1 a3 a4 a7 a8 a9 a10 a11 a12 a13 a14 a15 a16 a17 a18 a19 a20 a21 a22 a23 a24 a25 a26 a27 a28 a29 a30 a31 a32 a33 a34 : Value) (k : Kont α) :
    evP Tryz.prog orSR (Sg1 M) 4 fs 8 [qSR 8, qSR 9] [a0, a1, ptrN 4, a3, a4, ptrN 5, .int .i64 (e), a7, a8, a9, a10, a11, a12, a13, a14, a15, a16, a17, a18, a19, a20, a21, a22, a23, a24, a25, a26, a27, a28, a29, a30, a31, a32, a33, a34] [uni, pow, mxl M, kB et ro lo L, rb O, rb z] k = k .ret [a0, a1, ptrN 4, .int .i64 (e), a4, ptrN 5, .int .i64 (e), a7, a8, a9, a10, a11, a12, a13, a14, a15, a16, a17, a18, a19, a20, a21, a22, a23, a24, a25, a26, a27, a28, a29, a30, a31, a32, N.v z, .int .i64 (e)] [uni, pow, mxl M, kB et ro lo L, rb z, rb z] := by kernel_rfl
theorem outSR (e : Int) (y : N) (b0 b1 b2 b3 : Blk) (R : List Blk) (a0 a1 a4 a5 a6 a7 a8 a9 a10 a11 a12 a13 a14 a15 a16 a17 a18 a19 a20 a21 a22 a23 a24 a25 a26 a27 a28 a29 a30 a31 a32 a33 a34 : Value) : outOf Tryz.prog 25 [a0, a1, ptrN 4, .int .i64 e, a4, a5, a6, a7, a8, a9, a10, a11, a12, a13, a14, a15, a16, a17, a18, a19, a20, a21, a22, a23, a24, a25, a26, a27, a28, a29, a30, a31, a32, a33, a34] (b0 :: b1 :: b2 :: b3 :: rb y :: R) = some (resV (y, e)) := by kernel_rfl
theorem tmpsSR (a : Value) : tmps0Of Tryz.prog 25 [a] = a :: List.replicate 34 undef := by kernel_rfl
theorem bodySR : (Tryz.prog.funcs[25]?).bind (·.body) ≠ none := by
  rw [Tryz.func25]
  intro h
  have : (Option.isSome ((some Tryz.f25).bind (·.body))) = true := by kernel_rfl
  rw [h] at this
  cases this

theorem loopSR (M : Int) (et : TypeId) (ro : Bool) (lo off n c : Nat) (L : List Int) (h1 : insideI lo L off (n * 5) = true) (h2 : n ≤ 34359738368) (q4 q8 q9 q10 q11 : Value) :
    WpW Tryz.prog (Sg1 M) 4 4 (.loop BSR) [slV off n c, undef, ptrN 4, .int .i64 (0), q4, ptrN 5, .int .i64 (0), .int .i64 (0), q8, q9, q10, q11, undef, undef, undef, undef, undef, undef, undef, undef, undef, undef, undef, undef, undef, undef, undef, undef, undef, undef, undef, undef, undef, undef, undef] [uni, pow, mxl M, kB et ro lo L, rb O, rb O] fun x T S => x = .exit 0 ∧ ∃ (z : N) (e : Int), (totL O (nmL L (off - lo) n)) = (z, e) ∧ S = [uni, pow, mxl M, kB et ro lo L, rb O, rb z] ∧ ∃ (a0 a1 a3 a4 a7 a8 a9 a10 a11 a12 a13 a14 a15 a16 a17 a18 a19 a20 a21 a22 a23 a24 a25 a26 a27 a28 a29 a30 a31 a32 a33 a34 : Value), T = [a0, a1, ptrN 4, a3, a4, ptrN 5, .int .i64 (e), a7, a8, a9, a10, a11, a12, a13, a14, a15, a16, a17, a18, a19, a20, a21, a22, a23, a24, a25, a26, a27, a28, a29, a30, a31, a32, a33, a34] := by
  have hor := orSR_ok M
  refine WpW.loop (fun m T S => ∃ (i : Nat) (e : Int) (z : N) (v4 : Value) (v8 v9 v10 v11 v12 v13 v14 v15 v16 v17 v18 v19 v20 v21 v22 v23 v24 v25 v26 v27 v28 v29 v30 v31 v32 v33 v34 : Value), i ≤ n ∧ m = n - i ∧ (totL O (nmL L (off - lo) n)) = (bif e != 0 then (z, e) else totL z (nmL L (off - lo + 5 * i) (n - i))) ∧ S = [uni, pow, mxl M, kB et ro lo L, rb O, rb z] ∧ T = [slV off n c, undef, ptrN 4, .int .i64 (0), v4, ptrN 5, .int .i64 (e), .int .i64 ((i : Nat)), v8, v9, v10, v11, v12, v13, v14, v15, v16, v17, v18, v19, v20, v21, v22, v23, v24, v25, v26, v27, v28, v29, v30, v31, v32, v33, v34]) ?_ n _ _ ⟨0, 0, O, q4, q8, q9, q10, q11, undef, undef, undef, undef, undef, undef, undef, undef, undef, undef, undef, undef, undef, undef, undef, undef, undef, undef, undef, undef, undef, undef, undef, Nat.zero_le _, by omega, by simp, rfl, rfl⟩
  rintro m T S ⟨i, e, z, v4, v8, v9, v10, v11, v12, v13, v14, v15, v16, v17, v18, v19, v20, v21, v22, v23, v24, v25, v26, v27, v28, v29, v30, v31, v32, v33, v34, hi, hm, hc, rfl, rfl⟩
  by_cases hlt : i < n
  · have c1 : decide (((i : Nat) : Int) < (n : Int)) = true := decide_eq_true (by omega)
    by_cases he : e = 0
    · subst he
      obtain ⟨h3, h4⟩ := inside_at h1 hlt
      have ex : off + ((i : Nat) : Int).toNat * 5 - lo = off - lo + 5 * i := by rw [Int.toNat_natCast]; omega
      have c2 : (decide (0 ≤ ((i : Nat) : Int)) && decide (((i : Nat) : Int) < (n : Int))) = true := by rw [c1, decide_eq_true (show 0 ≤ ((i : Nat) : Int) by omega)]; rfl
      have c3 : insideI lo L (off + ((i : Nat) : Int).toNat * 5) 5 = true := by rw [Int.toNat_natCast]; exact h4
      have hw : w (((i : Nat) : Int) + 1) = ((i + 1 : Nat) : Int) := by rw [w_eq _ (by omega) (by omega)]; omega
      have hc2 : (totL O (nmL L (off - lo) n)) = (bif (twoS z (nmI L (off + ((i : Nat) : Int).toNat * 5 - lo)) (z.sum (nmI L (off + ((i : Nat) : Int).toNat * 5 - lo)))).2 != 0 then ((twoS z (nmI L (off + ((i : Nat) : Int).toNat * 5 - lo)) (z.sum (nmI L (off + ((i : Nat) : Int).toNat * 5 - lo)))).1, (twoS z (nmI L (off + ((i : Nat) : Int).toNat * 5 - lo)) (z.sum (nmI L (off + ((i : Nat) : Int).toNat * 5 - lo)))).2) else totL (twoS z (nmI L (off + ((i : Nat) : Int).toNat * 5 - lo)) (z.sum (nmI L (off + ((i : Nat) : Int).toNat * 5 - lo)))).1 (nmL L (off - lo + 5 * (i + 1)) (n - (i + 1)))) := by
        rw [hc, bne_self_eq_false, cond_false, show n - i = (n - (i + 1)) + 1 by omega, nmL, totL, show off - lo + 5 * i + 5 = off - lo + 5 * (i + 1) by omega, ← ex]
        cases hx : (twoS z (nmI L (off + ((i : Nat) : Int).toNat * 5 - lo)) (z.sum (nmI L (off + ((i : Nat) : Int).toNat * 5 - lo)))).2 != 0 with
        | true => rw [cond_true, cond_true, twoS_err hx]
        | false => rfl
      refine WpW.of_ev (sg1 M) hor (show 3 ≤ 4 by decide) (Ev.of_eq 60 (fun s k => (roundSR M s et ro lo off n c L i 0 z v4 v8 v9 v10 v11 v12 v13 v14 v15 v16 v17 v18 v19 v20 v21 v22 v23 v24 v25 v26 v27 v28 v29 v30 v31 v32 v33 v34 k).trans ((condT c1).trans ((condT rfl).trans ((condT c2).trans (condT c3))))) ?_)
      exact ⟨n - (i + 1), by omega, i + 1, (twoS z (nmI L (off + ((i : Nat) : Int).toNat * 5 - lo)) (z.sum (nmI L (off + ((i : Nat) : Int).toNat * 5 - lo)))).2, (twoS z (nmI L (off + ((i : Nat) : Int).toNat * 5 - lo)) (z.sum (nmI L (off + ((i : Nat) : Int).toNat * 5 - lo)))).1, v4, v8, v9, v10, v11, v12, v13, .int .i64 (((i : Nat) : Int)), slV off n c, .int .i64 ((n : Int)), .bool (decide (((i : Nat) : Int) < (n : Int))), .bool true, .int .i64 (0), .bool ((0 : Int) == 0), .bool true, .int .i64 (((i : Nat) : Int)), .int .i64 ((i + 1 : Nat)), resV (twoS z (nmI L (off + ((i : Nat) : Int).toNat * 5 - lo)) (z.sum (nmI L (off + ((i : Nat) : Int).toNat * 5 - lo)))), N.v z, slV off n c, .int .i64 (((i : Nat) : Int)), .pointer (some ⟨3, off + ((i : Nat) : Int).toNat * 5, none⟩), N.v (nmI L (off + ((i : Nat) : Int).toNat * 5 - lo)), resV (twoS z (nmI L (off + ((i : Nat) : Int).toNat * 5 - lo)) (z.sum (nmI L (off + ((i : Nat) : Int).toNat * 5 - lo)))), N.v (twoS z (nmI L (off + ((i : Nat) : Int).toNat * 5 - lo)) (z.sum (nmI L (off + ((i : Nat) : Int).toNat * 5 - lo)))).1, .int .i64 ((twoS z (nmI L (off + ((i : Nat) : Int).toNat * 5 - lo)) (z.sum (nmI L (off + ((i : Nat) : Int).toNat * 5 - lo)))).2), v33, v34, by omega, rfl, hc2, rfl, by rw [hw]⟩
    · have ce : (e == 0) = false := by simpa using he
      refine WpW.of_ev (sg1 M) hor (show 3 ≤ 4 by decide) (Ev.of_eq 60 (fun s k => (roundSR M s et ro lo off n c L i e z v4 v8 v9 v10 v11 v12 v13 v14 v15 v16 v17 v18 v19 v20 v21 v22 v23 v24 v25 v26 v27 v28 v29 v30 v31 v32 v33 v34 k).trans ((condT c1).trans (condF ce))) ?_)
      refine ⟨rfl, z, e, ?_, rfl, _, _, _, _, _, _, _, _, _, _, _, _, _, _, _, _, _, _, _, _, _, _, _, _, _, _, _, _, _, _, _, _, rfl⟩
      rw [hc, show (e != 0) = true from by simpa using he, cond_true]
  · have c1 : decide (((i : Nat) : Int) < (n : Int)) = false := decide_eq_false (by omega)
    refine WpW.of_ev (sg1 M) hor (show 3 ≤ 4 by decide) (Ev.of_eq 60 (fun s k => (roundSR M s et ro lo off n c L i e z v4 v8 v9 v10 v11 v12 v13 v14 v15 v16 v17 v18 v19 v20 v21 v22 v23 v24 v25 v26 v27 v28 v29 v30 v31 v32 v33 v34 k).trans (condF c1)) ?_)
    refine ⟨rfl, z, e, ?_, rfl, _, _, _, _, _, _, _, _, _, _, _, _, _, _, _, _, _, _, _, _, _, _, _, _, _, _, _, _, _, _, _, _, rfl⟩
    rw [hc, show n - i = 0 by omega]
    cases hx : e != 0 with
    | true => rfl
    | false => rw [show e = 0 by simpa using hx]; rfl
theorem atSR (M : Int) (et : TypeId) (ro : Bool) (lo off n c : Nat) (L : List Int) (h1 : insideI lo L off (n * 5) = true) (h2 : n ≤ 34359738368) :
    CallAt Tryz.prog (Sg1 M) 4 25 [slV off n c] [uni, pow, mxl M, kB et ro lo L] (resV (sumL (nmL L (off - lo) n))) [uni, pow, mxl M, kB et ro lo L] := by
  have hor := orSR_ok M
  refine CallAt.of_W bodySR (show 3 ≤ 4 by decide) (Ext.refl _ _) rfl (List.all_eq_true.1 rfl) (List.all_eq_true.1 rfl) rfl ?_
  rw [tmpsSR]
  refine WpW.of_pieces ?_
  rw [show flatC (bodyOf Tryz.prog 25) = _ from LSRl_eq]
  show WpL Tryz.prog (Sg1 M) 4 4 ([qSR 0, qSR 1, qSR 2, qSR 3, qSR 4, qSR 5, qSR 6] ++ [.block 0 (.loop BSR), qSR 8, qSR 9]) _ _ _
  unfold sumL
  cases hx : (chkL (nmL L (off - lo) n)) != 0 with
  | true =>
    refine WpL.append (WpL.stop (sg1 M) hor (show 3 ≤ 4 by decide) ((headSR M _ et ro lo off n c L _).trans ((condT (tsL_true h1 h2)).trans (condT hx))) ?_)
    exact ⟨trivial, ⟨[rb O], rfl⟩, outSR _ _ _ _ _ _ _ _ _ _ _ _ _ _ _ _ _ _ _ _ _ _ _ _ _ _ _ _ _ _ _ _ _ _ _ _ _ _ _ _⟩
  | false =>
    refine WpL.run (sg1 M) hor (show 3 ≤ 4 by decide) ((headSR M _ et ro lo off n c L _).trans ((condT (tsL_true h1 h2)).trans (condF hx))) ?_
    refine WpL.step (WpW.block ((loopSR M et ro lo off n c L h1 h2 _ _ _ _ _).mono ?_))
    rintro x T S ⟨rfl, z, e, hz, rfl, a0, a1, a3, a4, a7, a8, a9, a10, a11, a12, a13, a14, a15, a16, a17, a18, a19, a20, a21, a22, a23, a24, a25, a26, a27, a28, a29, a30, a31, a32, a33, a34, rfl⟩
    simp only [if_true]
    refine WpL.stop (sg1 M) hor (show 3 ≤ 4 by decide) (tailSR M _ et ro lo L z e _ _ _ _ _ _ _ _ _ _ _ _ _ _ _ _ _ _ _ _ _ _ _ _ _ _ _ _ _ _ _ _ _) ⟨trivial, ⟨[rb z, rb z], rfl⟩, ?_⟩
    rw [cond_false, hz]
    exact outSR _ _ _ _ _ _ _ _ _ _ _ _ _ _ _ _ _ _ _ _ _ _ _ _ _ _ _ _ _ _ _ _ _ _ _ _ _ _ _ _
noncomputable def cSR : MCon := mconL 25 fun l => resV (sumL l)
theorem cSR_ok (M : Int) : MConOk M cSR := mconL_ok (fun _ => rfl) fun et ro lo off n c L h1 h2 => atSR M et ro lo off n c L h1 h2
end Go.Proofs.YtihccnfaibiiiaaGreatDoor.R
