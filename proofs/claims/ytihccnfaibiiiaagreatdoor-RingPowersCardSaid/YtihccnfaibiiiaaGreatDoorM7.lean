/- Ring: whether all numbers of a list are right, and their sum: the specification's functions, piece by piece (made by mkspl.py). -/
import Derived.Test.YtihccnfaibiiiaaGreatDoorM4
import Derived.Test.YtihccnfaibiiiaaGreatDoorE2
namespace Go.Proofs.YtihccnfaibiiiaaGreatDoor.R
open Go Go.Proofs.XX.Vm Go.Proofs.XX.Rm Go.RowKit
set_option maxRecDepth 100000

noncomputable abbrev LSR : List Con := [con1 57 (fun x => .val (.int .i64 (chkS x))), con2 8 fun x y => .val (resV (twoS x y (x.sum y)))]
theorem LSR_ok (M : Int) : ∀ c ∈ LSR, ConOk M c := mem_cons_ok (con1_val (g := chkT) (cChkR_ok M) chkS_get) (mem_cons_ok (con2_val (cAddR_ok M) fun x y => twoS_get x y _) nil_ok)
noncomputable abbrev BCR : Code := loopOf Tryz.prog 41 0
noncomputable abbrev qCR (i : Nat) : Code := nthC (pcs Tryz.prog 41) i
theorem LCRl_eq : pcs Tryz.prog 41 = [qCR 0, qCR 1, .block 0 (.loop BCR), qCR 3, qCR 4] := by kernel_rfl
theorem headCR {α : Type} (M : Int) (fs : Nat → Nat) (et : TypeId) (ro : Bool) (lo off n c : Nat) (L : List Int) (k : Kont α) :
    evP Tryz.prog (orcL LSR) (Sg1 M) 4 fs 0 [qCR 0, qCR 1] (slV off n c :: List.replicate 18 undef) [uni, pow, mxl M, kB et ro lo L] k = k .normal [slV off n c, undef, .int .i64 (0), .int .i64 (0), undef, undef, undef, undef, undef, undef, undef, undef, undef, undef, undef, undef, undef, undef, undef] [uni, pow, mxl M, kB et ro lo L] := by kernel_rfl
theorem roundCR {α : Type} (M : Int) (m : Nat) (et : TypeId) (ro : Bool) (lo off n c : Nat) (L : List Int) (i : Int) (v4 v5 v6 v7 v8 v9 v10 v11 v12 v13 v14 v15 v16 v17 v18 : Value) (k : Kont α) :
    evCodeK Tryz.prog (orcL LSR) (Sg1 M) (m + 60) 4 BCR [slV off n c, undef, .int .i64 (0), .int .i64 (i), v4, v5, v6, v7, v8, v9, v10, v11, v12, v13, v14, v15, v16, v17, v18] [uni, pow, mxl M, kB et ro lo L] k =
    bif decide (i < (n : Int)) then (bif decide (0 ≤ i) && decide (i < (n : Int)) then (bif insideI lo L (off + i.toNat * 5) 5 then (bif chkS (nmI L (off + i.toNat * 5 - lo)) != 0 then k .ret [slV off n c, undef, .int .i64 (chkS (nmI L (off + i.toNat * 5 - lo))), .int .i64 (i), .int .i64 (chkS (nmI L (off + i.toNat * 5 - lo))), .int .i64 (i), slV off n c, .int .i64 ((n : Int)), .bool true, v9, v10, slV off n c, .int .i64 (i), .pointer (some ⟨3, off + i.toNat * 5, none⟩), N.v (nmI L (off + i.toNat * 5 - lo)), .int .i64 (chkS (nmI L (off + i.toNat * 5 - lo))), .int .i64 (chkS (nmI L (off + i.toNat * 5 - lo))), .bool true, .int .i64 (chkS (nmI L (off + i.toNat * 5 - lo)))] [uni, pow, mxl M, kB et ro lo L] else k .normal [slV off n c, undef, .int .i64 (0), .int .i64 (w (i + 1)), .int .i64 (chkS (nmI L (off + i.toNat * 5 - lo))), .int .i64 (i), slV off n c, .int .i64 ((n : Int)), .bool true, .int .i64 (i), .int .i64 (w (i + 1)), slV off n c, .int .i64 (i), .pointer (some ⟨3, off + i.toNat * 5, none⟩), N.v (nmI L (off + i.toNat * 5 - lo)), .int .i64 (chkS (nmI L (off + i.toNat * 5 - lo))), .int .i64 (chkS (nmI L (off + i.toNat * 5 - lo))), .bool false, v18] [uni, pow, mxl M, kB et ro lo L]) else none) else none) else k (.exit 0) [slV off n c, undef, .int .i64 (0), .int .i64 (i), v4, .int .i64 (i), slV off n c, .int .i64 ((n : Int)), .bool false, v9, v10, v11, v12, v13, v14, v15, v16, v17, v18] [uni, pow, mxl M, kB et ro lo L] := by kernel_rfl
theorem tailCR {α : Type} (M : Int) (fs : Nat → Nat) (S : List Blk) (a0 a1 a2 a3 a4 a5 a6 a7 a8 a9 a10 a11 a12 a13 a14 a15 a16 a17 a18 : Value) (k : Kont α) :
    evP Tryz.prog (orcL LSR) (Sg1 M) 4 fs 3 [qCR 3, qCR 4] [a0, a1, a2, a3, a4, a5, a6, a7, a8, a9, a10, a11, a12, a13, a14, a15, a16, a17, a18] S k = k .ret [a0, a1, .int .i64 (0), a3, a4, a5, a6, a7, a8, a9, a10, a11, a12, a13, a14, a15, a16, a17, a18] S := by kernel_rfl
theorem outCR (S : List Blk) (e : Int) (a0 a1 a3 a4 a5 a6 a7 a8 a9 a10 a11 a12 a13 a14 a15 a16 a17 a18 : Value) : outOf Tryz.prog 41 [a0, a1, .int .i64 e, a3, a4, a5, a6, a7, a8, a9, a10, a11, a12, a13, a14, a15, a16, a17, a18] S = some (.int .i64 e) := by kernel_rfl
theorem tmpsCR (a : Value) : tmps0Of Tryz.prog 41 [a] = a :: List.replicate 18 undef := by kernel_rfl
theorem bodyCR : (Tryz.prog.funcs[41]?).bind (·.body) ≠ none := by
  rw [Tryz.func41]
  intro h
  have : (Option.isSome ((some Tryz.f41).bind (·.body))) = true := by kernel_rfl
  rw [h] at this
  cases this

theorem loopCR (M : Int) (et : TypeId) (ro : Bool) (lo off n c : Nat) (L : List Int) (h1 : insideI lo L off (n * 5) = true) (h2 : n ≤ 34359738368) :
    WpW Tryz.prog (Sg1 M) 4 4 (.loop BCR) [slV off n c, undef, .int .i64 (0), .int .i64 (0), undef, undef, undef, undef, undef, undef, undef, undef, undef, undef, undef, undef, undef, undef, undef] [uni, pow, mxl M, kB et ro lo L] fun x T S => S = [uni, pow, mxl M, kB et ro lo L] ∧ ((x = .exit 0 ∧ (chkL (nmL L (off - lo) n)) = 0 ∧ ∃ (a0 a1 a2 a3 a4 a5 a6 a7 a8 a9 a10 a11 a12 a13 a14 a15 a16 a17 a18 : Value), T = [a0, a1, a2, a3, a4, a5, a6, a7, a8, a9, a10, a11, a12, a13, a14, a15, a16, a17, a18]) ∨
      (x = .ret ∧ ∃ (a0 a1 a3 a4 a5 a6 a7 a8 a9 a10 a11 a12 a13 a14 a15 a16 a17 a18 : Value), T = [a0, a1, .int .i64 (chkL (nmL L (off - lo) n)), a3, a4, a5, a6, a7, a8, a9, a10, a11, a12, a13, a14, a15, a16, a17, a18])) := by
  have hor := orcOk_of (LSR_ok M)
  refine WpW.loop (fun m T S => ∃ (i : Nat) (v4 v5 v6 v7 v8 v9 v10 v11 v12 v13 v14 v15 v16 v17 v18 : Value), i ≤ n ∧ m = n - i ∧ (chkL (nmL L (off - lo) n)) = chkL (nmL L (off - lo + 5 * i) (n - i)) ∧ S = [uni, pow, mxl M, kB et ro lo L] ∧ T = [slV off n c, undef, .int .i64 (0), .int .i64 ((i : Nat)), v4, v5, v6, v7, v8, v9, v10, v11, v12, v13, v14, v15, v16, v17, v18]) ?_ n _ _ ⟨0, undef, undef, undef, undef, undef, undef, undef, undef, undef, undef, undef, undef, undef, undef, undef, Nat.zero_le _, by omega, by simp, rfl, rfl⟩
  rintro m T S ⟨i, v4, v5, v6, v7, v8, v9, v10, v11, v12, v13, v14, v15, v16, v17, v18, hi, hm, hc, rfl, rfl⟩
  by_cases hlt : i < n
  · obtain ⟨h3, h4⟩ := inside_at h1 hlt
    have ex : off + ((i : Nat) : Int).toNat * 5 - lo = off - lo + 5 * i := by rw [Int.toNat_natCast]; omega
    have c1 : decide (((i : Nat) : Int) < (n : Int)) = true := decide_eq_true (by omega)
    have c2 : (decide (0 ≤ ((i : Nat) : Int)) && decide (((i : Nat) : Int) < (n : Int))) = true := by rw [c1, decide_eq_true (show 0 ≤ ((i : Nat) : Int) by omega)]; rfl
    have c3 : insideI lo L (off + ((i : Nat) : Int).toNat * 5) 5 = true := by rw [Int.toNat_natCast]; exact h4
    have hw : w (((i : Nat) : Int) + 1) = ((i + 1 : Nat) : Int) := by rw [w_eq _ (by omega) (by omega)]; omega
    have hc2 : (chkL (nmL L (off - lo) n)) = bif chkS (nmI L (off + ((i : Nat) : Int).toNat * 5 - lo)) != 0 then chkS (nmI L (off + ((i : Nat) : Int).toNat * 5 - lo)) else chkL (nmL L (off - lo + 5 * (i + 1)) (n - (i + 1))) := by
      rw [hc, show n - i = (n - (i + 1)) + 1 by omega, nmL, chkL, show off - lo + 5 * i + 5 = off - lo + 5 * (i + 1) by omega, ← ex]
    cases hx : chkS (nmI L (off + ((i : Nat) : Int).toNat * 5 - lo)) != 0 with
    | true =>
      rw [hx, cond_true] at hc2
      refine WpW.of_ev (sg1 M) hor (show 3 ≤ 4 by decide) (Ev.of_eq 60 (fun s k => (roundCR M s et ro lo off n c L i v4 v5 v6 v7 v8 v9 v10 v11 v12 v13 v14 v15 v16 v17 v18 k).trans ((condT c1).trans ((condT c2).trans ((condT c3).trans (condT hx))))) ?_)
      exact ⟨rfl, .inr ⟨rfl, _, _, _, _, _, _, _, _, _, _, _, _, _, _, _, _, _, _, by rw [hc2]⟩⟩
    | false =>
      rw [hx, cond_false] at hc2
      refine WpW.of_ev (sg1 M) hor (show 3 ≤ 4 by decide) (Ev.of_eq 60 (fun s k => (roundCR M s et ro lo off n c L i v4 v5 v6 v7 v8 v9 v10 v11 v12 v13 v14 v15 v16 v17 v18 k).trans ((condT c1).trans ((condT c2).trans ((condT c3).trans (condF hx))))) ?_)
      exact ⟨n - (i + 1), by omega, i + 1, .int .i64 (chkS (nmI L (off + ((i : Nat) : Int).toNat * 5 - lo))), .int .i64 (((i : Nat) : Int)), slV off n c, .int .i64 ((n : Int)), .bool true, .int .i64 (((i : Nat) : Int)), .int .i64 ((i + 1 : Nat)), slV off n c, .int .i64 (((i : Nat) : Int)), .pointer (some ⟨3, off + ((i : Nat) : Int).toNat * 5, none⟩), N.v (nmI L (off + ((i : Nat) : Int).toNat * 5 - lo)), .int .i64 (chkS (nmI L (off + ((i : Nat) : Int).toNat * 5 - lo))), .int .i64 (chkS (nmI L (off + ((i : Nat) : Int).toNat * 5 - lo))), .bool false, v18, by omega, rfl, hc2, rfl, by rw [hw]⟩
  · have c1 : decide (((i : Nat) : Int) < (n : Int)) = false := decide_eq_false (by omega)
    have hz : (chkL (nmL L (off - lo) n)) = 0 := by rw [hc, show n - i = 0 by omega]; rfl
    refine WpW.of_ev (sg1 M) hor (show 3 ≤ 4 by decide) (Ev.of_eq 60 (fun s k => (roundCR M s et ro lo off n c L i v4 v5 v6 v7 v8 v9 v10 v11 v12 v13 v14 v15 v16 v17 v18 k).trans (condF c1)) ?_)
    exact ⟨rfl, .inl ⟨rfl, hz, _, _, _, _, _, _, _, _, _, _, _, _, _, _, _, _, _, _, _, rfl⟩⟩
theorem atCR (M : Int) (et : TypeId) (ro : Bool) (lo off n c : Nat) (L : List Int) (h1 : insideI lo L off (n * 5) = true) (h2 : n ≤ 34359738368) :
    CallAt Tryz.prog (Sg1 M) 4 41 [slV off n c] [uni, pow, mxl M, kB et ro lo L] (.int .i64 (chkL (nmL L (off - lo) n))) [uni, pow, mxl M, kB et ro lo L] := by
  have hor := orcOk_of (LSR_ok M)
  refine CallAt.of_W bodyCR (show 3 ≤ 4 by decide) (Ext.refl _ _) rfl (List.all_eq_true.1 rfl) (List.all_eq_true.1 rfl) rfl ?_
  rw [tmpsCR]
  refine WpW.of_pieces ?_
  rw [show flatC (bodyOf Tryz.prog 41) = _ from LCRl_eq]
  show WpL Tryz.prog (Sg1 M) 4 4 ([qCR 0, qCR 1] ++ [.block 0 (.loop BCR), qCR 3, qCR 4]) _ _ _
  refine WpL.run (sg1 M) hor (show 3 ≤ 4 by decide) (headCR M _ et ro lo off n c L _) ?_
  refine WpL.step (WpW.block ((loopCR M et ro lo off n c L h1 h2).mono ?_))
  rintro x T S ⟨rfl, ⟨rfl, hz, a0, a1, a2, a3, a4, a5, a6, a7, a8, a9, a10, a11, a12, a13, a14, a15, a16, a17, a18, rfl⟩ | ⟨rfl, a0, a1, a3, a4, a5, a6, a7, a8, a9, a10, a11, a12, a13, a14, a15, a16, a17, a18, rfl⟩⟩
  · simp only [if_true]
    refine WpL.stop (sg1 M) hor (show 3 ≤ 4 by decide) (tailCR M _ _ _ _ _ _ _ _ _ _ _ _ _ _ _ _ _ _ _ _ _ _) ⟨trivial, ⟨[], rfl⟩, ?_⟩
    rw [hz]
    exact outCR _ _ _ _ _ _ _ _ _ _ _ _ _ _ _ _ _ _ _ _
  · exact ⟨trivial, ⟨[], rfl⟩, outCR _ _ _ _ _ _ _ _ _ _ _ _ _ _ _ _ _ _ _ _⟩
noncomputable def cCR : MCon := mconL 41 fun l => .int .i64 (chkL l)
theorem cCR_ok (M : Int) : MConOk M cCR := mconL_ok (fun _ => rfl) fun et ro lo off n c L h1 h2 => atCR M et ro lo off n c L h1 h2
end Go.Proofs.YtihccnfaibiiiaaGreatDoor.R
