/- Ring: the sum of a list of numbers, as a contract (made by mklst3.py). -/
import Derived.Test.YtihccnfaibiiiaaGreatDoorK17
import Derived.Test.YtihccnfaibiiiaaGreatDoorK07
namespace Go.Proofs.YtihccnfaibiiiaaGreatDoor.R
open Go Go.Proofs.XX.Vm Go.Proofs.XX.Rm Go.RowKit
set_option maxRecDepth 100000

theorem shr_le {nb nb' fl : Nat} {τ : Nat → Nat} {T' T'' : List Value} {S' S'' : List Blk} (h : Shr nb fl τ T' S' T'' S'') (hl : nb' ≤ nb) : Shr nb' fl τ T' S' T'' S'' :=
  ⟨fun i hi => h.fix i (by omega), h.inj, Nat.le_trans hl h.least, h.tmps, h.sh, h.blk, fun b h1 h2 => h.keep b h1 (by omega)⟩
theorem bodyTO : (Tryz.prog.funcs[65]?).bind (·.body) ≠ none := by
  rw [Tryz.func65]
  intro h
  have : (Option.isSome ((some Tryz.f65).bind (·.body))) = true := by kernel_rfl
  rw [h] at this
  cases this
theorem loopTO (M : Int) (et : TypeId) (ro : Bool) (lo off n c : Nat) (L : List Int) (h1 : insideI lo L off (n * 5) = true) (h2 : n ≤ 34359738368) :
    WpW Tryz.prog (Sg1 M) 4 4 (.loop BTO) [slV off n c, undef, ptrN 4, .int .i64 (0), ptrN 5, undef, undef, undef, slV off n c, .int .i64 ((n : Int)), .int .i64 (0), undef, undef, undef, undef, undef, undef, undef, undef, undef, undef, undef, undef, undef, undef, undef] [uni, pow, mxl M, kB et ro lo L, rb O, rb O] fun x T S => (x = .exit 0 ∧ ∃ (z : N) (R : List Blk), (R = [] ∨ ∃ y, R = [rb y]) ∧ (totL O (nmL L (off - lo) n)) = (z, 0) ∧ S = uni :: pow :: mxl M :: kB et ro lo L :: rb O :: rb z :: R ∧ ∃ (a0 a1 a3 a5 a6 a7 a8 a9 a10 a11 a12 a13 a14 a15 a16 a17 a18 a19 a20 a21 a22 a23 a24 a25 : Value), T = [a0, a1, ptrN 4, a3, ptrN 5, a5, a6, a7, a8, a9, a10, a11, a12, a13, a14, a15, a16, a17, a18, a19, a20, a21, a22, a23, a24, a25]) ∨
      (x = .ret ∧ ∃ (y : N) (e : Int) (R : List Blk), (totL O (nmL L (off - lo) n)) = (y, e) ∧ S = uni :: pow :: mxl M :: kB et ro lo L :: rb y :: R ∧ ∃ (a0 a1 a4 a5 a6 a7 a8 a9 a10 a11 a12 a13 a14 a15 a16 a17 a18 a19 a20 a21 a22 a23 a24 a25 : Value), T = [a0, a1, ptrN 4, .int .i64 e, a4, a5, a6, a7, a8, a9, a10, a11, a12, a13, a14, a15, a16, a17, a18, a19, a20, a21, a22, a23, a24, a25]) := by
  have hor := orcOk_of (LSum_ok M)
  refine WpW.loop (fun m T S => ∃ (i : Nat) (z : N) (v7 v11 v12 v13 v14 v15 v16 v17 v18 v19 v20 v21 v22 v23 v24 v25 : Value), [v7, v11, v12, v13, v14, v15, v16, v17, v18, v19, v20, v21, v22, v23, v24, v25].all (sh3 4) = true ∧ i ≤ n ∧ m = n - i ∧ (totL O (nmL L (off - lo) n)) = totL z (nmL L (off - lo + 5 * i) (n - i)) ∧
      ((S = [uni, pow, mxl M, kB et ro lo L, rb O, rb z] ∧ T = [slV off n c, undef, ptrN 4, .int .i64 (0), ptrN 5, undef, undef, v7, slV off n c, .int .i64 ((n : Int)), .int .i64 ((i : Nat)), v11, v12, v13, v14, v15, v16, v17, v18, v19, v20, v21, v22, v23, v24, v25]) ∨ ∃ y, S = [uni, pow, mxl M, kB et ro lo L, rb O, rb z, rb y] ∧ T = [slV off n c, undef, ptrN 4, .int .i64 (0), ptrN 5, undef, ptrN 6, v7, slV off n c, .int .i64 ((n : Int)), .int .i64 ((i : Nat)), v11, v12, v13, v14, v15, v16, v17, v18, v19, v20, v21, v22, v23, v24, v25])) ?_ n _ _ ⟨0, O, undef, undef, undef, undef, undef, undef, undef, undef, undef, undef, undef, undef, undef, undef, undef, undef, rfl, Nat.zero_le _, by omega, by simp, .inl ⟨rfl, rfl⟩⟩
  rintro m T S ⟨i, z, v7, v11, v12, v13, v14, v15, v16, v17, v18, v19, v20, v21, v22, v23, v24, v25, hJ, hi, hm, hc, hs⟩
  have h22 : sh3 4 v22 = true := (List.all_eq_true.1 hJ) v22 (by simp)
  have h23 : sh3 4 v23 = true := (List.all_eq_true.1 hJ) v23 (by simp)
  have h25 : sh3 4 v25 = true := (List.all_eq_true.1 hJ) v25 (by simp)
  by_cases hlt : i < n
  · obtain ⟨h3, h4⟩ := inside_at h1 hlt
    have ex : off + ((i : Nat) : Int).toNat * 5 - lo = off - lo + 5 * i := by rw [Int.toNat_natCast]; omega
    have c1 : decide (((i : Nat) : Int) < (n : Int)) = true := decide_eq_true (by omega)
    have c2 : (decide (0 ≤ ((i : Nat) : Int)) && decide (((i : Nat) : Int) < (n : Int))) = true := by rw [c1, decide_eq_true (show 0 ≤ ((i : Nat) : Int) by omega)]; rfl
    have c3 : insideI lo L (off + ((i : Nat) : Int).toNat * 5) 5 = true := by rw [Int.toNat_natCast]; exact h4
    have hw : w (((i : Nat) : Int) + 1) = ((i + 1 : Nat) : Int) := by rw [w_eq _ (by omega) (by omega)]; omega
    have hc2 : (totL O (nmL L (off - lo) n)) = bif (twoS z (nmI L (off + ((i : Nat) : Int).toNat * 5 - lo)) (z.sum (nmI L (off + ((i : Nat) : Int).toNat * 5 - lo)))).2 != 0 then (O, (twoS z (nmI L (off + ((i : Nat) : Int).toNat * 5 - lo)) (z.sum (nmI L (off + ((i : Nat) : Int).toNat * 5 - lo)))).2) else totL (twoS z (nmI L (off + ((i : Nat) : Int).toNat * 5 - lo)) (z.sum (nmI L (off + ((i : Nat) : Int).toNat * 5 - lo)))).1 (nmL L (off - lo + 5 * (i + 1)) (n - (i + 1))) := by
      rw [hc, show n - i = (n - (i + 1)) + 1 by omega, nmL, totL, show off - lo + 5 * i + 5 = off - lo + 5 * (i + 1) by omega, ← ex]
    rcases hs with ⟨rfl, rfl⟩ | ⟨y, rfl, rfl⟩
    · cases hx : (twoS z (nmI L (off + ((i : Nat) : Int).toNat * 5 - lo)) (z.sum (nmI L (off + ((i : Nat) : Int).toNat * 5 - lo)))).2 != 0 with
      | true =>
        rw [hx, cond_true] at hc2
        refine WpW.of_ev (sg1 M) hor (show 3 ≤ 4 by decide) (Ev.of_eq 60 (fun s k => (roundTO0 M s et ro lo off n c L i z v7 v11 v12 v13 v14 v15 v16 v17 v18 v19 v20 v21 v22 v23 v24 v25 k).trans ((condT c1).trans ((condT c2).trans ((condT c3).trans (condT hx))))) ?_)
        exact .inr ⟨rfl, _, _, _, hc2, rfl, _, _, _, _, _, _, _, _, _, _, _, _, _, _, _, _, _, _, _, _, _, _, _, _, rfl⟩
      | false =>
        rw [hx, cond_false] at hc2
        refine WpW.of_ev (sg1 M) hor (show 3 ≤ 4 by decide) (Ev.of_eq 60 (fun s k => (roundTO0 M s et ro lo off n c L i z v7 v11 v12 v13 v14 v15 v16 v17 v18 v19 v20 v21 v22 v23 v24 v25 k).trans ((condT c1).trans ((condT c2).trans ((condT c3).trans (condF hx))))) ?_)
        exact ⟨n - (i + 1), by omega, i + 1, (twoS z (nmI L (off + ((i : Nat) : Int).toNat * 5 - lo)) (z.sum (nmI L (off + ((i : Nat) : Int).toNat * 5 - lo)))).1, .int .i64 ((twoS z (nmI L (off + ((i : Nat) : Int).toNat * 5 - lo)) (z.sum (nmI L (off + ((i : Nat) : Int).toNat * 5 - lo)))).2), .bool true, .pointer (some ⟨3, off + ((i : Nat) : Int).toNat * 5, none⟩), N.v (nmI L (off + ((i : Nat) : Int).toNat * 5 - lo)), resV (twoS z (nmI L (off + ((i : Nat) : Int).toNat * 5 - lo)) (z.sum (nmI L (off + ((i : Nat) : Int).toNat * 5 - lo)))), N.v z, N.v (nmI L (off + ((i : Nat) : Int).toNat * 5 - lo)), resV (twoS z (nmI L (off + ((i : Nat) : Int).toNat * 5 - lo)) (z.sum (nmI L (off + ((i : Nat) : Int).toNat * 5 - lo)))), N.v (twoS z (nmI L (off + ((i : Nat) : Int).toNat * 5 - lo)) (z.sum (nmI L (off + ((i : Nat) : Int).toNat * 5 - lo)))).1, .int .i64 ((twoS z (nmI L (off + ((i : Nat) : Int).toNat * 5 - lo)) (z.sum (nmI L (off + ((i : Nat) : Int).toNat * 5 - lo)))).2), .int .i64 ((twoS z (nmI L (off + ((i : Nat) : Int).toNat * 5 - lo)) (z.sum (nmI L (off + ((i : Nat) : Int).toNat * 5 - lo)))).2), .bool false, v22, v23, .int .i64 ((i + 1 : Nat)), v25, by simp only [List.all_cons, List.all_nil, h22, h23, h25]; rfl, by omega, rfl, hc2, .inr ⟨(nmI L (off + ((i : Nat) : Int).toNat * 5 - lo)), rfl, by rw [hw]⟩⟩
    · cases hx : (twoS z (nmI L (off + ((i : Nat) : Int).toNat * 5 - lo)) (z.sum (nmI L (off + ((i : Nat) : Int).toNat * 5 - lo)))).2 != 0 with
      | true =>
        rw [hx, cond_true] at hc2
        refine WpW.of_ev (sg1 M) hor (show 3 ≤ 4 by decide) (Ev.of_eq 60 (fun s k => (roundTO1 M s et ro lo off n c L i z y v7 v11 v12 v13 v14 v15 v16 v17 v18 v19 v20 v21 v22 v23 v24 v25 k).trans ((condT c1).trans ((condT c2).trans ((condT c3).trans (condT hx))))) ?_)
        exact .inr ⟨rfl, _, _, _, hc2, rfl, _, _, _, _, _, _, _, _, _, _, _, _, _, _, _, _, _, _, _, _, _, _, _, _, rfl⟩
      | false =>
        rw [hx, cond_false] at hc2
        refine WpW.post (show 3 ≤ 4 by decide) (show 3 ≤ 4 by decide) (WpW.of_ev (sg1 M) hor (show 3 ≤ 4 by decide) (Q := fun x T S => x = .normal ∧ T = [slV off n c, undef, ptrN 4, .int .i64 (0), ptrN 5, undef, ptrN 7, .int .i64 ((twoS z (nmI L (off + ((i : Nat) : Int).toNat * 5 - lo)) (z.sum (nmI L (off + ((i : Nat) : Int).toNat * 5 - lo)))).2), slV off n c, .int .i64 ((n : Int)), .int .i64 ((i + 1 : Nat)), .bool true, .pointer (some ⟨3, off + ((i : Nat) : Int).toNat * 5, none⟩), N.v (nmI L (off + ((i : Nat) : Int).toNat * 5 - lo)), resV (twoS z (nmI L (off + ((i : Nat) : Int).toNat * 5 - lo)) (z.sum (nmI L (off + ((i : Nat) : Int).toNat * 5 - lo)))), N.v z, N.v (nmI L (off + ((i : Nat) : Int).toNat * 5 - lo)), resV (twoS z (nmI L (off + ((i : Nat) : Int).toNat * 5 - lo)) (z.sum (nmI L (off + ((i : Nat) : Int).toNat * 5 - lo)))), N.v (twoS z (nmI L (off + ((i : Nat) : Int).toNat * 5 - lo)) (z.sum (nmI L (off + ((i : Nat) : Int).toNat * 5 - lo)))).1, .int .i64 ((twoS z (nmI L (off + ((i : Nat) : Int).toNat * 5 - lo)) (z.sum (nmI L (off + ((i : Nat) : Int).toNat * 5 - lo)))).2), .int .i64 ((twoS z (nmI L (off + ((i : Nat) : Int).toNat * 5 - lo)) (z.sum (nmI L (off + ((i : Nat) : Int).toNat * 5 - lo)))).2), .bool false, v22, v23, .int .i64 ((i + 1 : Nat)), v25] ∧ S = [uni, pow, mxl M, kB et ro lo L, rb O, rb (twoS z (nmI L (off + ((i : Nat) : Int).toNat * 5 - lo)) (z.sum (nmI L (off + ((i : Nat) : Int).toNat * 5 - lo)))).1, rb y, rb (nmI L (off + ((i : Nat) : Int).toNat * 5 - lo))])
          (Ev.of_eq 60 (fun s k => (roundTO1 M s et ro lo off n c L i z y v7 v11 v12 v13 v14 v15 v16 v17 v18 v19 v20 v21 v22 v23 v24 v25 k).trans ((condT c1).trans ((condT c2).trans ((condT c3).trans (condF hx))))) ⟨rfl, by rw [hw], rfl⟩)) ?_
        rintro x T S ⟨rfl, rfl, rfl⟩
        refine ⟨_, _, _, shr_le (Shr.turn (fl := 4) (B := [uni, pow, mxl M, kB et ro lo L, rb O, rb (twoS z (nmI L (off + ((i : Nat) : Int).toNat * 5 - lo)) (z.sum (nmI L (off + ((i : Nat) : Int).toNat * 5 - lo)))).1]) (y := rb y) (z := rb (nmI L (off + ((i : Nat) : Int).toNat * 5 - lo))) (A := [slV off n c, undef, ptrN 4, .int .i64 (0), ptrN 5, undef]) (C := [.int .i64 ((twoS z (nmI L (off + ((i : Nat) : Int).toNat * 5 - lo)) (z.sum (nmI L (off + ((i : Nat) : Int).toNat * 5 - lo)))).2), slV off n c, .int .i64 ((n : Int)), .int .i64 ((i + 1 : Nat)), .bool true, .pointer (some ⟨3, off + ((i : Nat) : Int).toNat * 5, none⟩), N.v (nmI L (off + ((i : Nat) : Int).toNat * 5 - lo)), resV (twoS z (nmI L (off + ((i : Nat) : Int).toNat * 5 - lo)) (z.sum (nmI L (off + ((i : Nat) : Int).toNat * 5 - lo)))), N.v z, N.v (nmI L (off + ((i : Nat) : Int).toNat * 5 - lo)), resV (twoS z (nmI L (off + ((i : Nat) : Int).toNat * 5 - lo)) (z.sum (nmI L (off + ((i : Nat) : Int).toNat * 5 - lo)))), N.v (twoS z (nmI L (off + ((i : Nat) : Int).toNat * 5 - lo)) (z.sum (nmI L (off + ((i : Nat) : Int).toNat * 5 - lo)))).1, .int .i64 ((twoS z (nmI L (off + ((i : Nat) : Int).toNat * 5 - lo)) (z.sum (nmI L (off + ((i : Nat) : Int).toNat * 5 - lo)))).2), .int .i64 ((twoS z (nmI L (off + ((i : Nat) : Int).toNat * 5 - lo)) (z.sum (nmI L (off + ((i : Nat) : Int).toNat * 5 - lo)))).2), .bool false, v22, v23, .int .i64 ((i + 1 : Nat)), v25]) rfl (by simp only [List.all_cons, List.all_nil, List.length_cons, List.length_nil, sh3_mono (show 4 ≤ 6 by decide) h22, sh3_mono (show 4 ≤ 6 by decide) h23, sh3_mono (show 4 ≤ 6 by decide) h25]; rfl) (List.all_eq_true.1 rfl) rfl rfl) (show 4 ≤ 6 by decide), ?_⟩
        exact ⟨n - (i + 1), by omega, i + 1, (twoS z (nmI L (off + ((i : Nat) : Int).toNat * 5 - lo)) (z.sum (nmI L (off + ((i : Nat) : Int).toNat * 5 - lo)))).1, .int .i64 ((twoS z (nmI L (off + ((i : Nat) : Int).toNat * 5 - lo)) (z.sum (nmI L (off + ((i : Nat) : Int).toNat * 5 - lo)))).2), .bool true, .pointer (some ⟨3, off + ((i : Nat) : Int).toNat * 5, none⟩), N.v (nmI L (off + ((i : Nat) : Int).toNat * 5 - lo)), resV (twoS z (nmI L (off + ((i : Nat) : Int).toNat * 5 - lo)) (z.sum (nmI L (off + ((i : Nat) : Int).toNat * 5 - lo)))), N.v z, N.v (nmI L (off + ((i : Nat) : Int).toNat * 5 - lo)), resV (twoS z (nmI L (off + ((i : Nat) : Int).toNat * 5 - lo)) (z.sum (nmI L (off + ((i : Nat) : Int).toNat * 5 - lo)))), N.v (twoS z (nmI L (off + ((i : Nat) : Int).toNat * 5 - lo)) (z.sum (nmI L (off + ((i : Nat) : Int).toNat * 5 - lo)))).1, .int .i64 ((twoS z (nmI L (off + ((i : Nat) : Int).toNat * 5 - lo)) (z.sum (nmI L (off + ((i : Nat) : Int).toNat * 5 - lo)))).2), .int .i64 ((twoS z (nmI L (off + ((i : Nat) : Int).toNat * 5 - lo)) (z.sum (nmI L (off + ((i : Nat) : Int).toNat * 5 - lo)))).2), .bool false, v22, v23, .int .i64 ((i + 1 : Nat)), v25, by simp only [List.all_cons, List.all_nil, h22, h23, h25]; rfl, by omega, rfl, hc2, .inr ⟨(nmI L (off + ((i : Nat) : Int).toNat * 5 - lo)), rfl, rfl⟩⟩
  · have c1 : decide (((i : Nat) : Int) < (n : Int)) = false := decide_eq_false (by omega)
    have hz : (totL O (nmL L (off - lo) n)) = (z, 0) := by rw [hc, show n - i = 0 by omega]; rfl
    rcases hs with ⟨rfl, rfl⟩ | ⟨y, rfl, rfl⟩
    · refine WpW.of_ev (sg1 M) hor (show 3 ≤ 4 by decide) (Ev.of_eq 60 (fun s k => (roundTO0 M s et ro lo off n c L i z v7 v11 v12 v13 v14 v15 v16 v17 v18 v19 v20 v21 v22 v23 v24 v25 k).trans (condF c1)) ?_)
      exact .inl ⟨rfl, z, [], .inl rfl, hz, rfl, _, _, _, _, _, _, _, _, _, _, _, _, _, _, _, _, _, _, _, _, _, _, _, _, rfl⟩
    · refine WpW.of_ev (sg1 M) hor (show 3 ≤ 4 by decide) (Ev.of_eq 60 (fun s k => (roundTO1 M s et ro lo off n c L i z y v7 v11 v12 v13 v14 v15 v16 v17 v18 v19 v20 v21 v22 v23 v24 v25 k).trans (condF c1)) ?_)
      exact .inl ⟨rfl, z, [rb y], .inr ⟨y, rfl⟩, hz, rfl, _, _, _, _, _, _, _, _, _, _, _, _, _, _, _, _, _, _, _, _, _, _, _, _, rfl⟩
theorem atTO (M : Int) (et : TypeId) (ro : Bool) (lo off n c : Nat) (L : List Int) (h1 : insideI lo L off (n * 5) = true) (h2 : n ≤ 34359738368) :
    CallAt Tryz.prog (Sg1 M) 4 65 [slV off n c] [uni, pow, mxl M, kB et ro lo L] (resV (totL O (nmL L (off - lo) n))) [uni, pow, mxl M, kB et ro lo L] := by
  have hor := orcOk_of (LSum_ok M)
  refine CallAt.of_W bodyTO (show 3 ≤ 4 by decide) (Ext.refl _ _) rfl (List.all_eq_true.1 rfl) (List.all_eq_true.1 rfl) rfl ?_
  rw [tmpsTO]
  refine WpW.of_pieces ?_
  rw [show flatC (bodyOf Tryz.prog 65) = _ from LTO_eq]
  show WpL Tryz.prog (Sg1 M) 4 4 ([qTO 0, qTO 1, qTO 2] ++ [.block 0 (.loop BTO), qTO 4, qTO 5]) _ _ _
  refine WpL.run (sg1 M) hor (show 3 ≤ 4 by decide) (headTO M _ et ro lo off n c L _) ?_
  refine WpL.step (WpW.block ((loopTO M et ro lo off n c L h1 h2).mono ?_))
  rintro x T S (⟨rfl, z, R, hR, hz, rfl, a0, a1, a3, a5, a6, a7, a8, a9, a10, a11, a12, a13, a14, a15, a16, a17, a18, a19, a20, a21, a22, a23, a24, a25, rfl⟩ | ⟨rfl, y, e, R, hz, rfl, a0, a1, a4, a5, a6, a7, a8, a9, a10, a11, a12, a13, a14, a15, a16, a17, a18, a19, a20, a21, a22, a23, a24, a25, rfl⟩)
  · simp only [if_true]
    rcases hR with rfl | ⟨y, rfl⟩
    · refine WpL.stop (sg1 M) hor (show 3 ≤ 4 by decide) (tailTO0 M _ et ro lo L z _ _ _ _ _ _ _ _ _ _ _ _ _ _ _ _ _ _ _ _ _ _ _ _ _) ⟨trivial, ⟨rb z :: rb z :: [], rfl⟩, ?_⟩
      rw [hz]
      exact outTO _ _ _ _ _ _ _ _ _ _ _ _ _ _ _ _ _ _ _ _ _ _ _ _ _ _ _ _ _ _ _
    · refine WpL.stop (sg1 M) hor (show 3 ≤ 4 by decide) (tailTO1 M _ et ro lo L z y _ _ _ _ _ _ _ _ _ _ _ _ _ _ _ _ _ _ _ _ _ _ _ _ _) ⟨trivial, ⟨rb z :: rb z :: [rb y], rfl⟩, ?_⟩
      rw [hz]
      exact outTO _ _ _ _ _ _ _ _ _ _ _ _ _ _ _ _ _ _ _ _ _ _ _ _ _ _ _ _ _ _ _
  · refine ⟨trivial, ⟨rb y :: R, rfl⟩, ?_⟩
    rw [hz]
    exact outTO _ _ _ _ _ _ _ _ _ _ _ _ _ _ _ _ _ _ _ _ _ _ _ _ _ _ _ _ _ _ _
/-- A contract of calls with one list of numbers, that is read alone. -/
noncomputable def mconL (f : FuncId) (g : List N → Value) : MCon := ⟨f, fun _ args S => match args with
  | [.slice (some ⟨b, off, none⟩) n _] => match S[b]? with
    | some ⟨[], _, _, some (.ints .i64 lo L)⟩ => some (.ite (Nat.ble 3 b && (insideI lo L off (n * 5) && Nat.ble n 34359738368)) (.val (g (nmL L (off - lo) n)) S) .no)
    | _ => none
  | _ => none⟩
theorem mconL_ok {M : Int} {f : FuncId} {g : List N → Value} (hg : ∀ l, plain (g l) = true)
    (h : ∀ (et : TypeId) (ro : Bool) (lo off n c : Nat) (L : List Int), insideI lo L off (n * 5) = true → n ≤ 34359738368 → CallAt Tryz.prog (Sg1 M) 4 f [slV off n c] [uni, pow, mxl M, kB et ro lo L] (g (nmL L (off - lo) n)) [uni, pow, mxl M, kB et ro lo L]) : MConOk M (mconL f g) := by
  intro fl args S t v S' ht hv h1 h2
  simp only [mconL] at ht
  split at ht
  · rename_i b off n c
    split at ht
    · rename_i et ro lo L hb
      cases ht
      simp only [OTM.get] at hv
      cases hk : (Nat.ble 3 b && (insideI lo L off (n * 5) && Nat.ble n 34359738368)) with
      | false => rw [hk] at hv; cases hv
      | true =>
        rw [hk] at hv
        simp only [cond_true, Option.some.injEq, Prod.mk.injEq] at hv
        obtain ⟨rfl, rfl⟩ := hv
        simp only [Bool.and_eq_true, Nat.ble_eq] at hk
        obtain ⟨g3, g4, g5⟩ := hk
        have := callAtR (sg1 M) (fl := fl) (b := b) (S := S) (k1 := kB et ro lo L) (args0 := [slV off n c]) (h et ro lo off n c L g4 g5) hb g3 rfl (plain_sh (hg _) _) rfl
        rw [ren3_plain (hg _)] at this
        exact this
    · cases ht
  · cases ht
noncomputable def cTO : MCon := mconL 65 fun l => resV (totL O l)
theorem cTO_ok (M : Int) : MConOk M cTO := mconL_ok (fun _ => rfl) fun et ro lo off n c L h1 h2 => atTO M et ro lo off n c L h1 h2
end Go.Proofs.YtihccnfaibiiiaaGreatDoor.R
/- Ring: whether all numbers of a list are right, and their sum: the program's functions, as contracts. -/
namespace Go.Proofs.YtihccnfaibiiiaaGreatDoor.R
open Go Go.Proofs.XX.Vm Go.Proofs.XX.Rm Go.RowKit
set_option maxRecDepth 100000

/-- The test of a contract of lists. -/
def tsL (lo off n : Nat) (L : List Int) : Bool := Nat.ble 3 3 && (insideI lo L off (n * 5) && Nat.ble n 34359738368)
theorem tsL_true {lo off n : Nat} {L : List Int} (h1 : insideI lo L off (n * 5) = true) (h2 : n ≤ 34359738368) : tsL lo off n L = true := by
  unfold tsL
  rw [h1, show Nat.ble n 34359738368 = true from by rw [Nat.ble_eq]; exact h2]
  rfl
theorem tCA {α : Type} (M : Int) (m : Nat) (et : TypeId) (ro : Bool) (lo off n c : Nat) (L : List Int) (k : Value → List Blk → Option α) :
    callInK Tryz.prog (evCodeK Tryz.prog (orcLM LSum [cFE]) (Sg1 M) (m + 80)) 4 64 [slV off n c] [uni, pow, mxl M, kB et ro lo L] k =
    bif tsL lo off n L then k (.int .i64 (chkL (nmL L (off - lo) n))) [uni, pow, mxl M, kB et ro lo L] else none := by kernel_rfl
theorem hMFE (M : Int) : ∀ c ∈ [cFE], MConOk M c := mem_cons_mok (cFE_ok M) nil_mok
noncomputable def cCA : MCon := mconL 64 fun l => .int .i64 (chkL l)
theorem cCA_ok (M : Int) : MConOk M cCA := mconL_ok (fun _ => rfl) fun et ro lo off n c L h1 h2 =>
  EvM.callAt (sg1 M) (orcLM_ok (LSum_ok M) (hMFE M)) (EvM.of_eq 80 (fun m k => (tCA M m et ro lo off n c L k).trans (condT (tsL_true h1 h2))) ⟨rfl, rfl⟩) (show 3 ≤ 4 by decide) (show 3 ≤ 4 by decide)
end Go.Proofs.YtihccnfaibiiiaaGreatDoor.R
/- Ring: the sum of a list of numbers: the program's Sum, as a contract. -/
namespace Go.Proofs.YtihccnfaibiiiaaGreatDoor.R
open Go Go.Proofs.XX.Vm Go.Proofs.XX.Rm Go.RowKit
set_option maxRecDepth 100000

def sumL (l : List N) : N × Int := bif chkL l != 0 then (O, chkL l) else totL O l
theorem nthI_cut (L : List Int) (k t o : Nat) (h : o < t) : nthI ((L.drop k).take t) o = nthI L (k + o) := by
  rw [nthI_eq, nthI_eq, List.getElem?_take, if_pos h, List.getElem?_drop]
theorem nmL_cut (L : List Int) (k t : Nat) : ∀ m o, o + 5 * m ≤ t → nmL ((L.drop k).take t) o m = nmL L (k + o) m
  | 0, _, _ => rfl
  | m + 1, o, h => by
    rw [nmL, nmL, nmL_cut L k t m (o + 5) (by omega)]
    congr 1
    unfold nmI
    rw [nthI_cut _ _ _ _ (by omega), nthI_cut _ _ _ _ (by omega), nthI_cut _ _ _ _ (by omega), nthI_cut _ _ _ _ (by omega), nthI_cut _ _ _ _ (by omega)]
    rfl
def apL (lo off n : Nat) (L : List Int) : Bool := insideI lo L off (n * 5) && Nat.ble n 34359738368
def cutL (lo off n : Nat) (L : List Int) : List Int := (L.drop (off - lo)).take (n * 5)
theorem hMSu (M : Int) : ∀ c ∈ [cCA, cTO], MConOk M c := mem_cons_mok (cCA_ok M) (mem_cons_mok (cTO_ok M) nil_mok)
theorem tSu (M : Int) (m : Nat) (et : TypeId) (ro : Bool) (lo off n c : Nat) (L : List Int) :
    callInK Tryz.prog (evCodeK Tryz.prog (orcLM LSum [cCA, cTO]) (Sg1 M) (m + 80)) 4 28 [slV off n c] [uni, pow, mxl M, kB et ro lo L] (fun u U => some (u, U.take 4)) =
    bif tsL lo off n L then (bif chkL (nmL L (off - lo) n) != 0 then some (resV (O, chkL (nmL L (off - lo) n)), [uni, pow, mxl M, kB et ro lo L]) else (bif apL lo off n L then
      (bif Nat.beq n 0 then some (resV (O, 0), [uni, pow, mxl M, kB et ro lo L]) else (bif tsL 0 0 n (cutL lo off n L) then some (resV (totL O (nmL (cutL lo off n L) 0 n)), [uni, pow, mxl M, kB et ro lo L]) else none)) else none)) else none := by kernel_rfl
theorem atSu (M : Int) (et : TypeId) (ro : Bool) (lo off n c : Nat) (L : List Int) (h1 : insideI lo L off (n * 5) = true) (h2 : n ≤ 34359738368) :
    CallAt Tryz.prog (Sg1 M) 4 28 [slV off n c] [uni, pow, mxl M, kB et ro lo L] (resV (sumL (nmL L (off - lo) n))) [uni, pow, mxl M, kB et ro lo L] := by
  have e := tSu M 0 et ro lo off n c L
  have hi : lo ≤ off ∧ off + n * 5 ≤ lo + L.length := by simpa [insideI, Nat.ble_eq] using h1
  have hlen : (cutL lo off n L).length = n * 5 := by unfold cutL; simp; omega
  have hap : apL lo off n L = true := by
    unfold apL
    rw [h1, show Nat.ble n 34359738368 = true from by rw [Nat.ble_eq]; exact h2]
    rfl
  have h3 : tsL 0 0 n (cutL lo off n L) = true := tsL_true (by simp [insideI, hlen, Nat.ble_eq]) h2
  rw [tsL_true h1 h2, hap, h3] at e
  have e2 : callInK Tryz.prog (evCodeK Tryz.prog (orcLM LSum [cCA, cTO]) (Sg1 M) (0 + 80)) 4 28 [slV off n c] [uni, pow, mxl M, kB et ro lo L] (fun u U => some (u, U.take 4)) = some (resV (sumL (nmL L (off - lo) n)), [uni, pow, mxl M, kB et ro lo L]) := by
    refine e.trans ?_
    simp only [cond_true]
    unfold sumL
    cases hc : chkL (nmL L (off - lo) n) != 0 with
    | true => rfl
    | false =>
      simp only [cond_false]
      cases hn : Nat.beq n 0 with
      | true =>
        have : n = 0 := Nat.eq_of_beq_eq_true hn
        subst this
        rfl
      | false =>
        simp only [cond_false]
        rw [show nmL (cutL lo off n L) 0 n = nmL L (off - lo) n from nmL_cut L (off - lo) (n * 5) n 0 (by omega)]
  obtain ⟨N, hN⟩ := callInK_take (P := Tryz.prog) (S := [uni, pow, mxl M, kB et ro lo L]) (sg1 M) (orcLM_ok (LSum_ok M) (hMSu M)) e2 (show 3 ≤ 4 by decide) (show 3 ≤ 4 by decide)
  exact callAt_drop (S' := [uni, pow, mxl M, kB et ro lo L]) hN rfl rfl (plain_sh rfl _) (all_at rfl) (all_at rfl)
noncomputable def cSu : MCon := mconL 28 fun l => resV (sumL l)
theorem cSu_ok (M : Int) : MConOk M cSu := mconL_ok (fun _ => rfl) fun et ro lo off n c L h1 h2 => atSu M et ro lo off n c L h1 h2
end Go.Proofs.YtihccnfaibiiiaaGreatDoor.R
/- Ring: whether all numbers of a list are right, and their sum: the specification's functions, piece by piece (made by mkspl.py). -/
namespace Go.Proofs.YtihccnfaibiiiaaGreatDoor.R
open Go Go.Proofs.XX.Vm Go.Proofs.XX.Rm Go.RowKit
set_option maxRecDepth 100000

noncomputable abbrev LSR : List Con := [con1 57 (fun x => .val (.int .i64 (chkS x))), con2 8 fun x y => .val (resV (twoS x y (x.sum y)))]
theorem LSR_ok (M : Int) : ∀ c ∈ LSR, ConOk M c := mem_cons_ok (con1_val (g := chkT) (cChkR_ok M) chkS_get) (mem_cons_ok (con2_val (cAddR_ok M) fun x y => twoS_get x y _) nil_ok)
noncomputable abbrev BCR : Code := loopOf Tryz.prog 41 0
noncomputable abbrev qCR (i : Nat) : Code := nthC (pcs Tryz.prog 41) i
theorem LCRl_eq : pcs Tryz.prog 41 = [qCR 0, qCR 1, .block 0 (.loop BCR), qCR 3, qCR 4] := by kernel_rfl
theorem headCR {α : Type} (M : Int) (fs : Nat → Nat) (et : TypeId) (ro : Bool) (lo off n c : Nat) (L : List Int) (k : Kont α) :
    evP Tryz.prog (orcL LSR) (Sg1 M) 4 fs 0 [qCR 0, qCR 1] (slV off n c :: List.replicate 18 undef) [uni, pow, mxl M, kB et ro lo L] k = k .normal [slV off n c, undef, .int .i64 (0), .int .i64 (0), undef, undef, undef, undef, undef, undef, undef, undef, undef, undef, undef, undef, undef, undef, undef] [uni, pow, mxl M, kB et ro lo L] := by kernel_rfl
theorem roundCR {α : Type} (M : Int) (m : Nat) (et : TypeId) (ro : Bool) (lo off n c : Nat) (L : List Int) (i : Int) (v4 v5 v6 v7 v8 v9 v10 v11 v12 v13 v14 v15 v16 v17 v18 : Value) (k : Kont α) :
    evCodeK Tryz.prog (orcL LSR) (Sg1 M) (m + 60) 4 BCR [slV off n c, undef, .int .i64 (0), .int .i64 (i), v4, v5, v6, v7, v8, v9, v10, v11, v12, v13, v14, v15, v16, v17, v18] [uni, pow, mxl M, kB et ro lo L] k =
    bif decide (i < (n : Int)) then (bif decide (0 ≤ i) && decide (i < (n : Int)) then (bif insideI lo L (off + i.toNat * 5) 5 then (bif chkS (nmI L (off + i.toNat * 5 - lo)) != 0 then k .ret [slV off n c, undef, .int .i64 (chkS (nmI L (off + i.toNat * 5 - lo))), .int .i64 (i), .int .i64 (chkS (nmI L (off + i.toNat * 5 - lo))), .int .i64 (i), slV off n c, .int .i64 ((n : Int)), .bool true, v9, v10, slV off n c, .int .i64 (i), .pointer (some ⟨3, off + i.toNat * 5, none⟩), N.v (nmI L (off + i.toNat * 5 - lo)), .int .i64 (chkS (nmI L (off + i.toNat * 5 - lo))), .int .i64 (chkS (nmI L (off + i.toNat * 5 - lo))), .bool true, .int .i64 (chkS (nmI L (off + i.toNat * 5 - lo)))] [uni, pow, mxl M, kB et ro lo L] else k .normal [slV off n c, undef, .int .i64 (0), .int .i64 (w (i + 1)), .int .i64 (chkS (nmI L (off + i.toNat * 5 - lo))), .int .i64 (i), slV off n c, .int .i64 ((n : Int)), .bool true, .int .i64 (i), .int .i64 (w (i + 1)), slV off n c, .int .i64 (i), .pointer (some ⟨3, off + i.toNat * 5, none⟩), N.v (nmI L (off + i.toNat * 5 - lo)), .int .i64 (chkS (nmI L (off + i.toNat * 5 - lo))), .int .i64 (chkS (nmI L (off + i.toNat * 5 - lo))), .bool false, v18] [uni, pow, mxl M, kB et ro lo L]) else none) else none) else k (.exit 0) [slV off n c, undef, .int .i64 (0), .int .i64 (i), v4, .int .i64 (i), slV off n c, .int .i64 ((n : Int)), .bool false, v9, v10, v11, v12, v13, v14, v15, v16, v17, v18] [uni, pow, mxl M, kB et ro lo L] := by kernel_rfl
theorem tailCR {α : Type} (M : Int) (fs : Nat → Nat) (S : List Blk) (a0 a1 a2 a3 a4 a5 a6 a7 a8 a9 a10 a11 a12 a13 a14 a15 a16 a17 a18 : Value) (k : Kont α) :
    evP Tryz.prog (orcL LSR) (Sg1 M) 4 fs 3 [qCR 3, qCR 4] [a0, a1, a2, a3, a4, a5, a6, a7, a8, a9, a10, a11, a12, a13, a14, a15, a16, a17, a18] S k = k .ret [a0, a1, .int .i64 (0), a3, a4, a5, a6, a7, a8, a9, a10, a11, a12, a13, a14, a15, a16, a17, a18] S := by kernel_rfl
theorem outCR (S : List Blk) (e : Int) (a0 a1 a3 a4 a5 a6 a7 a8 a9 a10 a11 a12 a13 a14 a15 a16 a17 a18 : Value) : outOf Tryz.prog 41 [a0, a1, .int .i64 e, a3, a4, a5, a6, a7, a8, a9, a10, a11, a12, a13, a14, a15, a16, a17, a18] S = some (.int .i64 e) := by kernel_rfl
theorem tmpsCR (a : Value) : tmps0Of Tryz.prog 41 [a] = a :: List.replicate 18 undef := by kernel_rfl
theorem bodyCR : (Tryz.prog.funcs[41]?).bind (·.body) ≠ none := by
  rw [Tryz.func41]
  intro h
  have : (Option.isSome ((some Tryz.f41).bind (·.body))) = true := by kernel_rfl
  rw [h] at this
  cases this

theorem loopCR (M : Int) (et : TypeId) (ro : Bool) (lo off n c : Nat) (L : List Int) (h1 : insideI lo L off (n * 5) = true) (h2 : n ≤ 34359738368) :
    WpW Tryz.prog (Sg1 M) 4 4 (.loop BCR) [slV off n c, undef, .int .i64 (0), .int .i64 (0), undef, undef, undef, undef, undef, undef, undef, undef, undef, undef, undef, undef, undef, undef, undef] [uni, pow, mxl M, kB et ro lo L] fun x T S => S = [uni, pow, mxl M, kB et ro lo L] ∧ ((x = .exit 0 ∧ (chkL (nmL L (off - lo) n)) = 0 ∧ ∃ (a0 a1 a2 a3 a4 a5 a6 a7 a8 a9 a10 a11 a12 a13 a14 a15 a16 a17 a18 : Value), T = [a0, a1, a2, a3, a4, a5, a6, a7, a8, a9, a10, a11, a12, a13, a14, a15, a16, a17, a18]) ∨
      (x = .ret ∧ ∃ (a0 a1 a3 a4 a5 a6 a7 a8 a9 a10 a11 a12 a13 a14 a15 a16 a17 a18 : Value), T = [a0, a1, .int .i64 (chkL (nmL L (off - lo) n)), a3, a4, a5, a6, a7, a8, a9, a10, a11, a12, a13, a14, a15, a16, a17, a18])) := by
  have hor := orcOk_of (LSR_ok M)
  refine WpW.loop (fun m T S => ∃ (i : Nat) (v4 v5 v6 v7 v8 v9 v10 v11 v12 v13 v14 v15 v16 v17 v18 : Value), i ≤ n ∧ m = n - i ∧ (chkL (nmL L (off - lo) n)) = chkL (nmL L (off - lo + 5 * i) (n - i)) ∧ S = [uni, pow, mxl M, kB et ro lo L] ∧ T = [slV off n c, undef, .int .i64 (0), .int .i64 ((i : Nat)), v4, v5, v6, v7, v8, v9, v10, v11, v12, v13, v14, v15, v16, v17, v18]) ?_ n _ _ ⟨0, undef, undef, undef, undef, undef, undef, undef, undef, undef, undef, undef, undef, undef, undef, undef, Nat.zero_le _, by omega, by simp, rfl, rfl⟩
  rintro m T S ⟨i, v4, v5, v6, v7, v8, v9, v10, v11, v12, v13, v14, v15, v16, v17, v18, hi, hm, hc, rfl, rfl⟩
  by_cases hlt : i < n
  · obtain ⟨h3, h4⟩ := inside_at h1 hlt
    have ex : off + ((i : Nat) : Int).toNat * 5 - lo = off - lo + 5 * i := by rw [Int.toNat_natCast]; omega
    have c1 : decide (((i : Nat) : Int) < (n : Int)) = true := decide_eq_true (by omega)
    have c2 : (decide (0 ≤ ((i : Nat) : Int)) && decide (((i : Nat) : Int) < (n : Int))) = true := by rw [c1, decide_eq_true (show 0 ≤ ((i : Nat) : Int) by omega)]; rfl
    have c3 : insideI lo L (off + ((i : Nat) : Int).toNat * 5) 5 = true := by rw [Int.toNat_natCast]; exact h4
    have hw : w (((i : Nat) : Int) + 1) = ((i + 1 : Nat) : Int) := by rw [w_eq _ (by omega) (by omega)]; omega
    have hc2 : (chkL (nmL L (off - lo) n)) = bif chkS (nmI L (off + ((i : Nat) : Int).toNat * 5 - lo)) != 0 then chkS (nmI L (off + ((i : Nat) : Int).toNat * 5 - lo)) else chkL (nmL L (off - lo + 5 * (i + 1)) (n - (i + 1))) := by
      rw [hc, show n - i = (n - (i + 1)) + 1 by omega, nmL, chkL, show off - lo + 5 * i + 5 = off - lo + 5 * (i + 1) by omega, ← ex]
    cases hx : chkS (nmI L (off + ((i : Nat) : Int).toNat * 5 - lo)) != 0 with
    | true =>
      rw [hx, cond_true] at hc2
      refine WpW.of_ev (sg1 M) hor (show 3 ≤ 4 by decide) (Ev.of_eq 60 (fun s k => (roundCR M s et ro lo off n c L i v4 v5 v6 v7 v8 v9 v10 v11 v12 v13 v14 v15 v16 v17 v18 k).trans ((condT c1).trans ((condT c2).trans ((condT c3).trans (condT hx))))) ?_)
      exact ⟨rfl, .inr ⟨rfl, _, _, _, _, _, _, _, _, _, _, _, _, _, _, _, _, _, _, by rw [hc2]⟩⟩
    | false =>
      rw [hx, cond_false] at hc2
      refine WpW.of_ev (sg1 M) hor (show 3 ≤ 4 by decide) (Ev.of_eq 60 (fun s k => (roundCR M s et ro lo off n c L i v4 v5 v6 v7 v8 v9 v10 v11 v12 v13 v14 v15 v16 v17 v18 k).trans ((condT c1).trans ((condT c2).trans ((condT c3).trans (condF hx))))) ?_)
      exact ⟨n - (i + 1), by omega, i + 1, .int .i64 (chkS (nmI L (off + ((i : Nat) : Int).toNat * 5 - lo))), .int .i64 (((i : Nat) : Int)), slV off n c, .int .i64 ((n : Int)), .bool true, .int .i64 (((i : Nat) : Int)), .int .i64 ((i + 1 : Nat)), slV off n c, .int .i64 (((i : Nat) : Int)), .pointer (some ⟨3, off + ((i : Nat) : Int).toNat * 5, none⟩), N.v (nmI L (off + ((i : Nat) : Int).toNat * 5 - lo)), .int .i64 (chkS (nmI L (off + ((i : Nat) : Int).toNat * 5 - lo))), .int .i64 (chkS (nmI L (off + ((i : Nat) : Int).toNat * 5 - lo))), .bool false, v18, by omega, rfl, hc2, rfl, by rw [hw]⟩
  · have c1 : decide (((i : Nat) : Int) < (n : Int)) = false := decide_eq_false (by omega)
    have hz : (chkL (nmL L (off - lo) n)) = 0 := by rw [hc, show n - i = 0 by omega]; rfl
    refine WpW.of_ev (sg1 M) hor (show 3 ≤ 4 by decide) (Ev.of_eq 60 (fun s k => (roundCR M s et ro lo off n c L i v4 v5 v6 v7 v8 v9 v10 v11 v12 v13 v14 v15 v16 v17 v18 k).trans (condF c1)) ?_)
    exact ⟨rfl, .inl ⟨rfl, hz, _, _, _, _, _, _, _, _, _, _, _, _, _, _, _, _, _, _, _, rfl⟩⟩
theorem atCR (M : Int) (et : TypeId) (ro : Bool) (lo off n c : Nat) (L : List Int) (h1 : insideI lo L off (n * 5) = true) (h2 : n ≤ 34359738368) :
    CallAt Tryz.prog (Sg1 M) 4 41 [slV off n c] [uni, pow, mxl M, kB et ro lo L] (.int .i64 (chkL (nmL L (off - lo) n))) [uni, pow, mxl M, kB et ro lo L] := by
  have hor := orcOk_of (LSR_ok M)
  refine CallAt.of_W bodyCR (show 3 ≤ 4 by decide) (Ext.refl _ _) rfl (List.all_eq_true.1 rfl) (List.all_eq_true.1 rfl) rfl ?_
  rw [tmpsCR]
  refine WpW.of_pieces ?_
  rw [show flatC (bodyOf Tryz.prog 41) = _ from LCRl_eq]
  show WpL Tryz.prog (Sg1 M) 4 4 ([qCR 0, qCR 1] ++ [.block 0 (.loop BCR), qCR 3, qCR 4]) _ _ _
  refine WpL.run (sg1 M) hor (show 3 ≤ 4 by decide) (headCR M _ et ro lo off n c L _) ?_
  refine WpL.step (WpW.block ((loopCR M et ro lo off n c L h1 h2).mono ?_))
  rintro x T S ⟨rfl, ⟨rfl, hz, a0, a1, a2, a3, a4, a5, a6, a7, a8, a9, a10, a11, a12, a13, a14, a15, a16, a17, a18, rfl⟩ | ⟨rfl, a0, a1, a3, a4, a5, a6, a7, a8, a9, a10, a11, a12, a13, a14, a15, a16, a17, a18, rfl⟩⟩
  · simp only [if_true]
    refine WpL.stop (sg1 M) hor (show 3 ≤ 4 by decide) (tailCR M _ _ _ _ _ _ _ _ _ _ _ _ _ _ _ _ _ _ _ _ _ _) ⟨trivial, ⟨[], rfl⟩, ?_⟩
    rw [hz]
    exact outCR _ _ _ _ _ _ _ _ _ _ _ _ _ _ _ _ _ _ _ _
  · exact ⟨trivial, ⟨[], rfl⟩, outCR _ _ _ _ _ _ _ _ _ _ _ _ _ _ _ _ _ _ _ _⟩
noncomputable def cCR : MCon := mconL 41 fun l => .int .i64 (chkL l)
theorem cCR_ok (M : Int) : MConOk M cCR := mconL_ok (fun _ => rfl) fun et ro lo off n c L h1 h2 => atCR M et ro lo off n c L h1 h2
end Go.Proofs.YtihccnfaibiiiaaGreatDoor.R
/- Ring: the sum of a list: the specification's Sum, as a contract (made by mkspl.py). -/
namespace Go.Proofs.YtihccnfaibiiiaaGreatDoor.R
open Go Go.Proofs.XX.Vm Go.Proofs.XX.Rm Go.RowKit
set_option maxRecDepth 100000

theorem twoS_err {x y z : N} (h : ((twoS x y z).2 != 0) = true) : (twoS x y z).1 = O := by
  unfold twoS bif3 fitS at h ⊢
  cases h1 : rgB x <;> cases h2 : inB x <;> cases h3 : rgB y <;> cases h4 : inB y <;> cases h5 : okB z.nf <;> simp_all
noncomputable abbrev orSR : Orc := orcLM LSR [cCR]
theorem orSR_ok (M : Int) : OrcOk Tryz.prog (Sg1 M) (orcOf orSR) := orcLM_ok (LSR_ok M) (mem_cons_mok (cCR_ok M) nil_mok)
noncomputable abbrev BSR : Code := loopOf Tryz.prog 25 0
noncomputable abbrev qSR (i : Nat) : Code := nthC (pcs Tryz.prog 25) i
theorem LSRl_eq : pcs Tryz.prog 25 = [qSR 0, qSR 1, qSR 2, qSR 3, qSR 4, qSR 5, qSR 6, .block 0 (.loop BSR), qSR 8, qSR 9] := by kernel_rfl
theorem headSR {α : Type} (M : Int) (fs : Nat → Nat) (et : TypeId) (ro : Bool) (lo off n c : Nat) (L : List Int) (k : Kont α) :
    evP Tryz.prog orSR (Sg1 M) 4 fs 0 [qSR 0, qSR 1, qSR 2, qSR 3, qSR 4, qSR 5, qSR 6] (slV off n c :: List.replicate 34 undef) [uni, pow, mxl M, kB et ro lo L] k =
    bif tsL lo off n L then (bif (chkL (nmL L (off - lo) n)) != 0 then k .ret [slV off n c, undef, ptrN 4, .int .i64 ((chkL (nmL L (off - lo) n))), .int .i64 ((chkL (nmL L (off - lo) n))), undef, undef, undef, slV off n c, .int .i64 ((chkL (nmL L (off - lo) n))), .int .i64 ((chkL (nmL L (off - lo) n))), .bool true, N.v O, .int .i64 ((chkL (nmL L (off - lo) n))), undef, undef, undef, undef, undef, undef, undef, undef, undef, undef, undef, undef, undef, undef, undef, undef, undef, undef, undef, undef, undef] [uni, pow, mxl M, kB et ro lo L, rb O] else k .normal [slV off n c, undef, ptrN 4, .int .i64 (0), .int .i64 ((chkL (nmL L (off - lo) n))), ptrN 5, .int .i64 (0), .int .i64 (0), slV off n c, .int .i64 ((chkL (nmL L (off - lo) n))), .int .i64 ((chkL (nmL L (off - lo) n))), .bool false, undef, undef, undef, undef, undef, undef, undef, undef, undef, undef, undef, undef, undef, undef, undef, undef, undef, undef, undef, undef, undef, undef, undef] [uni, pow, mxl M, kB et ro lo L, rb O, rb O]) else none := by kernel_rfl
theorem roundSR {α : Type} (M : Int) (m : Nat) (et : TypeId) (ro : Bool) (lo off n c : Nat) (L : List Int) (i e : Int) (z : N) (v4 : Value) (v8 v9 v10 v11 v12 v13 v14 v15 v16 v17 v18 v19 v20 v21 v22 v23 v24 v25 v26 v27 v28 v29 v30 v31 v32 v33 v34 : Value) (k : Kont α) :
    evCodeK Tryz.prog orSR (Sg1 M) (m + 60) 4 BSR [slV off n c, undef, ptrN 4, .int .i64 (0), v4, ptrN 5, .int .i64 (e), .int .i64 (i), v8, v9, v10, v11, v12, v13, v14, v15, v16, v17, v18, v19, v20, v21, v22, v23, v24, v25, v26, v27, v28, v29, v30, v31, v32, v33, v34] [uni, pow, mxl M, kB et ro lo L, rb O, rb z] k =
    bif decide (i < (n : Int)) then (bif e == 0 then (bif decide (0 ≤ i) && decide (i < (n : Int)) then (bif insideI lo L (off + i.toNat * 5) 5 then k .normal [slV off n c, undef, ptrN 4, .int .i64 (0), v4, ptrN 5, .int .i64 ((twoS z (nmI L (off + i.toNat * 5 - lo)) (z.sum (nmI L (off + i.toNat * 5 - lo)))).2), .int .i64 (w (i + 1)), v8, v9, v10, v11, v12, v13, .int .i64 (i), slV off n c, .int .i64 ((n : Int)), .bool (decide (i < (n : Int))), .bool true, .int .i64 (e), .bool (e == 0), .bool true, .int .i64 (i), .int .i64 (w (i + 1)), resV (twoS z (nmI L (off + i.toNat * 5 - lo)) (z.sum (nmI L (off + i.toNat * 5 - lo)))), N.v z, slV off n c, .int .i64 (i), .pointer (some ⟨3, off + i.toNat * 5, none⟩), N.v (nmI L (off + i.toNat * 5 - lo)), resV (twoS z (nmI L (off + i.toNat * 5 - lo)) (z.sum (nmI L (off + i.toNat * 5 - lo)))), N.v (twoS z (nmI L (off + i.toNat * 5 - lo)) (z.sum (nmI L (off + i.toNat * 5 - lo)))).1, .int .i64 ((twoS z (nmI L (off + i.toNat * 5 - lo)) (z.sum (nmI L (off + i.toNat * 5 - lo)))).2), v33, v34] [uni, pow, mxl M, kB et ro lo L, rb O, rb (twoS z (nmI L (off + i.toNat * 5 - lo)) (z.sum (nmI L (off + i.toNat * 5 - lo)))).1] else none) else none) else k (.exit 0) [slV off n c, undef, ptrN 4, .int .i64 (0), v4, ptrN 5, .int .i64 (e), .int .i64 (i), v8, v9, v10, v11, v12, v13, .int .i64 (i), slV off n c, .int .i64 ((n : Int)), .bool (decide (i < (n : Int))), .bool true, .int .i64 (e), .bool (e == 0), .bool false, v22, v23, v24, v25, v26, v27, v28, v29, v30, v31, v32, v33, v34] [uni, pow, mxl M, kB et ro lo L, rb O, rb z]) else k (.exit 0) [slV off n c, undef, ptrN 4, .int .i64 (0), v4, ptrN 5, .int .i64 (e), .int .i64 (i), v8, v9, v10, v11, v12, v13, .int .i64 (i), slV off n c, .int .i64 ((n : Int)), .bool (decide (i < (n : Int))), .bool false, undef, undef, .bool false, v22, v23, v24, v25, v26, v27, v28, v29, v30, v31, v32, v33, v34] [uni, pow, mxl M, kB et ro lo L, rb O, rb z] := by kernel_rfl
theorem tailSR {α : Type} (M : Int) (fs : Nat → Nat) (et : TypeId) (ro : Bool) (lo : Nat) (L : List Int) (z : N) (e : Int) (a0 a1 a3 a4 a7 a8 a9 a10 a11 a12 a13 a14 a15 a16 a17 a18 a19 a20 a21 a22 a23 a24 a25 a26 a27 a28 a29 a30 a31 a32 a33 a34 : Value) (k : Kont α) :
    evP Tryz.prog orSR (Sg1 M) 4 fs 8 [qSR 8, qSR 9] [a0, a1, ptrN 4, a3, a4, ptrN 5, .int .i64 (e), a7, a8, a9, a10, a11, a12, a13, a14, a15, a16, a17, a18, a19, a20, a21, a22, a23, a24, a25, a26, a27, a28, a29, a30, a31, a32, a33, a34] [uni, pow, mxl M, kB et ro lo L, rb O, rb z] k = k .ret [a0, a1, ptrN 4, .int .i64 (e), a4, ptrN 5, .int .i64 (e), a7, a8, a9, a10, a11, a12, a13, a14, a15, a16, a17, a18, a19, a20, a21, a22, a23, a24, a25, a26, a27, a28, a29, a30, a31, a32, N.v z, .int .i64 (e)] [uni, pow, mxl M, kB et ro lo L, rb z, rb z] := by kernel_rfl
theorem outSR (e : Int) (y : N) (b0 b1 b2 b3 : Blk) (R : List Blk) (a0 a1 a4 a5 a6 a7 a8 a9 a10 a11 a12 a13 a14 a15 a16 a17 a18 a19 a20 a21 a22 a23 a24 a25 a26 a27 a28 a29 a30 a31 a32 a33 a34 : Value) : outOf Tryz.prog 25 [a0, a1, ptrN 4, .int .i64 e, a4, a5, a6, a7, a8, a9, a10, a11, a12, a13, a14, a15, a16, a17, a18, a19, a20, a21, a22, a23, a24, a25, a26, a27, a28, a29, a30, a31, a32, a33, a34] (b0 :: b1 :: b2 :: b3 :: rb y :: R) = some (resV (y, e)) := by kernel_rfl
theorem tmpsSR (a : Value) : tmps0Of Tryz.prog 25 [a] = a :: List.replicate 34 undef := by kernel_rfl
theorem bodySR : (Tryz.prog.funcs[25]?).bind (·.body) ≠ none := by
  rw [Tryz.func25]
  intro h
  have : (Option.isSome ((some Tryz.f25).bind (·.body))) = true := by kernel_rfl
  rw [h] at this
  cases this

theorem loopSR (M : Int) (et : TypeId) (ro : Bool) (lo off n c : Nat) (L : List Int) (h1 : insideI lo L off (n * 5) = true) (h2 : n ≤ 34359738368) (q4 q8 q9 q10 q11 : Value) :
    WpW Tryz.prog (Sg1 M) 4 4 (.loop BSR) [slV off n c, undef, ptrN 4, .int .i64 (0), q4, ptrN 5, .int .i64 (0), .int .i64 (0), q8, q9, q10, q11, undef, undef, undef, undef, undef, undef, undef, undef, undef, undef, undef, undef, undef, undef, undef, undef, undef, undef, undef, undef, undef, undef, undef] [uni, pow, mxl M, kB et ro lo L, rb O, rb O] fun x T S => x = .exit 0 ∧ ∃ (z : N) (e : Int), (totL O (nmL L (off - lo) n)) = (z, e) ∧ S = [uni, pow, mxl M, kB et ro lo L, rb O, rb z] ∧ ∃ (a0 a1 a3 a4 a7 a8 a9 a10 a11 a12 a13 a14 a15 a16 a17 a18 a19 a20 a21 a22 a23 a24 a25 a26 a27 a28 a29 a30 a31 a32 a33 a34 : Value), T = [a0, a1, ptrN 4, a3, a4, ptrN 5, .int .i64 (e), a7, a8, a9, a10, a11, a12, a13, a14, a15, a16, a17, a18, a19, a20, a21, a22, a23, a24, a25, a26, a27, a28, a29, a30, a31, a32, a33, a34] := by
  have hor := orSR_ok M
  refine WpW.loop (fun m T S => ∃ (i : Nat) (e : Int) (z : N) (v4 : Value) (v8 v9 v10 v11 v12 v13 v14 v15 v16 v17 v18 v19 v20 v21 v22 v23 v24 v25 v26 v27 v28 v29 v30 v31 v32 v33 v34 : Value), i ≤ n ∧ m = n - i ∧ (totL O (nmL L (off - lo) n)) = (bif e != 0 then (z, e) else totL z (nmL L (off - lo + 5 * i) (n - i))) ∧ S = [uni, pow, mxl M, kB et ro lo L, rb O, rb z] ∧ T = [slV off n c, undef, ptrN 4, .int .i64 (0), v4, ptrN 5, .int .i64 (e), .int .i64 ((i : Nat)), v8, v9, v10, v11, v12, v13, v14, v15, v16, v17, v18, v19, v20, v21, v22, v23, v24, v25, v26, v27, v28, v29, v30, v31, v32, v33, v34]) ?_ n _ _ ⟨0, 0, O, q4, q8, q9, q10, q11, undef, undef, undef, undef, undef, undef, undef, undef, undef, undef, undef, undef, undef, undef, undef, undef, undef, undef, undef, undef, undef, undef, undef, Nat.zero_le _, by omega, by simp, rfl, rfl⟩
  rintro m T S ⟨i, e, z, v4, v8, v9, v10, v11, v12, v13, v14, v15, v16, v17, v18, v19, v20, v21, v22, v23, v24, v25, v26, v27, v28, v29, v30, v31, v32, v33, v34, hi, hm, hc, rfl, rfl⟩
  by_cases hlt : i < n
  · have c1 : decide (((i : Nat) : Int) < (n : Int)) = true := decide_eq_true (by omega)
    by_cases he : e = 0
    · subst he
      obtain ⟨h3, h4⟩ := inside_at h1 hlt
      have ex : off + ((i : Nat) : Int).toNat * 5 - lo = off - lo + 5 * i := by rw [Int.toNat_natCast]; omega
      have c2 : (decide (0 ≤ ((i : Nat) : Int)) && decide (((i : Nat) : Int) < (n : Int))) = true := by rw [c1, decide_eq_true (show 0 ≤ ((i : Nat) : Int) by omega)]; rfl
      have c3 : insideI lo L (off + ((i : Nat) : Int).toNat * 5) 5 = true := by rw [Int.toNat_natCast]; exact h4
      have hw : w (((i : Nat) : Int) + 1) = ((i + 1 : Nat) : Int) := by rw [w_eq _ (by omega) (by omega)]; omega
      have hc2 : (totL O (nmL L (off - lo) n)) = (bif (twoS z (nmI L (off + ((i : Nat) : Int).toNat * 5 - lo)) (z.sum (nmI L (off + ((i : Nat) : Int).toNat * 5 - lo)))).2 != 0 then ((twoS z (nmI L (off + ((i : Nat) : Int).toNat * 5 - lo)) (z.sum (nmI L (off + ((i : Nat) : Int).toNat * 5 - lo)))).1, (twoS z (nmI L (off + ((i : Nat) : Int).toNat * 5 - lo)) (z.sum (nmI L (off + ((i : Nat) : Int).toNat * 5 - lo)))).2) else totL (twoS z (nmI L (off + ((i : Nat) : Int).toNat * 5 - lo)) (z.sum (nmI L (off + ((i : Nat) : Int).toNat * 5 - lo)))).1 (nmL L (off - lo + 5 * (i + 1)) (n - (i + 1)))) := by
        rw [hc, bne_self_eq_false, cond_false, show n - i = (n - (i + 1)) + 1 by omega, nmL, totL, show off - lo + 5 * i + 5 = off - lo + 5 * (i + 1) by omega, ← ex]
        cases hx : (twoS z (nmI L (off + ((i : Nat) : Int).toNat * 5 - lo)) (z.sum (nmI L (off + ((i : Nat) : Int).toNat * 5 - lo)))).2 != 0 with
        | true => rw [cond_true, cond_true, twoS_err hx]
        | false => rfl
      refine WpW.of_ev (sg1 M) hor (show 3 ≤ 4 by decide) (Ev.of_eq 60 (fun s k => (roundSR M s et ro lo off n c L i 0 z v4 v8 v9 v10 v11 v12 v13 v14 v15 v16 v17 v18 v19 v20 v21 v22 v23 v24 v25 v26 v27 v28 v29 v30 v31 v32 v33 v34 k).trans ((condT c1).trans ((condT rfl).trans ((condT c2).trans (condT c3))))) ?_)
      exact ⟨n - (i + 1), by omega, i + 1, (twoS z (nmI L (off + ((i : Nat) : Int).toNat * 5 - lo)) (z.sum (nmI L (off + ((i : Nat) : Int).toNat * 5 - lo)))).2, (twoS z (nmI L (off + ((i : Nat) : Int).toNat * 5 - lo)) (z.sum (nmI L (off + ((i : Nat) : Int).toNat * 5 - lo)))).1, v4, v8, v9, v10, v11, v12, v13, .int .i64 (((i : Nat) : Int)), slV off n c, .int .i64 ((n : Int)), .bool (decide (((i : Nat) : Int) < (n : Int))), .bool true, .int .i64 (0), .bool ((0 : Int) == 0), .bool true, .int .i64 (((i : Nat) : Int)), .int .i64 ((i + 1 : Nat)), resV (twoS z (nmI L (off + ((i : Nat) : Int).toNat * 5 - lo)) (z.sum (nmI L (off + ((i : Nat) : Int).toNat * 5 - lo)))), N.v z, slV off n c, .int .i64 (((i : Nat) : Int)), .pointer (some ⟨3, off + ((i : Nat) : Int).toNat * 5, none⟩), N.v (nmI L (off + ((i : Nat) : Int).toNat * 5 - lo)), resV (twoS z (nmI L (off + ((i : Nat) : Int).toNat * 5 - lo)) (z.sum (nmI L (off + ((i : Nat) : Int).toNat * 5 - lo)))), N.v (twoS z (nmI L (off + ((i : Nat) : Int).toNat * 5 - lo)) (z.sum (nmI L (off + ((i : Nat) : Int).toNat * 5 - lo)))).1, .int .i64 ((twoS z (nmI L (off + ((i : Nat) : Int).toNat * 5 - lo)) (z.sum (nmI L (off + ((i : Nat) : Int).toNat * 5 - lo)))).2), v33, v34, by omega, rfl, hc2, rfl, by rw [hw]⟩
    · have ce : (e == 0) = false := by simpa using he
      refine WpW.of_ev (sg1 M) hor (show 3 ≤ 4 by decide) (Ev.of_eq 60 (fun s k => (roundSR M s et ro lo off n c L i e z v4 v8 v9 v10 v11 v12 v13 v14 v15 v16 v17 v18 v19 v20 v21 v22 v23 v24 v25 v26 v27 v28 v29 v30 v31 v32 v33 v34 k).trans ((condT c1).trans (condF ce))) ?_)
      refine ⟨rfl, z, e, ?_, rfl, _, _, _, _, _, _, _, _, _, _, _, _, _, _, _, _, _, _, _, _, _, _, _, _, _, _, _, _, _, _, _, _, rfl⟩
      rw [hc, show (e != 0) = true from by simpa using he, cond_true]
  · have c1 : decide (((i : Nat) : Int) < (n : Int)) = false := decide_eq_false (by omega)
    refine WpW.of_ev (sg1 M) hor (show 3 ≤ 4 by decide) (Ev.of_eq 60 (fun s k => (roundSR M s et ro lo off n c L i e z v4 v8 v9 v10 v11 v12 v13 v14 v15 v16 v17 v18 v19 v20 v21 v22 v23 v24 v25 v26 v27 v28 v29 v30 v31 v32 v33 v34 k).trans (condF c1)) ?_)
    refine ⟨rfl, z, e, ?_, rfl, _, _, _, _, _, _, _, _, _, _, _, _, _, _, _, _, _, _, _, _, _, _, _, _, _, _, _, _, _, _, _, _, rfl⟩
    rw [hc, show n - i = 0 by omega]
    cases hx : e != 0 with
    | true => rfl
    | false => rw [show e = 0 by simpa using hx]; rfl
theorem atSR (M : Int) (et : TypeId) (ro : Bool) (lo off n c : Nat) (L : List Int) (h1 : insideI lo L off (n * 5) = true) (h2 : n ≤ 34359738368) :
    CallAt Tryz.prog (Sg1 M) 4 25 [slV off n c] [uni, pow, mxl M, kB et ro lo L] (resV (sumL (nmL L (off - lo) n))) [uni, pow, mxl M, kB et ro lo L] := by
  have hor := orSR_ok M
  refine CallAt.of_W bodySR (show 3 ≤ 4 by decide) (Ext.refl _ _) rfl (List.all_eq_true.1 rfl) (List.all_eq_true.1 rfl) rfl ?_
  rw [tmpsSR]
  refine WpW.of_pieces ?_
  rw [show flatC (bodyOf Tryz.prog 25) = _ from LSRl_eq]
  show WpL Tryz.prog (Sg1 M) 4 4 ([qSR 0, qSR 1, qSR 2, qSR 3, qSR 4, qSR 5, qSR 6] ++ [.block 0 (.loop BSR), qSR 8, qSR 9]) _ _ _
  unfold sumL
  cases hx : (chkL (nmL L (off - lo) n)) != 0 with
  | true =>
    refine WpL.append (WpL.stop (sg1 M) hor (show 3 ≤ 4 by decide) ((headSR M _ et ro lo off n c L _).trans ((condT (tsL_true h1 h2)).trans (condT hx))) ?_)
    exact ⟨trivial, ⟨[rb O], rfl⟩, outSR _ _ _ _ _ _ _ _ _ _ _ _ _ _ _ _ _ _ _ _ _ _ _ _ _ _ _ _ _ _ _ _ _ _ _ _ _ _ _ _⟩
  | false =>
    refine WpL.run (sg1 M) hor (show 3 ≤ 4 by decide) ((headSR M _ et ro lo off n c L _).trans ((condT (tsL_true h1 h2)).trans (condF hx))) ?_
    refine WpL.step (WpW.block ((loopSR M et ro lo off n c L h1 h2 _ _ _ _ _).mono ?_))
    rintro x T S ⟨rfl, z, e, hz, rfl, a0, a1, a3, a4, a7, a8, a9, a10, a11, a12, a13, a14, a15, a16, a17, a18, a19, a20, a21, a22, a23, a24, a25, a26, a27, a28, a29, a30, a31, a32, a33, a34, rfl⟩
    simp only [if_true]
    refine WpL.stop (sg1 M) hor (show 3 ≤ 4 by decide) (tailSR M _ et ro lo L z e _ _ _ _ _ _ _ _ _ _ _ _ _ _ _ _ _ _ _ _ _ _ _ _ _ _ _ _ _ _ _ _ _) ⟨trivial, ⟨[rb z, rb z], rfl⟩, ?_⟩
    rw [cond_false, hz]
    exact outSR _ _ _ _ _ _ _ _ _ _ _ _ _ _ _ _ _ _ _ _ _ _ _ _ _ _ _ _ _ _ _ _ _ _ _ _ _ _ _ _
noncomputable def cSR : MCon := mconL 25 fun l => resV (sumL l)
theorem cSR_ok (M : Int) : MConOk M cSR := mconL_ok (fun _ => rfl) fun et ro lo off n c L h1 h2 => atSR M et ro lo off n c L h1 h2
end Go.Proofs.YtihccnfaibiiiaaGreatDoor.R
