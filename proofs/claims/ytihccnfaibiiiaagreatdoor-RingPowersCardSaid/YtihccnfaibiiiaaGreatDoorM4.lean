/- Ring: the sum of a list of numbers, as a contract (made by mklst3.py). -/
import Derived.Test.YtihccnfaibiiiaaGreatDoorM3
namespace Go.Proofs.YtihccnfaibiiiaaGreatDoor.R
open Go Go.Proofs.XX.Vm Go.Proofs.XX.Rm Go.RowKit
set_option maxRecDepth 100000

theorem shr_le {nb nb' fl : Nat} {τ : Nat → Nat} {T' T'' : List Value} {S' S'' : List Blk} (h : Shr nb fl τ T' S' T'' S'') (hl : nb' ≤ nb) : Shr nb' fl τ T' S' T'' S'' :=
  ⟨fun i hi => h.fix i (by omega), h.inj, Nat.le_trans hl h.least, h.tmps, h.sh, h.blk, fun b h1 h2 => h.keep b h1 (by omega)⟩
theorem bodyTO : (Tryz.prog.funcs[65]?).bind (·.body) ≠ none := by
  rw [Tryz.func65]
  intro h
  have : (Option.isSome ((some Tryz.f65).bind (·.body))) = true := by kernel_rfl
  rw [h] at this
  cases this
theorem loopTO (M : Int) (et : TypeId) (ro : Bool) (lo off n c : Nat) (L : List Int) (h1 : insideI lo L off (n * 5) = true) (h2 : n ≤ 34359738368) :
    WpW Tryz.prog (Sg1 M) 4 4 (.loop BTO) [slV off n c, undef, ptrN 4, .int .i64 (0), ptrN 5, undef, undef, undef, slV off n c, .int .i64 ((n : Int)), .int .i64 (0), undef, undef, undef, undef, undef, undef, undef, undef, undef, undef, undef, undef, undef, undef, undef] [uni, pow, mxl M, kB et ro lo L, rb O, rb O] fun x T S => (x = .exit 0 ∧ ∃ (z : N) (R : List Blk), (R = [] ∨ ∃ y, R = [rb y]) ∧ (totL O (nmL L (off - lo) n)) = (z, 0) ∧ S = uni :: pow :: mxl M :: kB et ro lo L :: rb O :: rb z :: R ∧ ∃ (a0 a1 a3 a5 a6 a7 a8 a9 a10 a11 a12 a13 a14 a15 a16 a17 a18 a19 a20 a21 a22 a23 a24 a25 : Value), T = [a0, a1, ptrN 4, a3, ptrN 5, a5, a6, a7, a8, a9, a10, a11, a12, a13, a14, a15, a16, a17, a18, a19, a20, a21, a22, a23, a24, a25]) ∨
      (x = .ret ∧ ∃ (y : N) (e : Int) (R : List Blk), (totL O (nmL L (off - lo) n)) = (y, e) ∧ S = uni :: pow :: mxl M :: kB et ro lo L :: rb y :: R ∧ ∃ (a0 a1 a4 a5 a6 a7 a8 a9 a10 a11 a12 a13 a14 a15 a16 a17 a18 a19 a20 a21 a22 a23 a24 a25 : Value), T = [a0, a1, ptrN 4, .int .i64 e, a4, a5, a6, a7, a8, a9, a10, a11, a12, a13, a14, a15, a16, a17, a18, a19, a20, a21, a22, a23, a24, a25]) := by
  have hor := orcOk_of (LSum_ok M)
  refine WpW.loop (fun m T S => ∃ (i : Nat) (z : N) (v7 v11 v12 v13 v14 v15 v16 v17 v18 v19 v20 v21 v22 v23 v24 v25 : Value), [v7, v11, v12, v13, v14, v15, v16, v17, v18, v19, v20, v21, v22, v23, v24, v25].all (sh3 4) = true ∧ i ≤ n ∧ m = n - i ∧ (totL O (nmL L (off - lo) n)) = totL z (nmL L (off - lo + 5 * i) (n - i)) ∧
      ((S = [uni, pow, mxl M, kB et ro lo L, rb O, rb z] ∧ T = [slV off n c, undef, ptrN 4, .int .i64 (0), ptrN 5, undef, undef, v7, slV off n c, .int .i64 ((n : Int)), .int .i64 ((i : Nat)), v11, v12, v13, v14, v15, v16, v17, v18, v19, v20, v21, v22, v23, v24, v25]) ∨ ∃ y, S = [uni, pow, mxl M, kB et ro lo L, rb O, rb z, rb y] ∧ T = [slV off n c, undef, ptrN 4, .int .i64 (0), ptrN 5, undef, ptrN 6, v7, slV off n c, .int .i64 ((n : Int)), .int .i64 ((i : Nat)), v11, v12, v13, v14, v15, v16, v17, v18, v19, v20, v21, v22, v23, v24, v25])) ?_ n _ _ ⟨0, O, undef, undef, undef, undef, undef, undef, undef, undef, undef, undef, undef, undef, undef, undef, undef, undef, rfl, Nat.zero_le _, by omega, by simp, .inl ⟨rfl, rfl⟩⟩
  rintro m T S ⟨i, z, v7, v11, v12, v13, v14, v15, v16, v17, v18, v19, v20, v21, v22, v23, v24, v25, hJ, hi, hm, hc, hs⟩
  have h22 : sh3 4 v22 = true := (List.all_eq_true.1 hJ) v22 (by simp)
  have h23 : sh3 4 v23 = true := (List.all_eq_true.1 hJ) v23 (by simp)
  have h25 : sh3 4 v25 = true := (List.all_eq_true.1 hJ) v25 (by simp)
  by_cases hlt : i < n
  · obtain ⟨h3, h4⟩ := inside_at h1 hlt
    have ex : off + ((i : Nat) : Int).toNat * 5 - lo = off - lo + 5 * i := by rw [Int.toNat_natCast]; omega
    have c1 : decide (((i : Nat) : Int) < (n : Int)) = true := decide_eq_true (by omega)
    have c2 : (decide (0 ≤ ((i : Nat) : Int)) && decide (((i : Nat) : Int) < (n : Int))) = true := by rw [c1, decide_eq_true (show 0 ≤ ((i : Nat) : Int) by omega)]; rfl
    have c3 : insideI lo L (off + ((i : Nat) : Int).toNat * 5) 5 = true := by rw [Int.toNat_natCast]; exact h4
    have hw : w (((i : Nat) : Int) + 1) = ((i + 1 : Nat) : Int) := by rw [w_eq _ (by omega) (by omega)]; omega
    have hc2 : (totL O (nmL L (off - lo) n)) = bif (twoS z (nmI L (off + ((i : Nat) : Int).toNat * 5 - lo)) (z.sum (nmI L (off + ((i : Nat) : Int).toNat * 5 - lo)))).2 != 0 then (O, (twoS z (nmI L (off + ((i : Nat) : Int).toNat * 5 - lo)) (z.sum (nmI L (off + ((i : Nat) : Int).toNat * 5 - lo)))).2) else totL (twoS z (nmI L (off + ((i : Nat) : Int).toNat * 5 - lo)) (z.sum (nmI L (off + ((i : Nat) : Int).toNat * 5 - lo)))).1 (nmL L (off - lo + 5 * (i + 1)) (n - (i + 1))) := by
      rw [hc, show n - i = (n - (i + 1)) + 1 by omega, nmL, totL, show off - lo + 5 * i + 5 = off - lo + 5 * (i + 1) by omega, ← ex]
    rcases hs with ⟨rfl, rfl⟩ | ⟨y, rfl, rfl⟩
    · cases hx : (twoS z (nmI L (off + ((i : Nat) : Int).toNat * 5 - lo)) (z.sum (nmI L (off + ((i : Nat) : Int).toNat * 5 - lo)))).2 != 0 with
      | true =>
        rw [hx, cond_true] at hc2
        refine WpW.of_ev (sg1 M) hor (show 3 ≤ 4 by decide) (Ev.of_eq 60 (fun s k => (roundTO0 M s et ro lo off n c L i z v7 v11 v12 v13 v14 v15 v16 v17 v18 v19 v20 v21 v22 v23 v24 v25 k).trans ((condT c1).trans ((condT c2).trans ((condT c3).trans (condT hx))))) ?_)
        exact .inr ⟨rfl, _, _, _, hc2, rfl, _, _, _, _, _, _, _, _, _, _, _, _, _, _, _, _, _, _, _, _, _, _, _, _, rfl⟩
      | false =>
        rw [hx, cond_false] at hc2
        refine WpW.of_ev (sg1 M) hor (show 3 ≤ 4 by decide) (Ev.of_eq 60 (fun s k => (roundTO0 M s et ro lo off n c L i z v7 v11 v12 v13 v14 v15 v16 v17 v18 v19 v20 v21 v22 v23 v24 v25 k).trans ((condT c1).trans ((condT c2).trans ((condT c3).trans (condF hx))))) ?_)
        exact ⟨n - (i + 1), by omega, i + 1, (twoS z (nmI L (off + ((i : Nat) : Int).toNat * 5 - lo)) (z.sum (nmI L (off + ((i : Nat) : Int).toNat * 5 - lo)))).1, .int .i64 ((twoS z (nmI L (off + ((i : Nat) : Int).toNat * 5 - lo)) (z.sum (nmI L (off + ((i : Nat) : Int).toNat * 5 - lo)))).2), .bool true, .pointer (some ⟨3, off + ((i : Nat) : Int).toNat * 5, none⟩), N.v (nmI L (off + ((i : Nat) : Int).toNat * 5 - lo)), resV (twoS z (nmI L (off + ((i : Nat) : Int).toNat * 5 - lo)) (z.sum (nmI L (off + ((i : Nat) : Int).toNat * 5 - lo)))), N.v z, N.v (nmI L (off + ((i : Nat) : Int).toNat * 5 - lo)), resV (twoS z (nmI L (off + ((i : Nat) : Int).toNat * 5 - lo)) (z.sum (nmI L (off + ((i : Nat) : Int).toNat * 5 - lo)))), N.v (twoS z (nmI L (off + ((i : Nat) : Int).toNat * 5 - lo)) (z.sum (nmI L (off + ((i : Nat) : Int).toNat * 5 - lo)))).1, .int .i64 ((twoS z (nmI L (off + ((i : Nat) : Int).toNat * 5 - lo)) (z.sum (nmI L (off + ((i : Nat) : Int).toNat * 5 - lo)))).2), .int .i64 ((twoS z (nmI L (off + ((i : Nat) : Int).toNat * 5 - lo)) (z.sum (nmI L (off + ((i : Nat) : Int).toNat * 5 - lo)))).2), .bool false, v22, v23, .int .i64 ((i + 1 : Nat)), v25, by simp only [List.all_cons, List.all_nil, h22, h23, h25]; rfl, by omega, rfl, hc2, .inr ⟨(nmI L (off + ((i : Nat) : Int).toNat * 5 - lo)), rfl, by rw [hw]⟩⟩
    · cases hx : (twoS z (nmI L (off + ((i : Nat) : Int).toNat * 5 - lo)) (z.sum (nmI L (off + ((i : Nat) : Int).toNat * 5 - lo)))).2 != 0 with
      | true =>
        rw [hx, cond_true] at hc2
        refine WpW.of_ev (sg1 M) hor (show 3 ≤ 4 by decide) (Ev.of_eq 60 (fun s k => (roundTO1 M s et ro lo off n c L i z y v7 v11 v12 v13 v14 v15 v16 v17 v18 v19 v20 v21 v22 v23 v24 v25 k).trans ((condT c1).trans ((condT c2).trans ((condT c3).trans (condT hx))))) ?_)
        exact .inr ⟨rfl, _, _, _, hc2, rfl, _, _, _, _, _, _, _, _, _, _, _, _, _, _, _, _, _, _, _, _, _, _, _, _, rfl⟩
      | false =>
        rw [hx, cond_false] at hc2
        refine WpW.post (show 3 ≤ 4 by decide) (show 3 ≤ 4 by decide) (WpW.of_ev (sg1 M) hor (show 3 ≤ 4 by decide) (Q := fun x T S => x = .normal ∧ T = [slV off n c, undef, ptrN 4, .int .i64 (0), ptrN 5, undef, ptrN 7, .int .i64 ((twoS z (nmI L (off + ((i : Nat) : Int).toNat * 5 - lo)) (z.sum (nmI L (off + ((i : Nat) : Int).toNat * 5 - lo)))).2), slV off n c, .int .i64 ((n : Int)), .int .i64 ((i + 1 : Nat)), .bool true, .pointer (some ⟨3, off + ((i : Nat) : Int).toNat * 5, none⟩), N.v (nmI L (off + ((i : Nat) : Int).toNat * 5 - lo)), resV (twoS z (nmI L (off + ((i : Nat) : Int).toNat * 5 - lo)) (z.sum (nmI L (off + ((i : Nat) : Int).toNat * 5 - lo)))), N.v z, N.v (nmI L (off + ((i : Nat) : Int).toNat * 5 - lo)), resV (twoS z (nmI L (off + ((i : Nat) : Int).toNat * 5 - lo)) (z.sum (nmI L (off + ((i : Nat) : Int).toNat * 5 - lo)))), N.v (twoS z (nmI L (off + ((i : Nat) : Int).toNat * 5 - lo)) (z.sum (nmI L (off + ((i : Nat) : Int).toNat * 5 - lo)))).1, .int .i64 ((twoS z (nmI L (off + ((i : Nat) : Int).toNat * 5 - lo)) (z.sum (nmI L (off + ((i : Nat) : Int).toNat * 5 - lo)))).2), .int .i64 ((twoS z (nmI L (off + ((i : Nat) : Int).toNat * 5 - lo)) (z.sum (nmI L (off + ((i : Nat) : Int).toNat * 5 - lo)))).2), .bool false, v22, v23, .int .i64 ((i + 1 : Nat)), v25] ∧ S = [uni, pow, mxl M, kB et ro lo L, rb O, rb (twoS z (nmI L (off + ((i : Nat) : Int).toNat * 5 - lo)) (z.sum (nmI L (off + ((i : Nat) : Int).toNat * 5 - lo)))).1, rb y, rb (nmI L (off + ((i : Nat) : Int).toNat * 5 - lo))])
          (Ev.of_eq 60 (fun s k => (roundTO1 M s et ro lo off n c L i z y v7 v11 v12 v13 v14 v15 v16 v17 v18 v19 v20 v21 v22 v23 v24 v25 k).trans ((condT c1).trans ((condT c2).trans ((condT c3).trans (condF hx))))) ⟨rfl, by rw [hw], rfl⟩)) ?_
        rintro x T S ⟨rfl, rfl, rfl⟩
        refine ⟨_, _, _, shr_le (Shr.turn (fl := 4) (B := [uni, pow, mxl M, kB et ro lo L, rb O, rb (twoS z (nmI L (off + ((i : Nat) : Int).toNat * 5 - lo)) (z.sum (nmI L (off + ((i : Nat) : Int).toNat * 5 - lo)))).1]) (y := rb y) (z := rb (nmI L (off + ((i : Nat) : Int).toNat * 5 - lo))) (A := [slV off n c, undef, ptrN 4, .int .i64 (0), ptrN 5, undef]) (C := [.int .i64 ((twoS z (nmI L (off + ((i : Nat) : Int).toNat * 5 - lo)) (z.sum (nmI L (off + ((i : Nat) : Int).toNat * 5 - lo)))).2), slV off n c, .int .i64 ((n : Int)), .int .i64 ((i + 1 : Nat)), .bool true, .pointer (some ⟨3, off + ((i : Nat) : Int).toNat * 5, none⟩), N.v (nmI L (off + ((i : Nat) : Int).toNat * 5 - lo)), resV (twoS z (nmI L (off + ((i : Nat) : Int).toNat * 5 - lo)) (z.sum (nmI L (off + ((i : Nat) : Int).toNat * 5 - lo)))), N.v z, N.v (nmI L (off + ((i : Nat) : Int).toNat * 5 - lo)), resV (twoS z (nmI L (off + ((i : Nat) : Int).toNat * 5 - lo)) (z.sum (nmI L (off + ((i : Nat) : Int).toNat * 5 - lo)))), N.v (twoS z (nmI L (off + ((i : Nat) : Int).toNat * 5 - lo)) (z.sum (nmI L (off + ((i : Nat) : Int).toNat * 5 - lo)))).1, .int .i64 ((twoS z (nmI L (off + ((i : Nat) : Int).toNat * 5 - lo)) (z.sum (nmI L (off + ((i : Nat) : Int).toNat * 5 - lo)))).2), .int .i64 ((twoS z (nmI L (off + ((i : Nat) : Int).toNat * 5 - lo)) (z.sum (nmI L (off + ((i : Nat) : Int).toNat * 5 - lo)))).2), .bool false, v22, v23, .int .i64 ((i + 1 : Nat)), v25]) rfl (by simp only [List.all_cons, List.all_nil, List.length_cons, List.length_nil, sh3_mono (show 4 ≤ 6 by decide) h22, sh3_mono (show 4 ≤ 6 by decide) h23, sh3_mono (show 4 ≤ 6 by decide) h25]; rfl) (List.all_eq_true.1 rfl) rfl rfl) (show 4 ≤ 6 by decide), ?_⟩
        exact ⟨n - (i + 1), by omega, i + 1, (twoS z (nmI L (off + ((i : Nat) : Int).toNat * 5 - lo)) (z.sum (nmI L (off + ((i : Nat) : Int).toNat * 5 - lo)))).1, .int .i64 ((twoS z (nmI L (off + ((i : Nat) : Int).toNat * 5 - lo)) (z.sum (nmI L (off + ((i : Nat) : Int).toNat * 5 - lo)))).2), .bool true, .pointer (some ⟨3, off + ((i : Nat) : Int).toNat * 5, none⟩), N.v (nmI L (off + ((i : Nat) : Int).toNat * 5 - lo)), resV (twoS z (nmI L (off + ((i : Nat) : Int).toNat * 5 - lo)) (z.sum (nmI L (off + ((i : Nat) : Int).toNat * 5 - lo)))), N.v z, N.v (nmI L (off + ((i : Nat) : Int).toNat * 5 - lo)), resV (twoS z (nmI L (off + ((i : Nat) : Int).toNat * 5 - lo)) (z.sum (nmI L (off + ((i : Nat) : Int).toNat * 5 - lo)))), N.v (twoS z (nmI L (off + ((i : Nat) : Int).toNat * 5 - lo)) (z.sum (nmI L (off + ((i : Nat) : Int).toNat * 5 - lo)))).1, .int .i64 ((twoS z (nmI L (off + ((i : Nat) : Int).toNat * 5 - lo)) (z.sum (nmI L (off + ((i : Nat) : Int).toNat * 5 - lo)))).2), .int .i64 ((twoS z (nmI L (off + ((i : Nat) : Int).toNat * 5 - lo)) (z.sum (nmI L (off + ((i : Nat) : Int).toNat * 5 - lo)))).2), .bool false, v22, v23, .int .i64 ((i + 1 : Nat)), v25, by simp only [List.all_cons, List.all_nil, h22, h23, h25]; rfl, by omega, rfl, hc2, .inr ⟨(nmI L (off + ((i : Nat) : Int).toNat * 5 - lo)), rfl, rfl⟩⟩
  · have c1 : decide (((i : Nat) : Int) < (n : Int)) = false := decide_eq_false (by omega)
    have hz : (totL O (nmL L (off - lo) n)) = (z, 0) := by rw [hc, show n - i = 0 by omega]; rfl
    rcases hs with ⟨rfl, rfl⟩ | ⟨y, rfl, rfl⟩
    · refine WpW.of_ev (sg1 M) hor (show 3 ≤ 4 by decide) (Ev.of_eq 60 (fun s k => (roundTO0 M s et ro lo off n c L i z v7 v11 v12 v13 v14 v15 v16 v17 v18 v19 v20 v21 v22 v23 v24 v25 k).trans (condF c1)) ?_)
      exact .inl ⟨rfl, z, [], .inl rfl, hz, rfl, _, _, _, _, _, _, _, _, _, _, _, _, _, _, _, _, _, _, _, _, _, _, _, _, rfl⟩
    · refine WpW.of_ev (sg1 M) hor (show 3 ≤ 4 by decide) (Ev.of_eq 60 (fun s k => (roundTO1 M s et ro lo off n c L i z y v7 v11 v12 v13 v14 v15 v16 v17 v18 v19 v20 v21 v22 v23 v24 v25 k).trans (condF c1)) ?_)
      exact .inl ⟨rfl, z, [rb y], .inr ⟨y, rfl⟩, hz, rfl, _, _, _, _, _, _, _, _, _, _, _, _, _, _, _, _, _, _, _, _, _, _, _, _, rfl⟩
theorem atTO (M : Int) (et : TypeId) (ro : Bool) (lo off n c : Nat) (L : List Int) (h1 : insideI lo L off (n * 5) = true) (h2 : n ≤ 34359738368) :
    CallAt Tryz.prog (Sg1 M) 4 65 [slV off n c] [uni, pow, mxl M, kB et ro lo L] (resV (totL O (nmL L (off - lo) n))) [uni, pow, mxl M, kB et ro lo L] := by
  have hor := orcOk_of (LSum_ok M)
  refine CallAt.of_W bodyTO (show 3 ≤ 4 by decide) (Ext.refl _ _) rfl (List.all_eq_true.1 rfl) (List.all_eq_true.1 rfl) rfl ?_
  rw [tmpsTO]
  refine WpW.of_pieces ?_
  rw [show flatC (bodyOf Tryz.prog 65) = _ from LTO_eq]
  show WpL Tryz.prog (Sg1 M) 4 4 ([qTO 0, qTO 1, qTO 2] ++ [.block 0 (.loop BTO), qTO 4, qTO 5]) _ _ _
  refine WpL.run (sg1 M) hor (show 3 ≤ 4 by decide) (headTO M _ et ro lo off n c L _) ?_
  refine WpL.step (WpW.block ((loopTO M et ro lo off n c L h1 h2).mono ?_))
  rintro x T S (⟨rfl, z, R, hR, hz, rfl, a0, a1, a3, a5, a6, a7, a8, a9, a10, a11, a12, a13, a14, a15, a16, a17, a18, a19, a20, a21, a22, a23, a24, a25, rfl⟩ | ⟨rfl, y, e, R, hz, rfl, a0, a1, a4, a5, a6, a7, a8, a9, a10, a11, a12, a13, a14, a15, a16, a17, a18, a19, a20, a21, a22, a23, a24, a25, rfl⟩)
  · simp only [if_true]
    rcases hR with rfl | ⟨y, rfl⟩
    · refine WpL.stop (sg1 M) hor (show 3 ≤ 4 by decide) (tailTO0 M _ et ro lo L z _ _ _ _ _ _ _ _ _ _ _ _ _ _ _ _ _ _ _ _ _ _ _ _ _) ⟨trivial, ⟨rb z :: rb z :: [], rfl⟩, ?_⟩
      rw [hz]
      exact outTO _ _ _ _ _ _ _ _ _ _ _ _ _ _ _ _ _ _ _ _ _ _ _ _ _ _ _ _ _ _ _
    · refine WpL.stop (sg1 M) hor (show 3 ≤ 4 by decide) (tailTO1 M _ et ro lo L z y _ _ _ _ _ _ _ _ _ _ _ _ _ _ _ _ _ _ _ _ _ _ _ _ _) ⟨trivial, ⟨rb z :: rb z :: [rb y], rfl⟩, ?_⟩
      rw [hz]
      exact outTO _ _ _ _ _ _ _ _ _ _ _ _ _ _ _ _ _ _ _ _ _ _ _ _ _ _ _ _ _ _ _
  · refine ⟨trivial, ⟨rb y :: R, rfl⟩, ?_⟩
    rw [hz]
    exact outTO _ _ _ _ _ _ _ _ _ _ _ _ _ _ _ _ _ _ _ _ _ _ _ _ _ _ _ _ _ _ _
/-- A contract of calls with one list of numbers, that is read alone. -/
noncomputable def mconL (f : FuncId) (g : List N → Value) : MCon := ⟨f, fun _ args S => match args with
  | [.slice (some ⟨b, off, none⟩) n _] => match S[b]? with
    | some ⟨[], _, _, some (.ints .i64 lo L)⟩ => some (.ite (Nat.ble 3 b && (insideI lo L off (n * 5) && Nat.ble n 34359738368)) (.val (g (nmL L (off - lo) n)) S) .no)
    | _ => none
  | _ => none⟩
theorem mconL_ok {M : Int} {f : FuncId} {g : List N → Value} (hg : ∀ l, plain (g l) = true)
    (h : ∀ (et : TypeId) (ro : Bool) (lo off n c : Nat) (L : List Int), insideI lo L off (n * 5) = true → n ≤ 34359738368 → CallAt Tryz.prog (Sg1 M) 4 f [slV off n c] [uni, pow, mxl M, kB et ro lo L] (g (nmL L (off - lo) n)) [uni, pow, mxl M, kB et ro lo L]) : MConOk M (mconL f g) := by
  intro fl args S t v S' ht hv h1 h2
  simp only [mconL] at ht
  split at ht
  · rename_i b off n c
    split at ht
    · rename_i et ro lo L hb
      cases ht
      simp only [OTM.get] at hv
      cases hk : (Nat.ble 3 b && (insideI lo L off (n * 5) && Nat.ble n 34359738368)) with
      | false => rw [hk] at hv; cases hv
      | true =>
        rw [hk] at hv
        simp only [cond_true, Option.some.injEq, Prod.mk.injEq] at hv
        obtain ⟨rfl, rfl⟩ := hv
        simp only [Bool.and_eq_true, Nat.ble_eq] at hk
        obtain ⟨g3, g4, g5⟩ := hk
        have := callAtR (sg1 M) (fl := fl) (b := b) (S := S) (k1 := kB et ro lo L) (args0 := [slV off n c]) (h et ro lo off n c L g4 g5) hb g3 rfl (plain_sh (hg _) _) rfl
        rw [ren3_plain (hg _)] at this
        exact this
    · cases ht
  · cases ht
noncomputable def cTO : MCon := mconL 65 fun l => resV (totL O l)
theorem cTO_ok (M : Int) : MConOk M cTO := mconL_ok (fun _ => rfl) fun et ro lo off n c L h1 h2 => atTO M et ro lo off n c L h1 h2
end Go.Proofs.YtihccnfaibiiiaaGreatDoor.R
