/- Ring: the first error of a list of numbers, as a contract (made by mklst2.py). -/
import Derived.Test.YtihccnfaibiiiaaGreatDoorM1
namespace Go.Proofs.YtihccnfaibiiiaaGreatDoor.R
open Go Go.Proofs.XX.Vm Go.Proofs.XX.Rm Go.RowKit
set_option maxRecDepth 100000

theorem inside_at {lo : Nat} {L : List Int} {off n i : Nat} (h : insideI lo L off (n * 5) = true) (hi : i < n) : lo ≤ off ∧ insideI lo L (off + i * 5) 5 = true := by
  simp only [insideI, Bool.and_eq_true, Nat.ble_eq] at h ⊢
  omega
theorem bodyFE : (Tryz.prog.funcs[90]?).bind (·.body) ≠ none := by
  rw [Tryz.func90]
  intro h
  have : (Option.isSome ((some Tryz.f90).bind (·.body))) = true := by kernel_rfl
  rw [h] at this
  cases this
theorem loopFE (M : Int) (et : TypeId) (ro : Bool) (lo off n c : Nat) (L : List Int) (h1 : insideI lo L off (n * 5) = true) (h2 : n ≤ 34359738368) :
    WpW Tryz.prog (Sg1 M) 4 4 (.loop BFE) [slV off n c, fCk, undef, undef, .int .i64 (0), undef, undef, undef, slV off n c, .int .i64 ((n : Int)), .int .i64 (0), undef, undef, undef, undef, undef, undef, undef, undef, undef, undef] [uni, pow, mxl M, kB et ro lo L] fun x T S => (x = .exit 0 ∧ (chkL (nmL L (off - lo) n)) = 0 ∧ (∃ N, S = [uni, pow, mxl M, kB et ro lo L] ++ N) ∧ ∃ (a0 a1 a2 a3 a4 a5 a6 a7 a8 a9 a10 a11 a12 a13 a14 a15 a16 a17 a18 a19 a20 : Value), T = [a0, a1, a2, a3, a4, a5, a6, a7, a8, a9, a10, a11, a12, a13, a14, a15, a16, a17, a18, a19, a20]) ∨
      (x = .ret ∧ (∃ N, S = [uni, pow, mxl M, kB et ro lo L] ++ N) ∧ ∃ (a0 a1 a2 a3 a5 a6 a7 a8 a9 a10 a11 a12 a13 a14 a15 a16 a17 a18 a19 a20 : Value), T = [a0, a1, a2, a3, .int .i64 (chkL (nmL L (off - lo) n)), a5, a6, a7, a8, a9, a10, a11, a12, a13, a14, a15, a16, a17, a18, a19, a20]) := by
  have hor := orcOk_of (LSum_ok M)
  refine WpW.loop (fun m T S => ∃ (i : Nat) (v7 v11 v12 v13 v14 v15 v16 v17 v18 v19 v20 : Value), [v7, v11, v12, v13, v14, v15, v16, v17, v18, v19, v20].all (sh3 4) = true ∧ i ≤ n ∧ m = n - i ∧ (chkL (nmL L (off - lo) n)) = chkL (nmL L (off - lo + 5 * i) (n - i)) ∧
      ((S = [uni, pow, mxl M, kB et ro lo L] ∧ T = [slV off n c, fCk, undef, undef, .int .i64 (0), undef, undef, v7, slV off n c, .int .i64 ((n : Int)), .int .i64 ((i : Nat)), v11, v12, v13, v14, v15, v16, v17, v18, v19, v20]) ∨ ∃ z, S = [uni, pow, mxl M, kB et ro lo L, rb z] ∧ T = [slV off n c, fCk, undef, undef, .int .i64 (0), undef, ptrN 4, v7, slV off n c, .int .i64 ((n : Int)), .int .i64 ((i : Nat)), v11, v12, v13, v14, v15, v16, v17, v18, v19, v20])) ?_ n _ _ ⟨0, undef, undef, undef, undef, undef, undef, undef, undef, undef, undef, undef, rfl, Nat.zero_le _, by omega, by simp, .inl ⟨rfl, rfl⟩⟩
  rintro m T S ⟨i, v7, v11, v12, v13, v14, v15, v16, v17, v18, v19, v20, hJ, hi, hm, hc, hs⟩
  have h19 : sh3 4 v19 = true := by
    simp only [List.all_cons, Bool.and_eq_true] at hJ
    exact hJ.2.2.2.2.2.2.2.2.2.1
  by_cases hlt : i < n
  · obtain ⟨h3, h4⟩ := inside_at h1 hlt
    have ex : off + ((i : Nat) : Int).toNat * 5 - lo = off - lo + 5 * i := by rw [Int.toNat_natCast]; omega
    have c1 : decide (((i : Nat) : Int) < (n : Int)) = true := decide_eq_true (by omega)
    have c2 : (decide (0 ≤ ((i : Nat) : Int)) && decide (((i : Nat) : Int) < (n : Int))) = true := by rw [c1, decide_eq_true (show 0 ≤ ((i : Nat) : Int) by omega)]; rfl
    have c3 : insideI lo L (off + ((i : Nat) : Int).toNat * 5) 5 = true := by rw [Int.toNat_natCast]; exact h4
    have hw : w (((i : Nat) : Int) + 1) = ((i + 1 : Nat) : Int) := by rw [w_eq _ (by omega) (by omega)]; omega
    have hc2 : (chkL (nmL L (off - lo) n)) = bif chkS (nmI L (off + ((i : Nat) : Int).toNat * 5 - lo)) != 0 then chkS (nmI L (off + ((i : Nat) : Int).toNat * 5 - lo)) else chkL (nmL L (off - lo + 5 * (i + 1)) (n - (i + 1))) := by
      rw [hc, show n - i = (n - (i + 1)) + 1 by omega, nmL, chkL, show off - lo + 5 * i + 5 = off - lo + 5 * (i + 1) by omega, ← ex]
    rcases hs with ⟨rfl, rfl⟩ | ⟨z, rfl, rfl⟩
    · cases hx : chkS (nmI L (off + ((i : Nat) : Int).toNat * 5 - lo)) != 0 with
      | true =>
        rw [hx, cond_true] at hc2
        refine WpW.of_ev (sg1 M) hor (show 3 ≤ 4 by decide) (Ev.of_eq 60 (fun s k => (roundFE0 M s et ro lo off n c L i v7 v11 v12 v13 v14 v15 v16 v17 v18 v19 v20 k).trans ((condT c1).trans ((condT c2).trans ((condT c3).trans (condT hx))))) ?_)
        exact .inr ⟨rfl, ⟨[rb (nmI L (off + ((i : Nat) : Int).toNat * 5 - lo))], rfl⟩, _, _, _, _, _, _, _, _, _, _, _, _, _, _, _, _, _, _, _, _, by rw [hc2]⟩
      | false =>
        rw [hx, cond_false] at hc2
        refine WpW.of_ev (sg1 M) hor (show 3 ≤ 4 by decide) (Ev.of_eq 60 (fun s k => (roundFE0 M s et ro lo off n c L i v7 v11 v12 v13 v14 v15 v16 v17 v18 v19 v20 k).trans ((condT c1).trans ((condT c2).trans ((condT c3).trans (condF hx))))) ?_)
        exact ⟨n - (i + 1), by omega, i + 1, .int .i64 (chkS (nmI L (off + ((i : Nat) : Int).toNat * 5 - lo))), .bool true, .pointer (some ⟨3, off + ((i : Nat) : Int).toNat * 5, none⟩), N.v (nmI L (off + ((i : Nat) : Int).toNat * 5 - lo)), fCk, N.v (nmI L (off + ((i : Nat) : Int).toNat * 5 - lo)), .int .i64 (chkS (nmI L (off + ((i : Nat) : Int).toNat * 5 - lo))), .int .i64 (chkS (nmI L (off + ((i : Nat) : Int).toNat * 5 - lo))), .bool false, v19, .int .i64 ((i + 1 : Nat)), by simp only [List.all_cons, List.all_nil, h19]; rfl, by omega, rfl, hc2, .inr ⟨(nmI L (off + ((i : Nat) : Int).toNat * 5 - lo)), rfl, by rw [hw]⟩⟩
    · cases hx : chkS (nmI L (off + ((i : Nat) : Int).toNat * 5 - lo)) != 0 with
      | true =>
        rw [hx, cond_true] at hc2
        refine WpW.of_ev (sg1 M) hor (show 3 ≤ 4 by decide) (Ev.of_eq 60 (fun s k => (roundFE1 M s et ro lo off n c L i z v7 v11 v12 v13 v14 v15 v16 v17 v18 v19 v20 k).trans ((condT c1).trans ((condT c2).trans ((condT c3).trans (condT hx))))) ?_)
        exact .inr ⟨rfl, ⟨[rb z, rb (nmI L (off + ((i : Nat) : Int).toNat * 5 - lo))], rfl⟩, _, _, _, _, _, _, _, _, _, _, _, _, _, _, _, _, _, _, _, _, by rw [hc2]⟩
      | false =>
        rw [hx, cond_false] at hc2
        refine WpW.post (show 3 ≤ 4 by decide) (show 3 ≤ 4 by decide) (WpW.of_ev (sg1 M) hor (show 3 ≤ 4 by decide) (Q := fun x T S => x = .normal ∧ T = [slV off n c, fCk, undef, undef, .int .i64 (0), undef, ptrN 5, .int .i64 (chkS (nmI L (off + ((i : Nat) : Int).toNat * 5 - lo))), slV off n c, .int .i64 ((n : Int)), .int .i64 ((i + 1 : Nat)), .bool true, .pointer (some ⟨3, off + ((i : Nat) : Int).toNat * 5, none⟩), N.v (nmI L (off + ((i : Nat) : Int).toNat * 5 - lo)), fCk, N.v (nmI L (off + ((i : Nat) : Int).toNat * 5 - lo)), .int .i64 (chkS (nmI L (off + ((i : Nat) : Int).toNat * 5 - lo))), .int .i64 (chkS (nmI L (off + ((i : Nat) : Int).toNat * 5 - lo))), .bool false, v19, .int .i64 ((i + 1 : Nat))] ∧ S = [uni, pow, mxl M, kB et ro lo L, rb z, rb (nmI L (off + ((i : Nat) : Int).toNat * 5 - lo))])
          (Ev.of_eq 60 (fun s k => (roundFE1 M s et ro lo off n c L i z v7 v11 v12 v13 v14 v15 v16 v17 v18 v19 v20 k).trans ((condT c1).trans ((condT c2).trans ((condT c3).trans (condF hx))))) ⟨rfl, by rw [hw], rfl⟩)) ?_
        rintro x T S ⟨rfl, rfl, rfl⟩
        refine ⟨_, _, _, Shr.turn (fl := 4) (B := [uni, pow, mxl M, kB et ro lo L]) (y := rb z) (z := rb (nmI L (off + ((i : Nat) : Int).toNat * 5 - lo))) (A := [slV off n c, fCk, undef, undef, .int .i64 (0), undef]) (C := [.int .i64 (chkS (nmI L (off + ((i : Nat) : Int).toNat * 5 - lo))), slV off n c, .int .i64 ((n : Int)), .int .i64 ((i + 1 : Nat)), .bool true, .pointer (some ⟨3, off + ((i : Nat) : Int).toNat * 5, none⟩), N.v (nmI L (off + ((i : Nat) : Int).toNat * 5 - lo)), fCk, N.v (nmI L (off + ((i : Nat) : Int).toNat * 5 - lo)), .int .i64 (chkS (nmI L (off + ((i : Nat) : Int).toNat * 5 - lo))), .int .i64 (chkS (nmI L (off + ((i : Nat) : Int).toNat * 5 - lo))), .bool false, v19, .int .i64 ((i + 1 : Nat))]) rfl (by simp only [List.all_cons, List.all_nil, List.length_cons, List.length_nil, h19]; rfl) (List.all_eq_true.1 rfl) rfl rfl, ?_⟩
        exact ⟨n - (i + 1), by omega, i + 1, .int .i64 (chkS (nmI L (off + ((i : Nat) : Int).toNat * 5 - lo))), .bool true, .pointer (some ⟨3, off + ((i : Nat) : Int).toNat * 5, none⟩), N.v (nmI L (off + ((i : Nat) : Int).toNat * 5 - lo)), fCk, N.v (nmI L (off + ((i : Nat) : Int).toNat * 5 - lo)), .int .i64 (chkS (nmI L (off + ((i : Nat) : Int).toNat * 5 - lo))), .int .i64 (chkS (nmI L (off + ((i : Nat) : Int).toNat * 5 - lo))), .bool false, v19, .int .i64 ((i + 1 : Nat)), by simp only [List.all_cons, List.all_nil, h19]; rfl, by omega, rfl, hc2, .inr ⟨(nmI L (off + ((i : Nat) : Int).toNat * 5 - lo)), rfl, rfl⟩⟩
  · have c1 : decide (((i : Nat) : Int) < (n : Int)) = false := decide_eq_false (by omega)
    have hz : (chkL (nmL L (off - lo) n)) = 0 := by rw [hc, show n - i = 0 by omega]; rfl
    rcases hs with ⟨rfl, rfl⟩ | ⟨z, rfl, rfl⟩
    · refine WpW.of_ev (sg1 M) hor (show 3 ≤ 4 by decide) (Ev.of_eq 60 (fun s k => (roundFE0 M s et ro lo off n c L i v7 v11 v12 v13 v14 v15 v16 v17 v18 v19 v20 k).trans (condF c1)) ?_)
      exact .inl ⟨rfl, hz, ⟨[], rfl⟩, _, _, _, _, _, _, _, _, _, _, _, _, _, _, _, _, _, _, _, _, _, rfl⟩
    · refine WpW.of_ev (sg1 M) hor (show 3 ≤ 4 by decide) (Ev.of_eq 60 (fun s k => (roundFE1 M s et ro lo off n c L i z v7 v11 v12 v13 v14 v15 v16 v17 v18 v19 v20 k).trans (condF c1)) ?_)
      exact .inl ⟨rfl, hz, ⟨[rb z], rfl⟩, _, _, _, _, _, _, _, _, _, _, _, _, _, _, _, _, _, _, _, _, _, rfl⟩
theorem atFE (M : Int) (et : TypeId) (ro : Bool) (lo off n c : Nat) (L : List Int) (h1 : insideI lo L off (n * 5) = true) (h2 : n ≤ 34359738368) :
    CallAt Tryz.prog (Sg1 M) 4 90 [slV off n c, fCk] [uni, pow, mxl M, kB et ro lo L] (.int .i64 (chkL (nmL L (off - lo) n))) [uni, pow, mxl M, kB et ro lo L] := by
  have hor := orcOk_of (LSum_ok M)
  refine CallAt.of_W bodyFE (show 3 ≤ 4 by decide) (Ext.refl _ _) rfl (List.all_eq_true.1 rfl) (List.all_eq_true.1 rfl) rfl ?_
  rw [tmpsFE]
  refine WpW.of_pieces ?_
  rw [show flatC (bodyOf Tryz.prog 90) = _ from LFE_eq]
  show WpL Tryz.prog (Sg1 M) 4 4 ([qFE 0, qFE 1] ++ [.block 0 (.loop BFE), qFE 3, qFE 4]) _ _ _
  refine WpL.run (sg1 M) hor (show 3 ≤ 4 by decide) (headFE M _ et ro lo off n c L _) ?_
  refine WpL.step (WpW.block ((loopFE M et ro lo off n c L h1 h2).mono ?_))
  rintro x T S (⟨rfl, hz, ⟨N, rfl⟩, a0, a1, a2, a3, a4, a5, a6, a7, a8, a9, a10, a11, a12, a13, a14, a15, a16, a17, a18, a19, a20, rfl⟩ | ⟨rfl, ⟨N, rfl⟩, a0, a1, a2, a3, a5, a6, a7, a8, a9, a10, a11, a12, a13, a14, a15, a16, a17, a18, a19, a20, rfl⟩)
  · simp only [if_true]
    refine WpL.stop (sg1 M) hor (show 3 ≤ 4 by decide) (tailFE M _ _ a0 a1 a2 a3 a4 a5 a6 a7 a8 a9 a10 a11 a12 a13 a14 a15 a16 a17 a18 a19 a20 _) ⟨trivial, ⟨N, rfl⟩, ?_⟩
    rw [hz]
    exact outFE _ _ _ _ _ _ _ _ _ _ _ _ _ _ _ _ _ _ _ _ _ _
  · exact ⟨trivial, ⟨N, rfl⟩, outFE _ _ _ _ _ _ _ _ _ _ _ _ _ _ _ _ _ _ _ _ _ _⟩
noncomputable def cFE : MCon := ⟨90, fun _ args S => match args with
  | [.slice (some ⟨b, off, none⟩) n _, .func (.func g) x y] => match S[b]? with
    | some ⟨[], _, _, some (.ints .i64 lo L)⟩ => some (.ite (Nat.beq g 62 && (x.toList.isEmpty && (y.toList.isEmpty && (Nat.ble 3 b && (insideI lo L off (n * 5) && Nat.ble n 34359738368))))) (.val (.int .i64 (chkL (nmL L (off - lo) n))) S) .no)
    | _ => none
  | _ => none⟩
theorem cFE_ok (M : Int) : MConOk M cFE := by
  intro fl args S t v S' ht hv h1 h2
  simp only [cFE] at ht
  split at ht
  · rename_i b off n c g x y
    split at ht
    · rename_i et ro lo L hb
      cases ht
      simp only [OTM.get] at hv
      cases hk : (Nat.beq g 62 && (x.toList.isEmpty && (y.toList.isEmpty && (Nat.ble 3 b && (insideI lo L off (n * 5) && Nat.ble n 34359738368))))) with
      | false => rw [hk] at hv; cases hv
      | true =>
        rw [hk] at hv
        simp only [cond_true, Option.some.injEq, Prod.mk.injEq] at hv
        obtain ⟨rfl, rfl⟩ := hv
        simp only [Bool.and_eq_true, Nat.beq_eq, Nat.ble_eq, List.isEmpty_iff, Array.toList_eq_nil_iff] at hk
        obtain ⟨rfl, rfl, rfl, g3, g4, g5⟩ := hk
        exact callAtR (sg1 M) (k1 := kB et ro lo L) (args0 := [slV off n c, fCk]) (v0 := .int .i64 (chkL (nmL L (off - lo) n))) (atFE M et ro lo off n c L g4 g5) hb g3 rfl rfl rfl
    · cases ht
  · cases ht
end Go.Proofs.YtihccnfaibiiiaaGreatDoor.R
