/- Ring: RingPowers holds for every number, all integers, and every list that is not empty. -/
import Derived.Test.YtihccnfaibiiiaaGreatDoorMc
namespace Go.Proofs.YtihccnfaibiiiaaGreatDoor.R
open Go Go.Proofs.XX.Vm Go.Proofs.XX.Rm Go.RowKit
set_option maxRecDepth 100000

theorem callInK_far {P : Program} {α : Type} {orc : Orc} {Sg : List Blk} {fl : Nat} {f : FuncId} {args : List Value} {S : List Blk} {k : Value → List Blk → Option α} (hb : (P.funcs[f]?).bind (·.body) ≠ none) (N : Nat) :
    ∃ (m : Nat) (fs : Nat → Nat), (∀ i, N ≤ fs i) ∧ callInK P (evCodeK P orc Sg m) fl f args S k = evP P orc Sg fl fs 0 (pcs P f) (tmps0Of P f args) S (endK P f k) := by
  obtain ⟨fs, h1, h2⟩ := evCodeK_flat (P := P) (α := α) (orc := orc) (Sg := Sg) (fl := fl) (bodyOf P f) (N + depthC (bodyOf P f) + 60) (by omega)
  refine ⟨N + depthC (bodyOf P f) + 60, fs, fun i => by have := h1 i; omega, ?_⟩
  unfold pcs
  rw [← h2]
  unfold callInK bodyOf tmps0Of endK outOf
  cases hf : P.funcs[f]? with
  | none => rw [hf] at hb; exact absurd rfl hb
  | some fn =>
    cases hc : fn.body with
    | none => rw [hf] at hb; simp [hc] at hb
    | some c =>
      simp only [hc, forceK_eq]
      congr 1
      funext x T' S'
      cases x <;> simp only <;> cases resVals P T' S' fn.results.toList <;> rfl
theorem bodyRW : (Tryz.prog.funcs[5]?).bind (·.body) ≠ none := by
  rw [Tryz.func5]
  intro h
  have : (Option.isSome ((some Tryz.f5).bind (·.body))) = true := by kernel_rfl
  rw [h] at this
  cases this
theorem tmpsRW (a b c d : Value) : tmps0Of Tryz.prog 5 [a, b, c, d] = a :: b :: c :: d :: List.replicate 111 undef := by kernel_rfl
theorem greatRW (M : Int) (et : TypeId) (off m c : Nat) (x : N) (n h : Int) (L : List Int) : endK Tryz.prog 5 (fun u _ => some u) .ret [N.v x, .int .i64 (n), .int .i64 (h), slV off (m + 1) c, ptN 4, undef, undef, undef, .bool true, undef, undef, undef, undef, undef, undef, undef, undef, undef, undef, undef, undef, undef, undef, slV off (m + 1) c, .int .i64 (((m + 1 : Nat) : Int)), .bool true, .bool true, undef, undef, undef, undef, undef, undef, undef, undef, undef, undef, undef, undef, undef, undef, undef, undef, undef, undef, undef, undef, undef, undef, undef, undef, undef, undef, undef, undef, undef, undef, undef, undef, undef, undef, undef, undef, undef, undef, undef, undef, undef, undef, undef, undef, undef, undef, undef, undef, undef, undef, undef, undef, undef, undef, undef, undef, undef, undef, undef, undef, undef, undef, undef, undef, undef, undef, undef, undef, undef, undef, undef, undef, undef, undef, undef, undef, undef, undef, undef, undef, undef, undef, undef, undef, undef, undef, undef, undef] [uni, pow, mxl M, kB et true off L, rb x] = some (.bool true) := by kernel_rfl
theorem nmI_cut (L : List Int) (k t o : Nat) (h : o + 5 ≤ t) : nmI ((L.drop k).take t) o = nmI L (k + o) := by
  unfold nmI
  rw [nthI_cut _ _ _ _ (by omega), nthI_cut _ _ _ _ (by omega), nthI_cut _ _ _ _ (by omega), nthI_cut _ _ _ _ (by omega), nthI_cut _ _ _ _ (by omega)]
  rfl
theorem loopRW (M : Int) (et : TypeId) (off m c : Nat) (x : N) (n h : Int) (L : List Int) (hi : insideI off L off ((m + 1) * 5) = true) (hm : ¬ ((m + 1 : Nat) : Int) > 100) :
    Ev Tryz.prog orW (Sg1 M) Value 4 (.loop BRW) [N.v x, .int .i64 (n), .int .i64 (h), slV off (m + 1) c, ptN 4, undef, undef, undef, .bool false, ptN 5, .int .i64 ((rootS h).2), ptN 6, .int .i64 ((pwrS x n).2), ptN 7, .int .i64 ((sumL (nmL L (off - off) (m + 1))).2), slO (m + 1), ptN 10, .int .i64 ((rootS h).2), ptN 11, .int .i64 ((pwrS x n).2), ptN 12, .int .i64 ((sumL (nmL (cutL off off (m + 1) L) (0 - 0) (m + 1))).2), undef, slV off (m + 1) c, .int .i64 (((m + 1 : Nat) : Int)), .bool false, undef, resV (rootS h), .int .i64 (h), resV (rootS h), N.v (rootS h).1, .int .i64 ((rootS h).2), resV (pwrS x n), N.v x, .int .i64 (n), resV (pwrS x n), N.v (pwrS x n).1, .int .i64 ((pwrS x n).2), resV (sumL (nmL L (off - off) (m + 1))), slV off (m + 1) c, resV (sumL (nmL L (off - off) (m + 1))), N.v (sumL (nmL L (off - off) (m + 1))).1, .int .i64 ((sumL (nmL L (off - off) (m + 1))).2), .slice (some ⟨8, 0, none⟩) 0 0, slV off (m + 1) c, slO (m + 1), resV (rootS h), .int .i64 (h), resV (rootS h), N.v (rootS h).1, .int .i64 ((rootS h).2), resV (pwrS x n), N.v x, .int .i64 (n), resV (pwrS x n), N.v (pwrS x n).1, .int .i64 ((pwrS x n).2), resV (sumL (nmL (cutL off off (m + 1) L) (0 - 0) (m + 1))), slO (m + 1), resV (sumL (nmL (cutL off off (m + 1) L) (0 - 0) (m + 1))), N.v (sumL (nmL (cutL off off (m + 1) L) (0 - 0) (m + 1))).1, .int .i64 ((sumL (nmL (cutL off off (m + 1) L) (0 - 0) (m + 1))).2), slV off (m + 1) c, .int .i64 (((m + 1 : Nat) : Int)), .int .i64 (0), undef, undef, undef, undef, undef, undef, undef, undef, undef, undef, undef, undef, undef, undef, undef, undef, undef, undef, undef, undef, undef, undef, undef, undef, undef, undef, undef, undef, undef, undef, undef, undef, undef, undef, undef, undef, undef, undef, undef, undef, undef, undef, undef, undef, undef, undef, undef, undef, undef, undef] [uni, pow, mxl M, kB et true off L, rb x, rb (rootS h).1, rb (pwrS x n).1, rb (sumL (nmL L (off - off) (m + 1))).1, emN, kB nuT2 false 0 (cutL off off (m + 1) L), rb (rootS h).1, rb (pwrS x n).1, rb (sumL (nmL (cutL off off (m + 1) L) (0 - 0) (m + 1))).1] fun y T S => y = .exit 0 ∧ S = [uni, pow, mxl M, kB et true off L, rb x, rb (rootS h).1, rb (pwrS x n).1, rb (sumL (nmL L (off - off) (m + 1))).1, emN, kB nuT2 false 0 (cutL off off (m + 1) L), rb (rootS h).1, rb (pwrS x n).1, rb (sumL (nmL (cutL off off (m + 1) L) (0 - 0) (m + 1))).1] ∧ ∃ (i : Int) (v22 v65 v66 v67 v68 v69 v70 v71 v72 v73 v74 v75 v76 : Value), T = [N.v x, .int .i64 (n), .int .i64 (h), slV off (m + 1) c, ptN 4, undef, undef, undef, .bool false, ptN 5, .int .i64 ((rootS h).2), ptN 6, .int .i64 ((pwrS x n).2), ptN 7, .int .i64 ((sumL (nmL L (off - off) (m + 1))).2), slO (m + 1), ptN 10, .int .i64 ((rootS h).2), ptN 11, .int .i64 ((pwrS x n).2), ptN 12, .int .i64 ((sumL (nmL (cutL off off (m + 1) L) (0 - 0) (m + 1))).2), v22, slV off (m + 1) c, .int .i64 (((m + 1 : Nat) : Int)), .bool false, undef, resV (rootS h), .int .i64 (h), resV (rootS h), N.v (rootS h).1, .int .i64 ((rootS h).2), resV (pwrS x n), N.v x, .int .i64 (n), resV (pwrS x n), N.v (pwrS x n).1, .int .i64 ((pwrS x n).2), resV (sumL (nmL L (off - off) (m + 1))), slV off (m + 1) c, resV (sumL (nmL L (off - off) (m + 1))), N.v (sumL (nmL L (off - off) (m + 1))).1, .int .i64 ((sumL (nmL L (off - off) (m + 1))).2), .slice (some ⟨8, 0, none⟩) 0 0, slV off (m + 1) c, slO (m + 1), resV (rootS h), .int .i64 (h), resV (rootS h), N.v (rootS h).1, .int .i64 ((rootS h).2), resV (pwrS x n), N.v x, .int .i64 (n), resV (pwrS x n), N.v (pwrS x n).1, .int .i64 ((pwrS x n).2), resV (sumL (nmL (cutL off off (m + 1) L) (0 - 0) (m + 1))), slO (m + 1), resV (sumL (nmL (cutL off off (m + 1) L) (0 - 0) (m + 1))), N.v (sumL (nmL (cutL off off (m + 1) L) (0 - 0) (m + 1))).1, .int .i64 ((sumL (nmL (cutL off off (m + 1) L) (0 - 0) (m + 1))).2), slV off (m + 1) c, .int .i64 (((m + 1 : Nat) : Int)), .int .i64 (i), v65, v66, v67, v68, v69, v70, v71, v72, v73, v74, v75, v76, undef, undef, undef, undef, undef, undef, undef, undef, undef, undef, undef, undef, undef, undef, undef, undef, undef, undef, undef, undef, undef, undef, undef, undef, undef, undef, undef, undef, undef, undef, undef, undef, undef, undef, undef, undef, undef, undef] := by
  have hi2 : off + (m + 1) * 5 ≤ off + L.length := by simpa [insideI, Nat.ble_eq] using hi
  have hlen : (cutL off off (m + 1) L).length = (m + 1) * 5 := by unfold cutL; simp; omega
  refine Ev.loop (fun q T S => ∃ (i : Nat) (v22 v65 v66 v67 v68 v69 v70 v71 v72 v73 v74 v75 v76 : Value), i ≤ m + 1 ∧ q = m + 1 - i ∧ S = [uni, pow, mxl M, kB et true off L, rb x, rb (rootS h).1, rb (pwrS x n).1, rb (sumL (nmL L (off - off) (m + 1))).1, emN, kB nuT2 false 0 (cutL off off (m + 1) L), rb (rootS h).1, rb (pwrS x n).1, rb (sumL (nmL (cutL off off (m + 1) L) (0 - 0) (m + 1))).1] ∧ T = [N.v x, .int .i64 (n), .int .i64 (h), slV off (m + 1) c, ptN 4, undef, undef, undef, .bool false, ptN 5, .int .i64 ((rootS h).2), ptN 6, .int .i64 ((pwrS x n).2), ptN 7, .int .i64 ((sumL (nmL L (off - off) (m + 1))).2), slO (m + 1), ptN 10, .int .i64 ((rootS h).2), ptN 11, .int .i64 ((pwrS x n).2), ptN 12, .int .i64 ((sumL (nmL (cutL off off (m + 1) L) (0 - 0) (m + 1))).2), v22, slV off (m + 1) c, .int .i64 (((m + 1 : Nat) : Int)), .bool false, undef, resV (rootS h), .int .i64 (h), resV (rootS h), N.v (rootS h).1, .int .i64 ((rootS h).2), resV (pwrS x n), N.v x, .int .i64 (n), resV (pwrS x n), N.v (pwrS x n).1, .int .i64 ((pwrS x n).2), resV (sumL (nmL L (off - off) (m + 1))), slV off (m + 1) c, resV (sumL (nmL L (off - off) (m + 1))), N.v (sumL (nmL L (off - off) (m + 1))).1, .int .i64 ((sumL (nmL L (off - off) (m + 1))).2), .slice (some ⟨8, 0, none⟩) 0 0, slV off (m + 1) c, slO (m + 1), resV (rootS h), .int .i64 (h), resV (rootS h), N.v (rootS h).1, .int .i64 ((rootS h).2), resV (pwrS x n), N.v x, .int .i64 (n), resV (pwrS x n), N.v (pwrS x n).1, .int .i64 ((pwrS x n).2), resV (sumL (nmL (cutL off off (m + 1) L) (0 - 0) (m + 1))), slO (m + 1), resV (sumL (nmL (cutL off off (m + 1) L) (0 - 0) (m + 1))), N.v (sumL (nmL (cutL off off (m + 1) L) (0 - 0) (m + 1))).1, .int .i64 ((sumL (nmL (cutL off off (m + 1) L) (0 - 0) (m + 1))).2), slV off (m + 1) c, .int .i64 (((m + 1 : Nat) : Int)), .int .i64 (((i : Nat) : Int)), v65, v66, v67, v68, v69, v70, v71, v72, v73, v74, v75, v76, undef, undef, undef, undef, undef, undef, undef, undef, undef, undef, undef, undef, undef, undef, undef, undef, undef, undef, undef, undef, undef, undef, undef, undef, undef, undef, undef, undef, undef, undef, undef, undef, undef, undef, undef, undef, undef, undef]) ?_ (m + 1) _ _ ⟨0, undef, undef, undef, undef, undef, undef, undef, undef, undef, undef, undef, undef, undef, Nat.zero_le _, by omega, rfl, rfl⟩
  rintro q T S ⟨i, v22, v65, v66, v67, v68, v69, v70, v71, v72, v73, v74, v75, v76, hle, hq, rfl, rfl⟩
  by_cases hlt : i < m + 1
  · have c1 : decide (((i : Nat) : Int) < ((m + 1 : Nat) : Int)) = true := decide_eq_true (by omega)
    have c2 : (decide (0 ≤ ((i : Nat) : Int)) && decide (((i : Nat) : Int) < ((m + 1 : Nat) : Int))) = true := by rw [c1, decide_eq_true (show 0 ≤ ((i : Nat) : Int) by omega)]; rfl
    have c3 : insideI 0 (cutL off off (m + 1) L) (0 + ((i : Nat) : Int).toNat * 5) 5 = true := by
      simp only [insideI, Bool.and_eq_true, Nat.ble_eq, hlen, Int.toNat_natCast]
      omega
    have c4 : insideI off L (off + ((i : Nat) : Int).toNat * 5) 5 = true := by
      simp only [insideI, Bool.and_eq_true, Nat.ble_eq, Int.toNat_natCast]
      omega
    have c5 : (!(eqN (nmI (cutL off off (m + 1) L) (0 + ((i : Nat) : Int).toNat * 5 - 0)) (nmI L (off + ((i : Nat) : Int).toNat * 5 - off)))) = false := by
      rw [Int.toNat_natCast, show off + i * 5 - off = (off - off) + (0 + i * 5 - 0) by omega]
      unfold cutL
      rw [nmI_cut _ _ _ _ (by omega), (eqN_iff _ _).2 rfl]
      rfl
    have hw : w (((i : Nat) : Int) + 1) = ((i + 1 : Nat) : Int) := by rw [w_eq _ (by omega) (by omega)]; omega
    refine Ev.of_eq 60 (fun s k => (roundRW M s et off m c x n h i L v22 v65 v66 v67 v68 v69 v70 v71 v72 v73 v74 v75 v76 k).trans ((condT c1).trans ((condT c2).trans ((condT c3).trans ((condT c2).trans ((condT c4).trans (condF c5))))))) ?_
    exact ⟨m + 1 - (i + 1), by omega, i + 1, .int .i64 (((i : Nat) : Int)), .bool true, .int .i64 (((i : Nat) : Int)), slO (m + 1), .int .i64 (((i : Nat) : Int)), .pointer (some ⟨9, 0 + ((i : Nat) : Int).toNat * 5, none⟩), N.v (nmI (cutL off off (m + 1) L) (0 + ((i : Nat) : Int).toNat * 5 - 0)), slV off (m + 1) c, .int .i64 (((i : Nat) : Int)), .pointer (some ⟨3, off + ((i : Nat) : Int).toNat * 5, none⟩), N.v (nmI L (off + ((i : Nat) : Int).toNat * 5 - off)), .bool false, .int .i64 ((i + 1 : Nat)), by omega, rfl, rfl, by rw [hw]⟩
  · have c1 : decide (((i : Nat) : Int) < ((m + 1 : Nat) : Int)) = false := decide_eq_false (by omega)
    refine Ev.of_eq 60 (fun s k => (roundRW M s et off m c x n h i L v22 v65 v66 v67 v68 v69 v70 v71 v72 v73 v74 v75 v76 k).trans (condF c1)) ?_
    exact ⟨rfl, rfl, ((i : Nat) : Int), _, _, _, _, _, _, _, _, _, _, _, _, _, rfl⟩
theorem lawPw (M : Int) (et : TypeId) (off m c : Nat) (x : N) (n h : Int) (L : List Int) (hi : insideI off L off ((m + 1) * 5) = true) :
    ∃ s, callInK Tryz.prog (evCodeK Tryz.prog orW (Sg1 M) s) 4 5 [N.v x, .int .i64 n, .int .i64 h, slV off (m + 1) c] [uni, pow, mxl M, kB et true off L] (fun u _ => some u) = some (.bool true) := by
  by_cases hg : ((m + 1 : Nat) : Int) > 100
  · obtain ⟨s, fs, _, e⟩ := callInK_far (P := Tryz.prog) (orc := orW) (Sg := Sg1 M) (fl := 4) (f := 5) (args := [N.v x, .int .i64 n, .int .i64 h, slV off (m + 1) c]) (S := [uni, pow, mxl M, kB et true off L]) (k := fun (u : Value) (_ : List Blk) => some u) bodyRW 0
    refine ⟨s, e.trans ?_⟩
    rw [tmpsRW, LRW_eq]
    exact (headRW M fs et off m c x n h L _ _).trans ((condT (decide_eq_true hg)).trans (greatRW M et off m c x n h L))
  · obtain ⟨n1, y, T, S, ⟨rfl, rfl, i, v22, v65, v66, v67, v68, v69, v70, v71, v72, v73, v74, v75, v76, rfl⟩, hev⟩ := loopRW M et off m c x n h L hi hg
    obtain ⟨s, fs, hfs, e⟩ := callInK_far (P := Tryz.prog) (orc := orW) (Sg := Sg1 M) (fl := 4) (f := 5) (args := [N.v x, .int .i64 n, .int .i64 h, slV off (m + 1) c]) (S := [uni, pow, mxl M, kB et true off L]) (k := fun (u : Value) (_ : List Blk) => some u) bodyRW (n1 + 1)
    refine ⟨s, e.trans ?_⟩
    rw [tmpsRW, LRW_eq]
    have hb : m + 1 ≤ 34359738368 := by omega
    have hi2 : off + (m + 1) * 5 ≤ off + L.length := by simpa [insideI, Nat.ble_eq] using hi
    have hlen : (cutL off off (m + 1) L).length = (m + 1) * 5 := by unfold cutL; simp; omega
    have hap : apL off off (m + 1) L = true := by
      unfold apL
      rw [hi, show Nat.ble (m + 1) 34359738368 = true from by rw [Nat.ble_eq]; exact hb]
      rfl
    refine (headRW M fs et off m c x n h L _ _).trans ((condF (decide_eq_false hg)).trans ((condT (tsL_true hi hb)).trans ((condT hap).trans ((condT (tsL_true (by simp [insideI, hlen, Nat.ble_eq]) hb)).trans ?_))))
    obtain ⟨g, hgf⟩ : ∃ g, fs 11 + 60 = g + 1 := ⟨fs 11 + 59, by omega⟩
    have hg1 : n1 ≤ g := by have := hfs 11; omega
    simp only [evP, hgf]
    show evCodeK Tryz.prog orW (Sg1 M) g 4 (.loop BRW) _ _ _ = _
    rw [hev g hg1]
    refine Eq.trans ?_ ((tailRW M fs et off m c x n h i L v22 v65 v66 v67 v68 v69 v70 v71 v72 v73 v74 v75 v76).trans ?_)
    · rfl
    · have hs : nmL (cutL off off (m + 1) L) (0 - 0) (m + 1) = nmL L (off - off) (m + 1) := nmL_cut L (off - off) ((m + 1) * 5) (m + 1) 0 (by omega)
      rw [hs, xo_eq]
      simp only [beq_self_eq_true, (eqN_iff _ _).2 rfl, cond_true]
end Go.Proofs.YtihccnfaibiiiaaGreatDoor.R
