/- Ring: RingSmall returns true (made by mksl.py). -/
import Derived.Test.YtihccnfaibiiiaaGreatDoorK20
namespace Go.Proofs.YtihccnfaibiiiaaGreatDoor.R
open Go Go.Proofs.XX.Vm Go.Proofs.XX.Rm Go.RowKit
set_option maxRecDepth 100000

theorem WpL.seeX {P : Program} {orc : Orc} {Sg : List Blk} (hsg : SgOk Sg) (horc : OrcOk P Sg (orcOf orc)) {nb fl : Nat} (hfl : Sg.length ≤ fl) (hgb : Sg.length ≤ nb) {l q : List Code} {i id : Nat} {ts m : List Nat} {T : List Value} {S : List Blk} {n : Nat} {r : List Value} {bs : List (Option Blk)} {Q : Ex → List Value → List Blk → Prop} (hl : l ≠ [])
    (e : evP P orc Sg fl (fun _ => 1000) i l T S (seesB ts m) = some (.exit id, n, r, bs)) (r2 : List Value) (S2 : List Blk) (hk : Kept nb fl n m ts r r2 bs S2) (h : Q (.exit id) (putJ n ts r2) S2) : WpL P Sg nb fl (l ++ q) T S Q := by
  refine WpL.append (WpL.forget hfl hgb (WpL.of_k hsg horc hfl l i T S e) (fun x T' S' hk' => ?_) hl)
  obtain ⟨rfl, h1, h2, h3⟩ := seesB_eq hk'
  exact ⟨_, _, _, hk.fgt h1 h2 h3, h⟩
theorem WpL.seeE {P : Program} {orc : Orc} {Sg : List Blk} (hsg : SgOk Sg) (horc : OrcOk P Sg (orcOf orc)) {nb fl : Nat} (hfl : Sg.length ≤ fl) (hgb : Sg.length ≤ nb) {l : List Code} {i : Nat} {x : Ex} {ts m : List Nat} {T : List Value} {S : List Blk} {n : Nat} {r : List Value} {bs : List (Option Blk)} {Q : Ex → List Value → List Blk → Prop} (hl : l ≠ [])
    (e : evP P orc Sg fl (fun _ => 1000) i l T S (seesB ts m) = some (x, n, r, bs)) (r2 : List Value) (S2 : List Blk) (hk : Kept nb fl n m ts r r2 bs S2) (h : Q x (putJ n ts r2) S2) : WpL P Sg nb fl l T S Q := by
  refine WpL.forget hfl hgb (WpL.of_k hsg horc hfl l i T S e) (fun x T' S' hk' => ?_) hl
  obtain ⟨rfl, h1, h2, h3⟩ := seesB_eq hk'
  exact ⟨_, _, _, hk.fgt h1 h2 h3, h⟩
theorem kept3 {M : Int} {n : Nat} {m ts : List Nat} {r r2 : List Value} {bs : List (Option Blk)} {S2 : List Blk} (hts : ∀ t ∈ ts, t < n) (hr : r2.map (ren3 (tau (0 :: 1 :: 2 :: m))) = r) (hnd : (0 :: 1 :: 2 :: m).Nodup) (hsh : r2.all (sh3 (S2.length + 3)) = true) (hB : KeepB (tau (0 :: 1 :: 2 :: m)) (S2.length + 3) bs S2) :
    Kept 3 3 n (0 :: 1 :: 2 :: m) ts r r2 (some uni :: some pow :: some (mxl M) :: bs) (uni :: pow :: mxl M :: S2) :=
  ⟨hts, hr, hnd, fun i hi => by match i, hi with | 0, _ => rfl | 1, _ => rfl | 2, _ => rfl, by simp, hsh, ⟨⟨.inl rfl, rfl⟩, ⟨.inl rfl, rfl⟩, ⟨.inl rfl, rfl⟩, hB⟩, fun b e1 e2 => by match b, e2 with | 0, _ => rfl | 1, _ => rfl | 2, _ => rfl⟩
theorem wS {n : Nat} (h : n ≤ 1000) : w ((n : Int) + 1) = ((n + 1 : Nat) : Int) := by rw [w_eq _ (by omega) (by omega)]; omega
theorem X1_ok {n : Nat} (h : n < 81) : (prS (X1 (n : Int))).2 = 0 := by
  have e1 : (n : Int).tmod 3 = ((n % 3 : Nat) : Int) := by rw [Int.tmod_eq_emod_of_nonneg (by omega)]; omega
  have e2 : (n : Int).tdiv 3 = ((n / 3 : Nat) : Int) := by rw [Int.tdiv_eq_ediv_of_nonneg (by omega)]; omega
  have e3 : (n : Int).tdiv 9 = ((n / 9 : Nat) : Int) := by rw [Int.tdiv_eq_ediv_of_nonneg (by omega)]; omega
  have e4 : (n : Int).tdiv 27 = ((n / 27 : Nat) : Int) := by rw [Int.tdiv_eq_ediv_of_nonneg (by omega)]; omega
  have e5 : (n : Int).tmod 4 = ((n % 4 : Nat) : Int) := by rw [Int.tmod_eq_emod_of_nonneg (by omega)]; omega
  have e6 : ((n / 3 : Nat) : Int).tmod 3 = ((n / 3 % 3 : Nat) : Int) := by rw [Int.tmod_eq_emod_of_nonneg (by omega)]; omega
  have e7 : ((n / 9 : Nat) : Int).tmod 3 = ((n / 9 % 3 : Nat) : Int) := by rw [Int.tmod_eq_emod_of_nonneg (by omega)]; omega
  have w1 : w ((n / 3 : Nat) : Int) = ((n / 3 : Nat) : Int) := w_eq _ (by omega) (by omega)
  have w2 : w ((n / 9 : Nat) : Int) = ((n / 9 : Nat) : Int) := w_eq _ (by omega) (by omega)
  have w3 : w ((n / 27 : Nat) : Int) = ((n / 27 : Nat) : Int) := w_eq _ (by omega) (by omega)
  have ho : okB (X1 (n : Int)) = true := by
    rw [okB_iff]
    unfold X1
    rw [e1, e2, e3, e4, e5, w1, w2, w3, e6, e7, w_eq (((n % 3 : Nat) : Int) - 1) (by omega) (by omega), w_eq (((n / 3 % 3 : Nat) : Int) - 1) (by omega) (by omega), w_eq (((n / 9 % 3 : Nat) : Int) - 1) (by omega) (by omega), w_eq (((n / 27 : Nat) : Int) - 1) (by omega) (by omega)]
    refine ⟨by simp only; omega, by simp only; omega, ?_⟩
    constructor <;> simp only <;> omega
  unfold prS
  rw [bif3_ok ho]
theorem loopOne (M : Int) : WpW Tryz.prog (Sg1 M) 3 3 (.loop (BSm 0)) (putJ 254 [0, 1, 31] [.bool false, .slice (some ⟨3, 0, none⟩) 6 6, .int .i64 (0)]) [uni, pow, mxl M, someB] fun x T' S' => x = .exit 0 ∧ ∃ n : Int, T' = (putJ 254 [0, 1, 31] [.bool false, .slice (some ⟨3, 0, none⟩) 6 6, .int .i64 (n)]) ∧ S' = [uni, pow, mxl M, someB] := by
  refine WpW.loop (fun m T S => ∃ n : Nat, n ≤ 81 ∧ m = 81 - n ∧ T = (putJ 254 [0, 1, 31] [.bool false, .slice (some ⟨3, 0, none⟩) 6 6, .int .i64 ((n : Int))]) ∧ S = [uni, pow, mxl M, someB]) ?_ 81 _ _ ⟨0, by omega, rfl, rfl, rfl⟩
  rintro m T S ⟨n, hn, rfl, rfl, rfl⟩
  have hR := rd1 M (n : Int)
  by_cases hlt : n < 81
  · rw [decide_eq_true (show (n : Int) < 81 by omega), X1_ok hlt, wS (by omega)] at hR
    exact WpW.seeF (sg1 M) (orS_ok M) (show (Sg1 M).length ≤ 3 from Nat.le_refl _) (show (Sg1 M).length ≤ 3 from Nat.le_refl _) hR _ _ (kept3 (r2 := [.bool false, .slice (some ⟨3, 0, none⟩) 6 6, .int .i64 (((n + 1 : Nat) : Int))]) (S2 := [someB]) (by decide) rfl (by decide) rfl ⟨⟨.inl rfl, rfl⟩, trivial⟩) ⟨81 - (n + 1), by omega, n + 1, by omega, rfl, rfl, rfl⟩
  · rw [decide_eq_false (show ¬ (n : Int) < 81 by omega)] at hR
    exact WpW.seeF (sg1 M) (orS_ok M) (show (Sg1 M).length ≤ 3 from Nat.le_refl _) (show (Sg1 M).length ≤ 3 from Nat.le_refl _) hR _ _ (kept3 (r2 := [.bool false, .slice (some ⟨3, 0, none⟩) 6 6, .int .i64 ((n : Int))]) (S2 := [someB]) (by decide) rfl (by decide) rfl ⟨⟨.inl rfl, rfl⟩, trivial⟩) ⟨rfl, _, rfl, rfl⟩
theorem loopB (M a v : Int) : WpW Tryz.prog (Sg1 M) 3 3 (.loop (BSm 3)) (putJ 254 [0, 10, 83, 84, 85, 89, 90, 91] [.bool false, .int .i64 (v), .slice (some ⟨3, 0, none⟩) 15 15, .int .i64 (15), .int .i64 (a), .slice (some ⟨4, 0, none⟩) 9 9, .int .i64 (9), .int .i64 (0)]) [uni, pow, mxl M, intB cLA, intB cLB] fun x T' S' => x = .exit 6 ∧ ∃ b : Int, T' = (putJ 254 [0, 10, 83, 84, 85, 89, 90, 91] [.bool false, .int .i64 (v), .slice (some ⟨3, 0, none⟩) 15 15, .int .i64 (15), .int .i64 (a), .slice (some ⟨4, 0, none⟩) 9 9, .int .i64 (9), .int .i64 (b)]) ∧ S' = [uni, pow, mxl M, intB cLA, intB cLB] := by
  refine WpW.loop (fun m T S => ∃ b : Nat, b ≤ 9 ∧ m = 9 - b ∧ T = (putJ 254 [0, 10, 83, 84, 85, 89, 90, 91] [.bool false, .int .i64 (v), .slice (some ⟨3, 0, none⟩) 15 15, .int .i64 (15), .int .i64 (a), .slice (some ⟨4, 0, none⟩) 9 9, .int .i64 (9), .int .i64 ((b : Int))]) ∧ S = [uni, pow, mxl M, intB cLA, intB cLB]) ?_ 9 _ _ ⟨0, by omega, rfl, rfl, rfl⟩
  rintro m T S ⟨b, hn, rfl, rfl, rfl⟩
  have hR := rdB M a v (b : Int)
  by_cases hlt : b < 9
  · have hi : insideI 0 cLB (0 + ((b : Nat) : Int).toNat * 1) 1 = true := by
      unfold insideI
      rw [show cLB.length = 9 from rfl, Int.toNat_natCast, Nat.ble_eq_true_of_le (by omega), Nat.ble_eq_true_of_le (by omega)]; rfl
    rw [decide_eq_true (show (b : Int) < 9 by omega), decide_eq_true (show (0 : Int) ≤ b by omega), decide_eq_true (show (b : Int) < ((9 : Nat) : Int) by omega), hi, wS (by omega)] at hR
    exact WpW.seeF (sg1 M) (orS_ok M) (show (Sg1 M).length ≤ 3 from Nat.le_refl _) (show (Sg1 M).length ≤ 3 from Nat.le_refl _) hR _ _ (kept3 (r2 := [.bool false, .int .i64 (v), .slice (some ⟨3, 0, none⟩) 15 15, .int .i64 (15), .int .i64 (a), .slice (some ⟨4, 0, none⟩) 9 9, .int .i64 (9), .int .i64 (((b + 1 : Nat) : Int))]) (S2 := [intB cLA, intB cLB]) (by decide) rfl (by decide) rfl ⟨⟨.inl rfl, rfl⟩, ⟨.inl rfl, rfl⟩, trivial⟩) ⟨9 - (b + 1), by omega, b + 1, by omega, rfl, rfl, rfl⟩
  · rw [decide_eq_false (show ¬ (b : Int) < 9 by omega)] at hR
    exact WpW.seeF (sg1 M) (orS_ok M) (show (Sg1 M).length ≤ 3 from Nat.le_refl _) (show (Sg1 M).length ≤ 3 from Nat.le_refl _) hR _ _ (kept3 (r2 := [.bool false, .int .i64 (v), .slice (some ⟨3, 0, none⟩) 15 15, .int .i64 (15), .int .i64 (a), .slice (some ⟨4, 0, none⟩) 9 9, .int .i64 (9), .int .i64 ((b : Int))]) (S2 := [intB cLA, intB cLB]) (by decide) rfl (by decide) rfl ⟨⟨.inl rfl, rfl⟩, ⟨.inl rfl, rfl⟩, trivial⟩) ⟨rfl, _, rfl, rfl⟩
theorem loopA (M : Int) : WpW Tryz.prog (Sg1 M) 3 3 (.loop (BSm 2)) (putJ 254 [0, 83, 84, 85] [.bool false, .slice (some ⟨3, 0, none⟩) 15 15, .int .i64 (15), .int .i64 (0)]) [uni, pow, mxl M, intB cLA] fun x T' S' => x = .exit 4 ∧ ∃ a : Int, T' = (putJ 254 [0, 83, 84, 85] [.bool false, .slice (some ⟨3, 0, none⟩) 15 15, .int .i64 (15), .int .i64 (a)]) ∧ S' = [uni, pow, mxl M, intB cLA] := by
  refine WpW.loop (fun m T S => ∃ a : Nat, a ≤ 15 ∧ m = 15 - a ∧ T = (putJ 254 [0, 83, 84, 85] [.bool false, .slice (some ⟨3, 0, none⟩) 15 15, .int .i64 (15), .int .i64 ((a : Int))]) ∧ S = [uni, pow, mxl M, intB cLA]) ?_ 15 _ _ ⟨0, by omega, rfl, rfl, rfl⟩
  rintro m T S ⟨a, hn, rfl, rfl, rfl⟩
  refine WpW.of_pieces ?_
  rw [SA_eq]
  have hR := rdA0 M (a : Int)
  by_cases hlt : a < 15
  · have hi : insideI 0 cLA (0 + ((a : Nat) : Int).toNat * 1) 1 = true := by
      unfold insideI
      rw [show cLA.length = 15 from rfl, Int.toNat_natCast, Nat.ble_eq_true_of_le (by omega), Nat.ble_eq_true_of_le (by omega)]; rfl
    rw [decide_eq_true (show (a : Int) < 15 by omega)] at hR
    refine WpL.seeF (l := [qSA 0, qSA 1]) (q := [_, qSA 3]) (sg1 M) (orS_ok M) (show (Sg1 M).length ≤ 3 from Nat.le_refl _) (show (Sg1 M).length ≤ 3 from Nat.le_refl _) (by simp) hR _ _ (kept3 (r2 := [.bool false, .slice (some ⟨3, 0, none⟩) 15 15, .int .i64 (15), .int .i64 ((a : Int))]) (S2 := [intB cLA]) (by decide) rfl (by decide) rfl ⟨⟨.inl rfl, rfl⟩, trivial⟩) ?_
    refine WpL.step (WpW.block (WpW.of_pieces ?_))
    rw [SA1_eq]
    have hR1 := rdA1 M (a : Int)
    rw [decide_eq_true (show (0 : Int) ≤ a by omega), decide_eq_true (show (a : Int) < ((15 : Nat) : Int) by omega), hi] at hR1
    refine WpL.seeF (l := [qSA1 0, qSA1 1]) (q := [.block 6 (.loop (BSm 3))]) (sg1 M) (orS_ok M) (show (Sg1 M).length ≤ 3 from Nat.le_refl _) (show (Sg1 M).length ≤ 3 from Nat.le_refl _) (by simp) hR1 [.bool false, .int .i64 (nthI cLA (0 + (a : Int).toNat * 1 - 0)), .slice (some ⟨3, 0, none⟩) 15 15, .int .i64 (15), .int .i64 ((a : Int)), .slice (some ⟨4, 0, none⟩) 9 9, .int .i64 (9), .int .i64 (0)] [uni, pow, mxl M, intB cLA, intB cLB] (kept3 (r2 := [.bool false, .int .i64 (nthI cLA (0 + (a : Int).toNat * 1 - 0)), .slice (some ⟨3, 0, none⟩) 15 15, .int .i64 (15), .int .i64 ((a : Int)), .slice (some ⟨4, 0, none⟩) 9 9, .int .i64 (9), .int .i64 (0)]) (S2 := [intB cLA, intB cLB]) (by decide) rfl (by decide) rfl ⟨⟨.inl rfl, rfl⟩, ⟨.inr (.inr ⟨_, _, rfl, rfl, rfl⟩), rfl⟩, trivial⟩) ?_
    refine WpL.step (WpW.block ((loopB M (a : Int) (nthI cLA (0 + (a : Int).toNat * 1 - 0))).mono ?_))
    rintro x T S ⟨rfl, b, rfl, rfl⟩
    show WpL Tryz.prog (Sg1 M) 3 3 [qSA 3] _ _ _
    have hR2 := rdA2 M (a : Int) (nthI cLA (0 + (a : Int).toNat * 1 - 0)) b
    rw [wS (by omega)] at hR2
    exact WpL.seeE (sg1 M) (orS_ok M) (show (Sg1 M).length ≤ 3 from Nat.le_refl _) (show (Sg1 M).length ≤ 3 from Nat.le_refl _) (by simp) hR2 _ _ (kept3 (r2 := [.bool false, .slice (some ⟨3, 0, none⟩) 15 15, .int .i64 (15), .int .i64 (((a + 1 : Nat) : Int))]) (S2 := [intB cLA]) (by decide) rfl (by decide) rfl ⟨⟨.inl rfl, rfl⟩, trivial⟩) ⟨15 - (a + 1), by omega, a + 1, by omega, rfl, rfl, rfl⟩
  · rw [decide_eq_false (show ¬ (a : Int) < 15 by omega)] at hR
    exact WpL.seeX (l := [qSA 0, qSA 1]) (sg1 M) (orS_ok M) (show (Sg1 M).length ≤ 3 from Nat.le_refl _) (show (Sg1 M).length ≤ 3 from Nat.le_refl _) (by simp) hR _ _ (kept3 (r2 := [.bool false, .slice (some ⟨3, 0, none⟩) 15 15, .int .i64 (15), .int .i64 ((a : Int))]) (S2 := [intB cLA]) (by decide) rfl (by decide) rfl ⟨⟨.inl rfl, rfl⟩, trivial⟩) ⟨rfl, _, rfl, rfl⟩
theorem loopC (M : Int) : WpW Tryz.prog (Sg1 M) 3 3 (.loop (BSm 6)) (putJ 254 [0, 160, 161, 162] [.bool false, .slice (some ⟨3, 0, none⟩) 12 12, .int .i64 (12), .int .i64 (0)]) [uni, pow, mxl M, intB cLC] fun x T' S' => x = .exit 12 ∧ ∃ c : Int, T' = (putJ 254 [0, 160, 161, 162] [.bool false, .slice (some ⟨3, 0, none⟩) 12 12, .int .i64 (12), .int .i64 (c)]) ∧ S' = [uni, pow, mxl M, intB cLC] := by
  refine WpW.loop (fun m T S => ∃ c : Nat, c ≤ 12 ∧ m = 12 - c ∧ T = (putJ 254 [0, 160, 161, 162] [.bool false, .slice (some ⟨3, 0, none⟩) 12 12, .int .i64 (12), .int .i64 ((c : Int))]) ∧ S = [uni, pow, mxl M, intB cLC]) ?_ 12 _ _ ⟨0, by omega, rfl, rfl, rfl⟩
  rintro m T S ⟨c, hn, rfl, rfl, rfl⟩
  have hR := rdC M (c : Int)
  by_cases hlt : c < 12
  · have hi : insideI 0 cLC (0 + ((c : Nat) : Int).toNat * 1) 1 = true := by
      unfold insideI
      rw [show cLC.length = 12 from rfl, Int.toNat_natCast, Nat.ble_eq_true_of_le (by omega), Nat.ble_eq_true_of_le (by omega)]; rfl
    rw [decide_eq_true (show (c : Int) < 12 by omega), decide_eq_true (show (0 : Int) ≤ c by omega), decide_eq_true (show (c : Int) < ((12 : Nat) : Int) by omega), hi, wS (by omega)] at hR
    exact WpW.seeF (sg1 M) (orS_ok M) (show (Sg1 M).length ≤ 3 from Nat.le_refl _) (show (Sg1 M).length ≤ 3 from Nat.le_refl _) hR _ _ (kept3 (r2 := [.bool false, .slice (some ⟨3, 0, none⟩) 12 12, .int .i64 (12), .int .i64 (((c + 1 : Nat) : Int))]) (S2 := [intB cLC]) (by decide) rfl (by decide) rfl ⟨⟨.inl rfl, rfl⟩, trivial⟩) ⟨12 - (c + 1), by omega, c + 1, by omega, rfl, rfl, rfl⟩
  · rw [decide_eq_false (show ¬ (c : Int) < 12 by omega)] at hR
    exact WpW.seeF (sg1 M) (orS_ok M) (show (Sg1 M).length ≤ 3 from Nat.le_refl _) (show (Sg1 M).length ≤ 3 from Nat.le_refl _) hR _ _ (kept3 (r2 := [.bool false, .slice (some ⟨3, 0, none⟩) 12 12, .int .i64 (12), .int .i64 ((c : Int))]) (S2 := [intB cLC]) (by decide) rfl (by decide) rfl ⟨⟨.inl rfl, rfl⟩, trivial⟩) ⟨rfl, _, rfl, rfl⟩
theorem chg_eq {α : Type} {s : ByteArray} (hs : s.size ≤ 100) {c : List UInt8} (hc : c.length ≤ 1) {p : Nat} (hp : p ≤ s.size) (k : Option α) : chg s (bs c) (p : Int) k = k := by
  have h1 : preOkS s (p : Int) = true := by
    unfold preOkS
    rw [decide_eq_true (show (0 : Int) ≤ p by omega), Int.toNat_natCast, Nat.ble_eq_true_of_le (Nat.zero_le p), Nat.ble_eq_true_of_le hp]; rfl
  have suf : ∀ q : Nat, q ≤ s.size → sufOk s (q : Int) = true := fun q hq => by
    unfold sufOk
    rw [decide_eq_true (show (0 : Int) ≤ q by omega), Int.toNat_natCast, Nat.ble_eq_true_of_le hq, Nat.ble_eq_true_of_le (Nat.le_refl _)]; rfl
  have hz : ∀ i j : Nat, (s.extract i j).size ≤ 100 := fun i j => by rw [ByteArray.size_extract]; omega
  have cat : ∀ a b : ByteArray, a.size ≤ 300 → b.size ≤ 300 → catOk a b = true := fun a b h1 h2 => Nat.ble_eq_true_of_le (by omega)
  have h2 : catOk (s.extract 0 p) (bs c) = true := cat _ _ (by have := hz 0 p; omega) (by rw [bs_size]; omega)
  have h3 : ∀ q : Nat, catOk (s.extract 0 p ++ bs c) (s.extract q s.size) = true := fun q => cat _ _ (by rw [ByteArray.size_append, bs_size]; have := hz 0 p; omega) (by have := hz q s.size; omega)
  unfold chg
  rw [h1, suf p hp, Int.toNat_natCast, h2, h3, wS (by omega)]
  simp only [cond_true]
  by_cases hlt : p < s.size
  · rw [decide_eq_true (show (p : Int) < (s.size : Int) by omega), suf (p + 1) (by omega), Int.toNat_natCast, h3]; rfl
  · rw [decide_eq_false (show ¬ (p : Int) < (s.size : Int) by omega)]; rfl
theorem loopG (M e l : Int) (s : ByteArray) (hs : s.size ≤ 100) (p : Nat) (hp : p ≤ s.size) : WpW Tryz.prog (Sg1 M) 3 3 (.loop (BSm 9)) (putJ 254 [0, 20, 21, 187, 188, 189, 195, 196, 199, 200, 201] [.bool false, .string s, .int .i64 (p), .slice (some ⟨3, 0, none⟩) 6 6, .int .i64 (6), .int .i64 (e), .int .i64 (l), .int .i64 (p), .slice (some ⟨4, 0, none⟩) 12 12, .int .i64 (12), .int .i64 (0)]) [uni, pow, mxl M, strC cLE, strC cLG] fun x T' S' => x = .exit 18 ∧ ∃ g : Int, T' = (putJ 254 [0, 20, 21, 187, 188, 189, 195, 196, 199, 200, 201] [.bool false, .string s, .int .i64 (p), .slice (some ⟨3, 0, none⟩) 6 6, .int .i64 (6), .int .i64 (e), .int .i64 (l), .int .i64 (p), .slice (some ⟨4, 0, none⟩) 12 12, .int .i64 (12), .int .i64 (g)]) ∧ S' = [uni, pow, mxl M, strC cLE, strC cLG] := by
  refine WpW.loop (fun m T S => ∃ g : Nat, g ≤ 12 ∧ m = 12 - g ∧ T = (putJ 254 [0, 20, 21, 187, 188, 189, 195, 196, 199, 200, 201] [.bool false, .string s, .int .i64 (p), .slice (some ⟨3, 0, none⟩) 6 6, .int .i64 (6), .int .i64 (e), .int .i64 (l), .int .i64 (p), .slice (some ⟨4, 0, none⟩) 12 12, .int .i64 (12), .int .i64 ((g : Int))]) ∧ S = [uni, pow, mxl M, strC cLE, strC cLG]) ?_ 12 _ _ ⟨0, by omega, rfl, rfl, rfl⟩
  rintro m T S ⟨g, hn, rfl, rfl, rfl⟩
  have hg : g = 0 ∨ g = 1 ∨ g = 2 ∨ g = 3 ∨ g = 4 ∨ g = 5 ∨ g = 6 ∨ g = 7 ∨ g = 8 ∨ g = 9 ∨ g = 10 ∨ g = 11 ∨ g = 12 := by omega
  rcases hg with rfl | rfl | rfl | rfl | rfl | rfl | rfl | rfl | rfl | rfl | rfl | rfl | rfl
  · exact WpW.seeF (sg1 M) (orS_ok M) (show (Sg1 M).length ≤ 3 from Nat.le_refl _) (show (Sg1 M).length ≤ 3 from Nat.le_refl _) ((rdG0 M e l (p : Int) s).trans (chg_eq hs (by decide) hp _)) _ _ (kept3 (r2 := [.bool false, .string s, .int .i64 (p), .slice (some ⟨3, 0, none⟩) 6 6, .int .i64 (6), .int .i64 (e), .int .i64 (l), .int .i64 (p), .slice (some ⟨4, 0, none⟩) 12 12, .int .i64 (12), .int .i64 (1)]) (S2 := [strC cLE, strC cLG]) (by decide) rfl (by decide) rfl ⟨⟨.inl rfl, rfl⟩, ⟨.inl rfl, rfl⟩, trivial⟩) ⟨12 - 1, by omega, 1, by omega, rfl, rfl, rfl⟩
  · exact WpW.seeF (sg1 M) (orS_ok M) (show (Sg1 M).length ≤ 3 from Nat.le_refl _) (show (Sg1 M).length ≤ 3 from Nat.le_refl _) ((rdG1 M e l (p : Int) s).trans (chg_eq hs (by decide) hp _)) _ _ (kept3 (r2 := [.bool false, .string s, .int .i64 (p), .slice (some ⟨3, 0, none⟩) 6 6, .int .i64 (6), .int .i64 (e), .int .i64 (l), .int .i64 (p), .slice (some ⟨4, 0, none⟩) 12 12, .int .i64 (12), .int .i64 (2)]) (S2 := [strC cLE, strC cLG]) (by decide) rfl (by decide) rfl ⟨⟨.inl rfl, rfl⟩, ⟨.inl rfl, rfl⟩, trivial⟩) ⟨12 - 2, by omega, 2, by omega, rfl, rfl, rfl⟩
  · exact WpW.seeF (sg1 M) (orS_ok M) (show (Sg1 M).length ≤ 3 from Nat.le_refl _) (show (Sg1 M).length ≤ 3 from Nat.le_refl _) ((rdG2 M e l (p : Int) s).trans (chg_eq hs (by decide) hp _)) _ _ (kept3 (r2 := [.bool false, .string s, .int .i64 (p), .slice (some ⟨3, 0, none⟩) 6 6, .int .i64 (6), .int .i64 (e), .int .i64 (l), .int .i64 (p), .slice (some ⟨4, 0, none⟩) 12 12, .int .i64 (12), .int .i64 (3)]) (S2 := [strC cLE, strC cLG]) (by decide) rfl (by decide) rfl ⟨⟨.inl rfl, rfl⟩, ⟨.inl rfl, rfl⟩, trivial⟩) ⟨12 - 3, by omega, 3, by omega, rfl, rfl, rfl⟩
  · exact WpW.seeF (sg1 M) (orS_ok M) (show (Sg1 M).length ≤ 3 from Nat.le_refl _) (show (Sg1 M).length ≤ 3 from Nat.le_refl _) ((rdG3 M e l (p : Int) s).trans (chg_eq hs (by decide) hp _)) _ _ (kept3 (r2 := [.bool false, .string s, .int .i64 (p), .slice (some ⟨3, 0, none⟩) 6 6, .int .i64 (6), .int .i64 (e), .int .i64 (l), .int .i64 (p), .slice (some ⟨4, 0, none⟩) 12 12, .int .i64 (12), .int .i64 (4)]) (S2 := [strC cLE, strC cLG]) (by decide) rfl (by decide) rfl ⟨⟨.inl rfl, rfl⟩, ⟨.inl rfl, rfl⟩, trivial⟩) ⟨12 - 4, by omega, 4, by omega, rfl, rfl, rfl⟩
  · exact WpW.seeF (sg1 M) (orS_ok M) (show (Sg1 M).length ≤ 3 from Nat.le_refl _) (show (Sg1 M).length ≤ 3 from Nat.le_refl _) ((rdG4 M e l (p : Int) s).trans (chg_eq hs (by decide) hp _)) _ _ (kept3 (r2 := [.bool false, .string s, .int .i64 (p), .slice (some ⟨3, 0, none⟩) 6 6, .int .i64 (6), .int .i64 (e), .int .i64 (l), .int .i64 (p), .slice (some ⟨4, 0, none⟩) 12 12, .int .i64 (12), .int .i64 (5)]) (S2 := [strC cLE, strC cLG]) (by decide) rfl (by decide) rfl ⟨⟨.inl rfl, rfl⟩, ⟨.inl rfl, rfl⟩, trivial⟩) ⟨12 - 5, by omega, 5, by omega, rfl, rfl, rfl⟩
  · exact WpW.seeF (sg1 M) (orS_ok M) (show (Sg1 M).length ≤ 3 from Nat.le_refl _) (show (Sg1 M).length ≤ 3 from Nat.le_refl _) ((rdG5 M e l (p : Int) s).trans (chg_eq hs (by decide) hp _)) _ _ (kept3 (r2 := [.bool false, .string s, .int .i64 (p), .slice (some ⟨3, 0, none⟩) 6 6, .int .i64 (6), .int .i64 (e), .int .i64 (l), .int .i64 (p), .slice (some ⟨4, 0, none⟩) 12 12, .int .i64 (12), .int .i64 (6)]) (S2 := [strC cLE, strC cLG]) (by decide) rfl (by decide) rfl ⟨⟨.inl rfl, rfl⟩, ⟨.inl rfl, rfl⟩, trivial⟩) ⟨12 - 6, by omega, 6, by omega, rfl, rfl, rfl⟩
  · exact WpW.seeF (sg1 M) (orS_ok M) (show (Sg1 M).length ≤ 3 from Nat.le_refl _) (show (Sg1 M).length ≤ 3 from Nat.le_refl _) ((rdG6 M e l (p : Int) s).trans (chg_eq hs (by decide) hp _)) _ _ (kept3 (r2 := [.bool false, .string s, .int .i64 (p), .slice (some ⟨3, 0, none⟩) 6 6, .int .i64 (6), .int .i64 (e), .int .i64 (l), .int .i64 (p), .slice (some ⟨4, 0, none⟩) 12 12, .int .i64 (12), .int .i64 (7)]) (S2 := [strC cLE, strC cLG]) (by decide) rfl (by decide) rfl ⟨⟨.inl rfl, rfl⟩, ⟨.inl rfl, rfl⟩, trivial⟩) ⟨12 - 7, by omega, 7, by omega, rfl, rfl, rfl⟩
  · exact WpW.seeF (sg1 M) (orS_ok M) (show (Sg1 M).length ≤ 3 from Nat.le_refl _) (show (Sg1 M).length ≤ 3 from Nat.le_refl _) ((rdG7 M e l (p : Int) s).trans (chg_eq hs (by decide) hp _)) _ _ (kept3 (r2 := [.bool false, .string s, .int .i64 (p), .slice (some ⟨3, 0, none⟩) 6 6, .int .i64 (6), .int .i64 (e), .int .i64 (l), .int .i64 (p), .slice (some ⟨4, 0, none⟩) 12 12, .int .i64 (12), .int .i64 (8)]) (S2 := [strC cLE, strC cLG]) (by decide) rfl (by decide) rfl ⟨⟨.inl rfl, rfl⟩, ⟨.inl rfl, rfl⟩, trivial⟩) ⟨12 - 8, by omega, 8, by omega, rfl, rfl, rfl⟩
  · exact WpW.seeF (sg1 M) (orS_ok M) (show (Sg1 M).length ≤ 3 from Nat.le_refl _) (show (Sg1 M).length ≤ 3 from Nat.le_refl _) ((rdG8 M e l (p : Int) s).trans (chg_eq hs (by decide) hp _)) _ _ (kept3 (r2 := [.bool false, .string s, .int .i64 (p), .slice (some ⟨3, 0, none⟩) 6 6, .int .i64 (6), .int .i64 (e), .int .i64 (l), .int .i64 (p), .slice (some ⟨4, 0, none⟩) 12 12, .int .i64 (12), .int .i64 (9)]) (S2 := [strC cLE, strC cLG]) (by decide) rfl (by decide) rfl ⟨⟨.inl rfl, rfl⟩, ⟨.inl rfl, rfl⟩, trivial⟩) ⟨12 - 9, by omega, 9, by omega, rfl, rfl, rfl⟩
  · exact WpW.seeF (sg1 M) (orS_ok M) (show (Sg1 M).length ≤ 3 from Nat.le_refl _) (show (Sg1 M).length ≤ 3 from Nat.le_refl _) ((rdG9 M e l (p : Int) s).trans (chg_eq hs (by decide) hp _)) _ _ (kept3 (r2 := [.bool false, .string s, .int .i64 (p), .slice (some ⟨3, 0, none⟩) 6 6, .int .i64 (6), .int .i64 (e), .int .i64 (l), .int .i64 (p), .slice (some ⟨4, 0, none⟩) 12 12, .int .i64 (12), .int .i64 (10)]) (S2 := [strC cLE, strC cLG]) (by decide) rfl (by decide) rfl ⟨⟨.inl rfl, rfl⟩, ⟨.inl rfl, rfl⟩, trivial⟩) ⟨12 - 10, by omega, 10, by omega, rfl, rfl, rfl⟩
  · exact WpW.seeF (sg1 M) (orS_ok M) (show (Sg1 M).length ≤ 3 from Nat.le_refl _) (show (Sg1 M).length ≤ 3 from Nat.le_refl _) ((rdG10 M e l (p : Int) s).trans (chg_eq hs (by decide) hp _)) _ _ (kept3 (r2 := [.bool false, .string s, .int .i64 (p), .slice (some ⟨3, 0, none⟩) 6 6, .int .i64 (6), .int .i64 (e), .int .i64 (l), .int .i64 (p), .slice (some ⟨4, 0, none⟩) 12 12, .int .i64 (12), .int .i64 (11)]) (S2 := [strC cLE, strC cLG]) (by decide) rfl (by decide) rfl ⟨⟨.inl rfl, rfl⟩, ⟨.inl rfl, rfl⟩, trivial⟩) ⟨12 - 11, by omega, 11, by omega, rfl, rfl, rfl⟩
  · exact WpW.seeF (sg1 M) (orS_ok M) (show (Sg1 M).length ≤ 3 from Nat.le_refl _) (show (Sg1 M).length ≤ 3 from Nat.le_refl _) ((rdG11 M e l (p : Int) s).trans (chg_eq hs (by decide) hp _)) _ _ (kept3 (r2 := [.bool false, .string s, .int .i64 (p), .slice (some ⟨3, 0, none⟩) 6 6, .int .i64 (6), .int .i64 (e), .int .i64 (l), .int .i64 (p), .slice (some ⟨4, 0, none⟩) 12 12, .int .i64 (12), .int .i64 (12)]) (S2 := [strC cLE, strC cLG]) (by decide) rfl (by decide) rfl ⟨⟨.inl rfl, rfl⟩, ⟨.inl rfl, rfl⟩, trivial⟩) ⟨12 - 12, by omega, 12, by omega, rfl, rfl, rfl⟩
  · exact WpW.seeF (sg1 M) (orS_ok M) (show (Sg1 M).length ≤ 3 from Nat.le_refl _) (show (Sg1 M).length ≤ 3 from Nat.le_refl _) (rdGx M e l (p : Int) s) _ _ (kept3 (r2 := [.bool false, .string s, .int .i64 (p), .slice (some ⟨3, 0, none⟩) 6 6, .int .i64 (6), .int .i64 (e), .int .i64 (l), .int .i64 (p), .slice (some ⟨4, 0, none⟩) 12 12, .int .i64 (12), .int .i64 (12)]) (S2 := [strC cLE, strC cLG]) (by decide) rfl (by decide) rfl ⟨⟨.inl rfl, rfl⟩, ⟨.inl rfl, rfl⟩, trivial⟩) ⟨rfl, _, rfl, rfl⟩
theorem loopF (M e : Int) (s : ByteArray) (hs : s.size ≤ 100) : WpW Tryz.prog (Sg1 M) 3 3 (.loop (BSm 8)) (putJ 254 [0, 20, 187, 188, 189, 195, 196] [.bool false, .string s, .slice (some ⟨3, 0, none⟩) 6 6, .int .i64 (6), .int .i64 (e), .int .i64 (((s.size + 1 : Nat) : Int)), .int .i64 (0)]) [uni, pow, mxl M, strC cLE] fun x T' S' => x = .exit 16 ∧ ∃ l p : Int, T' = (putJ 254 [0, 20, 187, 188, 189, 195, 196] [.bool false, .string s, .slice (some ⟨3, 0, none⟩) 6 6, .int .i64 (6), .int .i64 (e), .int .i64 (l), .int .i64 (p)]) ∧ S' = [uni, pow, mxl M, strC cLE] := by
  refine WpW.loop (fun m T S => ∃ p : Nat, p ≤ s.size + 1 ∧ m = s.size + 1 - p ∧ T = (putJ 254 [0, 20, 187, 188, 189, 195, 196] [.bool false, .string s, .slice (some ⟨3, 0, none⟩) 6 6, .int .i64 (6), .int .i64 (e), .int .i64 (((s.size + 1 : Nat) : Int)), .int .i64 ((p : Int))]) ∧ S = [uni, pow, mxl M, strC cLE]) ?_ (s.size + 1) _ _ ⟨0, by omega, rfl, rfl, rfl⟩
  rintro m T S ⟨p, hn, rfl, rfl, rfl⟩
  refine WpW.of_pieces ?_
  rw [LF_eq]
  have hR := rdF0 M e ((s.size + 1 : Nat) : Int) (p : Int) s
  by_cases hlt : p < s.size + 1
  · rw [decide_eq_true (show (p : Int) < ((s.size + 1 : Nat) : Int) by omega)] at hR
    refine WpL.seeF (l := [qF 0, qF 1]) (q := [_, qF 3]) (sg1 M) (orS_ok M) (show (Sg1 M).length ≤ 3 from Nat.le_refl _) (show (Sg1 M).length ≤ 3 from Nat.le_refl _) (by simp) hR _ _ (kept3 (r2 := [.bool false, .string s, .slice (some ⟨3, 0, none⟩) 6 6, .int .i64 (6), .int .i64 (e), .int .i64 (((s.size + 1 : Nat) : Int)), .int .i64 ((p : Int))]) (S2 := [strC cLE]) (by decide) rfl (by decide) rfl ⟨⟨.inl rfl, rfl⟩, trivial⟩) ?_
    refine WpL.step (WpW.block (WpW.of_pieces ?_))
    rw [LF1_eq]
    refine WpL.seeF (l := [qF1 0, qF1 1]) (q := [.block 18 (.loop (BSm 9))]) (sg1 M) (orS_ok M) (show (Sg1 M).length ≤ 3 from Nat.le_refl _) (show (Sg1 M).length ≤ 3 from Nat.le_refl _) (by simp) (rdF1 M e ((s.size + 1 : Nat) : Int) (p : Int) s) _ _ (kept3 (r2 := [.bool false, .string s, .int .i64 ((p : Int)), .slice (some ⟨3, 0, none⟩) 6 6, .int .i64 (6), .int .i64 (e), .int .i64 (((s.size + 1 : Nat) : Int)), .int .i64 ((p : Int)), .slice (some ⟨4, 0, none⟩) 12 12, .int .i64 (12), .int .i64 (0)]) (S2 := [strC cLE, strC cLG]) (by decide) rfl (by decide) rfl ⟨⟨.inl rfl, rfl⟩, ⟨.inl rfl, rfl⟩, trivial⟩) ?_
    refine WpL.step (WpW.block ((loopG M e ((s.size + 1 : Nat) : Int) s hs p (by omega)).mono ?_))
    rintro x T S ⟨rfl, g, rfl, rfl⟩
    show WpL Tryz.prog (Sg1 M) 3 3 [qF 3] _ _ _
    have hR2 := rdF2 M e ((s.size + 1 : Nat) : Int) (p : Int) g s
    rw [wS (by omega)] at hR2
    exact WpL.seeE (sg1 M) (orS_ok M) (show (Sg1 M).length ≤ 3 from Nat.le_refl _) (show (Sg1 M).length ≤ 3 from Nat.le_refl _) (by simp) hR2 _ _ (kept3 (r2 := [.bool false, .string s, .slice (some ⟨3, 0, none⟩) 6 6, .int .i64 (6), .int .i64 (e), .int .i64 (((s.size + 1 : Nat) : Int)), .int .i64 (((p + 1 : Nat) : Int))]) (S2 := [strC cLE]) (by decide) rfl (by decide) rfl ⟨⟨.inl rfl, rfl⟩, trivial⟩) ⟨s.size + 1 - (p + 1), by omega, p + 1, by omega, rfl, rfl, rfl⟩
  · rw [decide_eq_false (show ¬ (p : Int) < ((s.size + 1 : Nat) : Int) by omega)] at hR
    exact WpL.seeX (l := [qF 0, qF 1]) (sg1 M) (orS_ok M) (show (Sg1 M).length ≤ 3 from Nat.le_refl _) (show (Sg1 M).length ≤ 3 from Nat.le_refl _) (by simp) hR _ _ (kept3 (r2 := [.bool false, .string s, .slice (some ⟨3, 0, none⟩) 6 6, .int .i64 (6), .int .i64 (e), .int .i64 (((s.size + 1 : Nat) : Int)), .int .i64 ((p : Int))]) (S2 := [strC cLE]) (by decide) rfl (by decide) rfl ⟨⟨.inl rfl, rfl⟩, trivial⟩) ⟨rfl, _, _, rfl, rfl⟩
theorem loopE (M : Int) : WpW Tryz.prog (Sg1 M) 3 3 (.loop (BSm 7)) (putJ 254 [0, 187, 188, 189] [.bool false, .slice (some ⟨3, 0, none⟩) 6 6, .int .i64 (6), .int .i64 (0)]) [uni, pow, mxl M, strC cLE] fun x T' S' => x = .exit 14 ∧ ∃ e : Int, T' = (putJ 254 [0, 187, 188, 189] [.bool false, .slice (some ⟨3, 0, none⟩) 6 6, .int .i64 (6), .int .i64 (e)]) ∧ S' = [uni, pow, mxl M, strC cLE] := by
  refine WpW.loop (fun m T S => ∃ e : Nat, e ≤ 6 ∧ m = 6 - e ∧ T = (putJ 254 [0, 187, 188, 189] [.bool false, .slice (some ⟨3, 0, none⟩) 6 6, .int .i64 (6), .int .i64 ((e : Int))]) ∧ S = [uni, pow, mxl M, strC cLE]) ?_ 6 _ _ ⟨0, by omega, rfl, rfl, rfl⟩
  rintro m T S ⟨e, hn, rfl, rfl, rfl⟩
  refine WpW.of_pieces ?_
  rw [LE_eq]
  have hR := rdE0 M (e : Int)
  by_cases hlt : e < 6
  · rw [decide_eq_true (show (e : Int) < 6 by omega)] at hR
    refine WpL.seeF (l := [qE 0, qE 1]) (q := [_, qE 3]) (sg1 M) (orS_ok M) (show (Sg1 M).length ≤ 3 from Nat.le_refl _) (show (Sg1 M).length ≤ 3 from Nat.le_refl _) (by simp) hR _ _ (kept3 (r2 := [.bool false, .slice (some ⟨3, 0, none⟩) 6 6, .int .i64 (6), .int .i64 ((e : Int))]) (S2 := [strC cLE]) (by decide) rfl (by decide) rfl ⟨⟨.inl rfl, rfl⟩, trivial⟩) ?_
    refine WpL.step (WpW.block (WpW.of_pieces ?_))
    rw [LE1_eq]
    have fin : ∀ (e : Nat) (s : ByteArray) (_ : e < 6) (T : List Value) (S : List Blk), (∃ l p : Int, T = (putJ 254 [0, 20, 187, 188, 189, 195, 196] [.bool false, .string s, .slice (some ⟨3, 0, none⟩) 6 6, .int .i64 (6), .int .i64 ((e : Int)), .int .i64 (l), .int .i64 (p)]) ∧ S = [uni, pow, mxl M, strC cLE]) → WpL Tryz.prog (Sg1 M) 3 3 [qE 3] T S fun x T' S' => match x with
        | .normal => ∃ m', m' < 6 - e ∧ ∃ e : Nat, e ≤ 6 ∧ m' = 6 - e ∧ T' = (putJ 254 [0, 187, 188, 189] [.bool false, .slice (some ⟨3, 0, none⟩) 6 6, .int .i64 (6), .int .i64 ((e : Int))]) ∧ S' = [uni, pow, mxl M, strC cLE]
        | .exit id => (Ex.exit id = .exit 14) ∧ ∃ e : Int, T' = (putJ 254 [0, 187, 188, 189] [.bool false, .slice (some ⟨3, 0, none⟩) 6 6, .int .i64 (6), .int .i64 (e)]) ∧ S' = [uni, pow, mxl M, strC cLE]
        | .ret => (Ex.ret = .exit 14) ∧ ∃ e : Int, T' = (putJ 254 [0, 187, 188, 189] [.bool false, .slice (some ⟨3, 0, none⟩) 6 6, .int .i64 (6), .int .i64 (e)]) ∧ S' = [uni, pow, mxl M, strC cLE] := by
      rintro e s he T S ⟨l, p, rfl, rfl⟩
      have hR2 := rdE2 M (e : Int) l p s
      rw [wS (by omega)] at hR2
      exact WpL.seeE (sg1 M) (orS_ok M) (show (Sg1 M).length ≤ 3 from Nat.le_refl _) (show (Sg1 M).length ≤ 3 from Nat.le_refl _) (by simp) hR2 _ _ (kept3 (r2 := [.bool false, .slice (some ⟨3, 0, none⟩) 6 6, .int .i64 (6), .int .i64 (((e + 1 : Nat) : Int))]) (S2 := [strC cLE]) (by decide) rfl (by decide) rfl ⟨⟨.inl rfl, rfl⟩, trivial⟩) ⟨6 - (e + 1), by omega, e + 1, by omega, rfl, rfl, rfl⟩
    have he : e = 0 ∨ e = 1 ∨ e = 2 ∨ e = 3 ∨ e = 4 ∨ e = 5 := by omega
    rcases he with rfl | rfl | rfl | rfl | rfl | rfl
    · refine WpL.seeF (l := [qE1 0, qE1 1]) (q := [.block 16 (.loop (BSm 8))]) (sg1 M) (orS_ok M) (show (Sg1 M).length ≤ 3 from Nat.le_refl _) (show (Sg1 M).length ≤ 3 from Nat.le_refl _) (by simp) (rdE10 M) _ _ (kept3 (r2 := [.bool false, .string (bs [48]), .slice (some ⟨3, 0, none⟩) 6 6, .int .i64 (6), .int .i64 (0), .int .i64 (2), .int .i64 (0)]) (S2 := [strC cLE]) (by decide) rfl (by decide) rfl ⟨⟨.inl rfl, rfl⟩, trivial⟩) ?_
      refine WpL.step (WpW.block ((loopF M 0 (bs [48]) (by decide)).mono ?_))
      rintro x T S ⟨rfl, h⟩
      exact fin 0 (bs [48]) (by omega) T S h
    · refine WpL.seeF (l := [qE1 0, qE1 1]) (q := [.block 16 (.loop (BSm 8))]) (sg1 M) (orS_ok M) (show (Sg1 M).length ≤ 3 from Nat.le_refl _) (show (Sg1 M).length ≤ 3 from Nat.le_refl _) (by simp) (rdE11 M) _ _ (kept3 (r2 := [.bool false, .string (bs [40, 49, 45, 50, 119, 43, 51, 119, 50, 45, 119, 51, 41, 47, 114, 49, 50]), .slice (some ⟨3, 0, none⟩) 6 6, .int .i64 (6), .int .i64 (1), .int .i64 (18), .int .i64 (0)]) (S2 := [strC cLE]) (by decide) rfl (by decide) rfl ⟨⟨.inl rfl, rfl⟩, trivial⟩) ?_
      refine WpL.step (WpW.block ((loopF M 1 (bs [40, 49, 45, 50, 119, 43, 51, 119, 50, 45, 119, 51, 41, 47, 114, 49, 50]) (by decide)).mono ?_))
      rintro x T S ⟨rfl, h⟩
      exact fin 1 (bs [40, 49, 45, 50, 119, 43, 51, 119, 50, 45, 119, 51, 41, 47, 114, 49, 50]) (by omega) T S h
    · refine WpL.seeF (l := [qE1 0, qE1 1]) (q := [.block 16 (.loop (BSm 8))]) (sg1 M) (orS_ok M) (show (Sg1 M).length ≤ 3 from Nat.le_refl _) (show (Sg1 M).length ≤ 3 from Nat.le_refl _) (by simp) (rdE12 M) _ _ (kept3 (r2 := [.bool false, .string (bs [45, 119, 51]), .slice (some ⟨3, 0, none⟩) 6 6, .int .i64 (6), .int .i64 (2), .int .i64 (4), .int .i64 (0)]) (S2 := [strC cLE]) (by decide) rfl (by decide) rfl ⟨⟨.inl rfl, rfl⟩, trivial⟩) ?_
      refine WpL.step (WpW.block ((loopF M 2 (bs [45, 119, 51]) (by decide)).mono ?_))
      rintro x T S ⟨rfl, h⟩
      exact fin 2 (bs [45, 119, 51]) (by omega) T S h
    · refine WpL.seeF (l := [qE1 0, qE1 1]) (q := [.block 16 (.loop (BSm 8))]) (sg1 M) (orS_ok M) (show (Sg1 M).length ≤ 3 from Nat.le_refl _) (show (Sg1 M).length ≤ 3 from Nat.le_refl _) (by simp) (rdE13 M) _ _ (kept3 (r2 := [.bool false, .string (bs [49, 48, 55, 51, 55, 52, 49, 56, 50, 52]), .slice (some ⟨3, 0, none⟩) 6 6, .int .i64 (6), .int .i64 (3), .int .i64 (11), .int .i64 (0)]) (S2 := [strC cLE]) (by decide) rfl (by decide) rfl ⟨⟨.inl rfl, rfl⟩, trivial⟩) ?_
      refine WpL.step (WpW.block ((loopF M 3 (bs [49, 48, 55, 51, 55, 52, 49, 56, 50, 52]) (by decide)).mono ?_))
      rintro x T S ⟨rfl, h⟩
      exact fin 3 (bs [49, 48, 55, 51, 55, 52, 49, 56, 50, 52]) (by omega) T S h
    · refine WpL.seeF (l := [qE1 0, qE1 1]) (q := [.block 16 (.loop (BSm 8))]) (sg1 M) (orS_ok M) (show (Sg1 M).length ≤ 3 from Nat.le_refl _) (show (Sg1 M).length ≤ 3 from Nat.le_refl _) (by simp) (rdE14 M) _ _ (kept3 (r2 := [.bool false, .string (bs [49, 50, 43, 119]), .slice (some ⟨3, 0, none⟩) 6 6, .int .i64 (6), .int .i64 (4), .int .i64 (5), .int .i64 (0)]) (S2 := [strC cLE]) (by decide) rfl (by decide) rfl ⟨⟨.inl rfl, rfl⟩, trivial⟩) ?_
      refine WpL.step (WpW.block ((loopF M 4 (bs [49, 50, 43, 119]) (by decide)).mono ?_))
      rintro x T S ⟨rfl, h⟩
      exact fin 4 (bs [49, 50, 43, 119]) (by omega) T S h
    · refine WpL.seeF (l := [qE1 0, qE1 1]) (q := [.block 16 (.loop (BSm 8))]) (sg1 M) (orS_ok M) (show (Sg1 M).length ≤ 3 from Nat.le_refl _) (show (Sg1 M).length ≤ 3 from Nat.le_refl _) (by simp) (rdE15 M) _ _ (kept3 (r2 := [.bool false, .string (bs [40, 49, 41, 47, 114, 54, 48]), .slice (some ⟨3, 0, none⟩) 6 6, .int .i64 (6), .int .i64 (5), .int .i64 (8), .int .i64 (0)]) (S2 := [strC cLE]) (by decide) rfl (by decide) rfl ⟨⟨.inl rfl, rfl⟩, trivial⟩) ?_
      refine WpL.step (WpW.block ((loopF M 5 (bs [40, 49, 41, 47, 114, 54, 48]) (by decide)).mono ?_))
      rintro x T S ⟨rfl, h⟩
      exact fin 5 (bs [40, 49, 41, 47, 114, 54, 48]) (by omega) T S h
  · rw [decide_eq_false (show ¬ (e : Int) < 6 by omega)] at hR
    exact WpL.seeX (l := [qE 0, qE 1]) (sg1 M) (orS_ok M) (show (Sg1 M).length ≤ 3 from Nat.le_refl _) (show (Sg1 M).length ≤ 3 from Nat.le_refl _) (by simp) hR _ _ (kept3 (r2 := [.bool false, .slice (some ⟨3, 0, none⟩) 6 6, .int .i64 (6), .int .i64 ((e : Int))]) (S2 := [strC cLE]) (by decide) rfl (by decide) rfl ⟨⟨.inl rfl, rfl⟩, trivial⟩) ⟨rfl, _, rfl, rfl⟩
theorem wSm (M : Int) : WpW Tryz.prog (Sg1 M) 3 3 (bodyOf Tryz.prog 7) (tmps0Of Tryz.prog 7 []) (Sg1 M) fun x T' U => (match x with | .exit _ => False | _ => True) ∧ (∃ N, U = Sg1 M ++ N) ∧ outOf Tryz.prog 7 T' U = some (.bool true) := by
  rw [tmpsSm]
  refine WpW.of_pieces ?_
  rw [show flatC (bodyOf Tryz.prog 7) = _ from LSm_eq]
  refine WpL.seeF (l := [qSm 0, qSm 1, qSm 2]) (q := [_, _, _, _, _, _, _, _, _, _]) (sg1 M) (orS_ok M) (show (Sg1 M).length ≤ 3 from Nat.le_refl _) (show (Sg1 M).length ≤ 3 from Nat.le_refl _) (by simp) (hd1 M) _ _ (kept3 (r2 := [.bool false, .slice (some ⟨3, 0, none⟩) 6 6, .int .i64 (0)]) (S2 := [someB]) (by decide) rfl (by decide) rfl ⟨⟨.inl rfl, rfl⟩, trivial⟩) ?_
  refine WpL.step (WpW.block ((loopOne M).mono ?_))
  rintro x T S ⟨rfl, n, rfl, rfl⟩
  show WpL Tryz.prog (Sg1 M) 3 3 [qSm 4, qSm 5, .block 4 (.loop (BSm 2)), qSm 7, .block 12 (.loop (BSm 6)), qSm 9, .block 14 (.loop (BSm 7)), qSm 11, qSm 12] _ _ _
  refine WpL.seeF (l := [qSm 4, qSm 5]) (q := [_, _, _, _, _, _, _]) (sg1 M) (orS_ok M) (show (Sg1 M).length ≤ 3 from Nat.le_refl _) (show (Sg1 M).length ≤ 3 from Nat.le_refl _) (by simp) (hd2 M n) [.bool false, .slice (some ⟨3, 0, none⟩) 15 15, .int .i64 (15), .int .i64 (0)] [uni, pow, mxl M, intB cLA] (kept3 (r2 := [.bool false, .slice (some ⟨3, 0, none⟩) 15 15, .int .i64 (15), .int .i64 (0)]) (S2 := [intB cLA]) (by decide) rfl (by decide) rfl ⟨⟨.inr (.inr ⟨_, _, rfl, rfl, rfl⟩), rfl⟩, trivial⟩) ?_
  refine WpL.step (WpW.block ((loopA M).mono ?_))
  rintro x T S ⟨rfl, a, rfl, rfl⟩
  show WpL Tryz.prog (Sg1 M) 3 3 [qSm 7, .block 12 (.loop (BSm 6)), qSm 9, .block 14 (.loop (BSm 7)), qSm 11, qSm 12] _ _ _
  refine WpL.seeF (l := [qSm 7]) (q := [_, _, _, _, _]) (sg1 M) (orS_ok M) (show (Sg1 M).length ≤ 3 from Nat.le_refl _) (show (Sg1 M).length ≤ 3 from Nat.le_refl _) (by simp) (hd3 M a) [.bool false, .slice (some ⟨3, 0, none⟩) 12 12, .int .i64 (12), .int .i64 (0)] [uni, pow, mxl M, intB cLC] (kept3 (r2 := [.bool false, .slice (some ⟨3, 0, none⟩) 12 12, .int .i64 (12), .int .i64 (0)]) (S2 := [intB cLC]) (by decide) rfl (by decide) rfl ⟨⟨.inr (.inr ⟨_, _, rfl, rfl, rfl⟩), rfl⟩, trivial⟩) ?_
  refine WpL.step (WpW.block ((loopC M).mono ?_))
  rintro x T S ⟨rfl, c, rfl, rfl⟩
  show WpL Tryz.prog (Sg1 M) 3 3 [qSm 9, .block 14 (.loop (BSm 7)), qSm 11, qSm 12] _ _ _
  refine WpL.seeF (l := [qSm 9]) (q := [_, _, _]) (sg1 M) (orS_ok M) (show (Sg1 M).length ≤ 3 from Nat.le_refl _) (show (Sg1 M).length ≤ 3 from Nat.le_refl _) (by simp) (hd4 M c) [.bool false, .slice (some ⟨3, 0, none⟩) 6 6, .int .i64 (6), .int .i64 (0)] [uni, pow, mxl M, strC cLE] (kept3 (r2 := [.bool false, .slice (some ⟨3, 0, none⟩) 6 6, .int .i64 (6), .int .i64 (0)]) (S2 := [strC cLE]) (by decide) rfl (by decide) rfl ⟨⟨.inl rfl, rfl⟩, trivial⟩) ?_
  refine WpL.step (WpW.block ((loopE M).mono ?_))
  rintro x T S ⟨rfl, e, rfl, rfl⟩
  show WpL Tryz.prog (Sg1 M) 3 3 [qSm 11, qSm 12] _ _ _
  refine WpL.mono (WpL.of_k (sg1 M) (orS_ok M) (Nat.le_refl _) _ _ _ _ (tlSm M e)) ?_
  intro y T' U hk
  obtain ⟨h1, rfl, h2⟩ := outs_eq hk
  cases y with
  | normal => exact ⟨h1, ⟨_, rfl⟩, h2⟩
  | ret => exact ⟨h1, ⟨_, rfl⟩, h2⟩
  | exit id => exact h1.elim
end Go.Proofs.YtihccnfaibiiiaaGreatDoor.R
