/- Ring: the text of a number's terms. -/
import Derived.Test.YtihccnfaibiiiaaDoorB2
namespace Go.Proofs.YtihccnfaibiiiaaDoor.R
open Go Go.Proofs.XX.Vm Go.Proofs.XX.Rm Go.RowKit
set_option maxRecDepth 100000

def accA (x : N) : Nat → List UInt8
  | 0 => []
  | 1 => addT [] x.a []
  | 2 => addT (addT [] x.a []) x.b [119]
  | 3 => addT (addT (addT [] x.a []) x.b [119]) x.c [119, 50]
  | _ => printA x
theorem accA_len (x : N) (hx : x.In 9223372036854775807) : ∀ k, (accA x k).length < 200 := by
  have a1 := addT_len [] x.a (by have := hx.a1; omega) hx.a2 [] (by decide)
  have a2 := addT_len (addT [] x.a []) x.b (by have := hx.b1; omega) hx.b2 [119] (by decide)
  have a3 := addT_len (addT (addT [] x.a []) x.b [119]) x.c (by have := hx.c1; omega) hx.c2 [119, 50] (by decide)
  have a4 := addT_len (addT (addT (addT [] x.a []) x.b [119]) x.c [119, 50]) x.d (by have := hx.d1; omega) hx.d2 [119, 51] (by decide)
  intro k
  match k with
  | 0 => simp [accA]
  | 1 => simp only [accA]; simp only [List.length_nil] at a1; omega
  | 2 => simp only [accA]; simp only [List.length_nil] at a1; omega
  | 3 => simp only [accA]; simp only [List.length_nil] at a1; omega
  | n + 4 => simp only [accA, printA]; simp only [List.length_nil] at a1; omega
theorem addT_zero (l : List UInt8) (n : Int) (u : List UInt8) (h : (n == 0) = true) : addT l n u = l := by unfold addT; rw [h]; rfl
theorem addT_plus (l : List UInt8) (n : Int) (u : List UInt8) (h : (n == 0) = false) (h1 : decide (0 < n) = true) (h2 : decide (0 < l.length) = true) : addT l n u = l ++ [43] ++ termL n u := by unfold addT; rw [h, h1, h2]; rfl
theorem addT_bare (l : List UInt8) (n : Int) (u : List UInt8) (h : (n == 0) = false) (h1 : (decide (0 < n) && decide (0 < l.length)) = false) : addT l n u = l ++ termL n u := by unfold addT; rw [h, h1]; rfl
theorem fresh_bld (w : World) (o : Obj) : Bld w [] ((w.alloc o).alloc (.cells #[.pointer none, .slice none 0 0] 109)) := by
  have h := Lib.fresh_isBuilder 109 5 (w.alloc o)
  have hs : (w.alloc o).heap.size = w.heap.size + 1 := by simp
  rw [hs] at h
  refine ⟨?_, ((Below.refl _ w).alloc (Nat.le_refl _) _).alloc (by simp) _⟩
  rcases h with ⟨h1, h2⟩ | ⟨h1, h2⟩
  · obtain ⟨v, h3, h4, h5⟩ := h2
    exact .inl ⟨by omega, v, h3, ⟨h4.1, h4.2.imp id (fun ⟨g, cap, cur, e1, e2, e3⟩ => ⟨g, cap, cur, e1, by omega, e3⟩)⟩, h5⟩
  · obtain ⟨v, h3, h4, h5⟩ := h2
    exact .inr ⟨by omega, v, h3, ⟨h4.1, h4.2.imp id (fun ⟨g, cap, cur, e1, e2, e3⟩ => ⟨g, cap, cur, e1, by omega, e3⟩)⟩, h5⟩

set_option maxHeartbeats 8000000 in
theorem print60 (M : Int) (x : N) (hx : x.In 9223372036854775807) (w : World) (inv : Inv (Sg1 M) (baseRen (Sg1 M).length) (Sg1 M) w) :
    Calls Tryd.prog 60 #[.agg #[.int .i64 x.a, .int .i64 x.b, .int .i64 x.c, .int .i64 x.d]] w fun e w' => e = .returned (str (printC x)) ∧ Below w.heap.size w w' := by
  have hz : 2 < w.heap.size := inv.ok.good.low 2 2 (by unfold baseRen; rw [if_pos (by simp)])
  have hix0 : ∀ W, (Instr.index 65 (.agg #[.int .i64 x.a, .int .i64 x.b, .int .i64 x.c, .int .i64 x.d]) (.int .i64 0)).run Tryd.prog W = .ok (.int .i64 x.a) W := fun W => pureSem_run (by kernel_rfl) W
  have hix1 : ∀ W, (Instr.index 65 (.agg #[.int .i64 x.a, .int .i64 x.b, .int .i64 x.c, .int .i64 x.d]) (.int .i64 1)).run Tryd.prog W = .ok (.int .i64 x.b) W := fun W => pureSem_run (by kernel_rfl) W
  have hix2 : ∀ W, (Instr.index 65 (.agg #[.int .i64 x.a, .int .i64 x.b, .int .i64 x.c, .int .i64 x.d]) (.int .i64 2)).run Tryd.prog W = .ok (.int .i64 x.c) W := fun W => pureSem_run (by kernel_rfl) W
  have hix3 : ∀ W, (Instr.index 65 (.agg #[.int .i64 x.a, .int .i64 x.b, .int .i64 x.c, .int .i64 x.d]) (.int .i64 3)).run Tryd.prog W = .ok (.int .i64 x.d) W := fun W => pureSem_run (by kernel_rfl) W
  go_enter Tryd.func60, Tryd.ntmps60
  go_wp2
  go_loopw [7] (fun i wr => ∃ k : Nat, k ≤ 4 ∧ i = .int .i64 k ∧ Bld w (accA x k) wr) (fun i _ => 4 - (intOf i).toNat)
  case atStart => exact ⟨0, by omega, rfl, fresh_bld w _⟩
  case round =>
    obtain ⟨k, hk, rfl, hB⟩ := hrel
    have hL := accA_len x hx k
    have hlt := hB.lt
    have hcu := fun wr (hb : Below w.heap.size w wr) => cellUnit (inv_below inv hb)
    have hk5 : k = 0 ∨ k = 1 ∨ k = 2 ∨ k = 3 ∨ k = 4 := by omega
    rcases hk5 with rfl | rfl | rfl | rfl | rfl
    · have hr : -9223372036854775807 ≤ x.a ∧ x.a ≤ 9223372036854775807 := ⟨by have := hx.a1; omega, hx.a2⟩
      have htl := termL_len x.a (by omega) hr.2 [] (by decide)
      by_cases h0 : x.a = 0
      · have h0' : (x.a == 0) = true := by simpa using h0
        have hn : accA x 1 = accA x 0 := addT_zero _ _ _ h0'
        clear h0 hcu htl hr
        have HB : Bld w (accA x 1) wr := by rw [hn]; exact hB
        clear hB hn
        go_wp2
        go_roundw
        case rel => exact ⟨1, by omega, rfl, HB⟩
        case measure => simp [intOf]
      · have h0' : (x.a == 0) = false := by simpa using h0
        clear h0
        by_cases hp : 0 < x.a
        · by_cases hq : 0 < (accA x 0).length
          · have HN := Lib.hid (addT_plus (accA x 0) x.a [] h0' (by simpa using hp) (by simpa using hq))
            go_wp2_with (go_at_call 91; refine (wlen hB).mono ?_; rintro e w1 ⟨rfl, rfl⟩)
            refine (wbyte hB (by omega)).mono ?_
            rintro e w1 ⟨rfl, h1⟩
            have hl1 : ((accA x 0) ++ [43]).length < 300 := by simp; omega
            have hcell := (hcu w1 h1.2).1
            go_wp2_with (go_at_call 94; refine (wterm inv h1 x.a hr.1 hr.2 [] (by simp)).mono ?_; rintro e w2 ⟨rfl, h2⟩)
            go_wp2_with (go_at_call 93; refine (wstr h2 (by omega) (by omega)).mono ?_; rintro e w3 ⟨rfl, h3⟩)
            have HB : Bld w (accA x 1) w3 := by rw [show accA x 1 = _ from HN.out]; exact h3
            clear h2 h3
            go_wp2
            go_roundw
            case rel => exact ⟨1, by omega, rfl, HB⟩
            case measure => simp [intOf]
          · have HN := Lib.hid (addT_bare (accA x 0) x.a [] h0' (by rw [decide_eq_false hq, Bool.and_false]))
            have hq' : ¬ (0 : Int) < ((accA x 0).length : Int) := by omega
            have hcell := (hcu wr hB.2).1
            go_wp2_with (go_at_call 91; refine (wlen hB).mono ?_; rintro e w1 ⟨rfl, rfl⟩)
            go_wp2_with (go_at_call 94; refine (wterm inv hB x.a hr.1 hr.2 [] (by simp)).mono ?_; rintro e w2 ⟨rfl, h2⟩)
            go_wp2_with (go_at_call 93; refine (wstr h2 (by omega) (by omega)).mono ?_; rintro e w3 ⟨rfl, h3⟩)
            have HB : Bld w (accA x 1) w3 := by rw [show accA x 1 = _ from HN.out]; exact h3
            clear h2 h3
            go_wp2
            go_roundw
            case rel => exact ⟨1, by omega, rfl, HB⟩
            case measure => simp [intOf]
        · have HN := Lib.hid (addT_bare (accA x 0) x.a [] h0' (by rw [decide_eq_false hp, Bool.false_and]))
          have hcell := (hcu wr hB.2).1
          go_wp2_with (go_at_call 94; refine (wterm inv hB x.a hr.1 hr.2 [] (by simp)).mono ?_; rintro e w2 ⟨rfl, h2⟩)
          go_wp2_with (go_at_call 93; refine (wstr h2 (by omega) (by omega)).mono ?_; rintro e w3 ⟨rfl, h3⟩)
          have HB : Bld w (accA x 1) w3 := by rw [show accA x 1 = _ from HN.out]; exact h3
          clear h2 h3
          go_wp2
          go_roundw
          case rel => exact ⟨1, by omega, rfl, HB⟩
          case measure => simp [intOf]
    · have hr : -9223372036854775807 ≤ x.b ∧ x.b ≤ 9223372036854775807 := ⟨by have := hx.b1; omega, hx.b2⟩
      have htl := termL_len x.b (by omega) hr.2 [119] (by decide)
      by_cases h0 : x.b = 0
      · have h0' : (x.b == 0) = true := by simpa using h0
        have hn : accA x 2 = accA x 1 := addT_zero _ _ _ h0'
        clear h0 hcu htl hr
        have HB : Bld w (accA x 2) wr := by rw [hn]; exact hB
        clear hB hn
        go_wp2
        go_roundw
        case rel => exact ⟨2, by omega, rfl, HB⟩
        case measure => simp [intOf]
      · have h0' : (x.b == 0) = false := by simpa using h0
        clear h0
        by_cases hp : 0 < x.b
        · by_cases hq : 0 < (accA x 1).length
          · have HN := Lib.hid (addT_plus (accA x 1) x.b [119] h0' (by simpa using hp) (by simpa using hq))
            go_wp2_with (go_at_call 91; refine (wlen hB).mono ?_; rintro e w1 ⟨rfl, rfl⟩)
            refine (wbyte hB (by omega)).mono ?_
            rintro e w1 ⟨rfl, h1⟩
            have hl1 : ((accA x 1) ++ [43]).length < 300 := by simp; omega
            have hcell := (hcu w1 h1.2).2.1
            go_wp2_with (go_at_call 94; refine (wterm inv h1 x.b hr.1 hr.2 [119] (by simp)).mono ?_; rintro e w2 ⟨rfl, h2⟩)
            go_wp2_with (go_at_call 93; refine (wstr h2 (by omega) (by omega)).mono ?_; rintro e w3 ⟨rfl, h3⟩)
            have HB : Bld w (accA x 2) w3 := by rw [show accA x 2 = _ from HN.out]; exact h3
            clear h2 h3
            go_wp2
            go_roundw
            case rel => exact ⟨2, by omega, rfl, HB⟩
            case measure => simp [intOf]
          · have HN := Lib.hid (addT_bare (accA x 1) x.b [119] h0' (by rw [decide_eq_false hq, Bool.and_false]))
            have hq' : ¬ (0 : Int) < ((accA x 1).length : Int) := by omega
            have hcell := (hcu wr hB.2).2.1
            go_wp2_with (go_at_call 91; refine (wlen hB).mono ?_; rintro e w1 ⟨rfl, rfl⟩)
            go_wp2_with (go_at_call 94; refine (wterm inv hB x.b hr.1 hr.2 [119] (by simp)).mono ?_; rintro e w2 ⟨rfl, h2⟩)
            go_wp2_with (go_at_call 93; refine (wstr h2 (by omega) (by omega)).mono ?_; rintro e w3 ⟨rfl, h3⟩)
            have HB : Bld w (accA x 2) w3 := by rw [show accA x 2 = _ from HN.out]; exact h3
            clear h2 h3
            go_wp2
            go_roundw
            case rel => exact ⟨2, by omega, rfl, HB⟩
            case measure => simp [intOf]
        · have HN := Lib.hid (addT_bare (accA x 1) x.b [119] h0' (by rw [decide_eq_false hp, Bool.false_and]))
          have hcell := (hcu wr hB.2).2.1
          go_wp2_with (go_at_call 94; refine (wterm inv hB x.b hr.1 hr.2 [119] (by simp)).mono ?_; rintro e w2 ⟨rfl, h2⟩)
          go_wp2_with (go_at_call 93; refine (wstr h2 (by omega) (by omega)).mono ?_; rintro e w3 ⟨rfl, h3⟩)
          have HB : Bld w (accA x 2) w3 := by rw [show accA x 2 = _ from HN.out]; exact h3
          clear h2 h3
          go_wp2
          go_roundw
          case rel => exact ⟨2, by omega, rfl, HB⟩
          case measure => simp [intOf]
    · have hr : -9223372036854775807 ≤ x.c ∧ x.c ≤ 9223372036854775807 := ⟨by have := hx.c1; omega, hx.c2⟩
      have htl := termL_len x.c (by omega) hr.2 [119, 50] (by decide)
      by_cases h0 : x.c = 0
      · have h0' : (x.c == 0) = true := by simpa using h0
        have hn : accA x 3 = accA x 2 := addT_zero _ _ _ h0'
        clear h0 hcu htl hr
        have HB : Bld w (accA x 3) wr := by rw [hn]; exact hB
        clear hB hn
        go_wp2
        go_roundw
        case rel => exact ⟨3, by omega, rfl, HB⟩
        case measure => simp [intOf]
      · have h0' : (x.c == 0) = false := by simpa using h0
        clear h0
        by_cases hp : 0 < x.c
        · by_cases hq : 0 < (accA x 2).length
          · have HN := Lib.hid (addT_plus (accA x 2) x.c [119, 50] h0' (by simpa using hp) (by simpa using hq))
            go_wp2_with (go_at_call 91; refine (wlen hB).mono ?_; rintro e w1 ⟨rfl, rfl⟩)
            refine (wbyte hB (by omega)).mono ?_
            rintro e w1 ⟨rfl, h1⟩
            have hl1 : ((accA x 2) ++ [43]).length < 300 := by simp; omega
            have hcell := (hcu w1 h1.2).2.2.1
            go_wp2_with (go_at_call 94; refine (wterm inv h1 x.c hr.1 hr.2 [119, 50] (by simp)).mono ?_; rintro e w2 ⟨rfl, h2⟩)
            go_wp2_with (go_at_call 93; refine (wstr h2 (by omega) (by omega)).mono ?_; rintro e w3 ⟨rfl, h3⟩)
            have HB : Bld w (accA x 3) w3 := by rw [show accA x 3 = _ from HN.out]; exact h3
            clear h2 h3
            go_wp2
            go_roundw
            case rel => exact ⟨3, by omega, rfl, HB⟩
            case measure => simp [intOf]
          · have HN := Lib.hid (addT_bare (accA x 2) x.c [119, 50] h0' (by rw [decide_eq_false hq, Bool.and_false]))
            have hq' : ¬ (0 : Int) < ((accA x 2).length : Int) := by omega
            have hcell := (hcu wr hB.2).2.2.1
            go_wp2_with (go_at_call 91; refine (wlen hB).mono ?_; rintro e w1 ⟨rfl, rfl⟩)
            go_wp2_with (go_at_call 94; refine (wterm inv hB x.c hr.1 hr.2 [119, 50] (by simp)).mono ?_; rintro e w2 ⟨rfl, h2⟩)
            go_wp2_with (go_at_call 93; refine (wstr h2 (by omega) (by omega)).mono ?_; rintro e w3 ⟨rfl, h3⟩)
            have HB : Bld w (accA x 3) w3 := by rw [show accA x 3 = _ from HN.out]; exact h3
            clear h2 h3
            go_wp2
            go_roundw
            case rel => exact ⟨3, by omega, rfl, HB⟩
            case measure => simp [intOf]
        · have HN := Lib.hid (addT_bare (accA x 2) x.c [119, 50] h0' (by rw [decide_eq_false hp, Bool.false_and]))
          have hcell := (hcu wr hB.2).2.2.1
          go_wp2_with (go_at_call 94; refine (wterm inv hB x.c hr.1 hr.2 [119, 50] (by simp)).mono ?_; rintro e w2 ⟨rfl, h2⟩)
          go_wp2_with (go_at_call 93; refine (wstr h2 (by omega) (by omega)).mono ?_; rintro e w3 ⟨rfl, h3⟩)
          have HB : Bld w (accA x 3) w3 := by rw [show accA x 3 = _ from HN.out]; exact h3
          clear h2 h3
          go_wp2
          go_roundw
          case rel => exact ⟨3, by omega, rfl, HB⟩
          case measure => simp [intOf]
    · have hr : -9223372036854775807 ≤ x.d ∧ x.d ≤ 9223372036854775807 := ⟨by have := hx.d1; omega, hx.d2⟩
      have htl := termL_len x.d (by omega) hr.2 [119, 51] (by decide)
      by_cases h0 : x.d = 0
      · have h0' : (x.d == 0) = true := by simpa using h0
        have hn : accA x 4 = accA x 3 := addT_zero _ _ _ h0'
        clear h0 hcu htl hr
        have HB : Bld w (accA x 4) wr := by rw [hn]; exact hB
        clear hB hn
        go_wp2
        go_roundw
        case rel => exact ⟨4, by omega, rfl, HB⟩
        case measure => simp [intOf]
      · have h0' : (x.d == 0) = false := by simpa using h0
        clear h0
        by_cases hp : 0 < x.d
        · by_cases hq : 0 < (accA x 3).length
          · have HN := Lib.hid (addT_plus (accA x 3) x.d [119, 51] h0' (by simpa using hp) (by simpa using hq))
            go_wp2_with (go_at_call 91; refine (wlen hB).mono ?_; rintro e w1 ⟨rfl, rfl⟩)
            refine (wbyte hB (by omega)).mono ?_
            rintro e w1 ⟨rfl, h1⟩
            have hl1 : ((accA x 3) ++ [43]).length < 300 := by simp; omega
            have hcell := (hcu w1 h1.2).2.2.2
            go_wp2_with (go_at_call 94; refine (wterm inv h1 x.d hr.1 hr.2 [119, 51] (by simp)).mono ?_; rintro e w2 ⟨rfl, h2⟩)
            go_wp2_with (go_at_call 93; refine (wstr h2 (by omega) (by omega)).mono ?_; rintro e w3 ⟨rfl, h3⟩)
            have HB : Bld w (accA x 4) w3 := by rw [show accA x 4 = _ from HN.out]; exact h3
            clear h2 h3
            go_wp2
            go_roundw
            case rel => exact ⟨4, by omega, rfl, HB⟩
            case measure => simp [intOf]
          · have HN := Lib.hid (addT_bare (accA x 3) x.d [119, 51] h0' (by rw [decide_eq_false hq, Bool.and_false]))
            have hq' : ¬ (0 : Int) < ((accA x 3).length : Int) := by omega
            have hcell := (hcu wr hB.2).2.2.2
            go_wp2_with (go_at_call 91; refine (wlen hB).mono ?_; rintro e w1 ⟨rfl, rfl⟩)
            go_wp2_with (go_at_call 94; refine (wterm inv hB x.d hr.1 hr.2 [119, 51] (by simp)).mono ?_; rintro e w2 ⟨rfl, h2⟩)
            go_wp2_with (go_at_call 93; refine (wstr h2 (by omega) (by omega)).mono ?_; rintro e w3 ⟨rfl, h3⟩)
            have HB : Bld w (accA x 4) w3 := by rw [show accA x 4 = _ from HN.out]; exact h3
            clear h2 h3
            go_wp2
            go_roundw
            case rel => exact ⟨4, by omega, rfl, HB⟩
            case measure => simp [intOf]
        · have HN := Lib.hid (addT_bare (accA x 3) x.d [119, 51] h0' (by rw [decide_eq_false hp, Bool.false_and]))
          have hcell := (hcu wr hB.2).2.2.2
          go_wp2_with (go_at_call 94; refine (wterm inv hB x.d hr.1 hr.2 [119, 51] (by simp)).mono ?_; rintro e w2 ⟨rfl, h2⟩)
          go_wp2_with (go_at_call 93; refine (wstr h2 (by omega) (by omega)).mono ?_; rintro e w3 ⟨rfl, h3⟩)
          have HB : Bld w (accA x 4) w3 := by rw [show accA x 4 = _ from HN.out]; exact h3
          clear h2 h3
          go_wp2
          go_roundw
          case rel => exact ⟨4, by omega, rfl, HB⟩
          case measure => simp [intOf]
    · have HB : Bld w (printA x) wr := hB
      have hb1 := hB.2
      clear hB hL
      by_cases hq : (printA x).length = 0
      · have hq' : ((printA x).length == 0) = true := by simpa using hq
        have hq2 : (((printA x).length : Int) == 0) = true := by simpa using hq
        have HC := Lib.hid (show printC x = [48] by unfold printC; rw [hq']; rfl)
        clear hq hq'
        go_wp2_with (go_at_call 91; refine (wlen HB).mono ?_; rintro e w1 ⟨rfl, rfl⟩)
        go_ret
        exact ⟨by rw [show printC x = _ from HC.out]; rfl, hb1⟩
      · have hq' : ((printA x).length == 0) = false := by simpa using hq
        have hq2 : (((printA x).length : Int) == 0) = false := by simp; simpa using hq
        have HC := Lib.hid (show printC x = printA x by unfold printC; rw [hq']; rfl)
        clear hq hq'
        go_wp2_with (first | (go_at_call 91; refine (wlen HB).mono ?_; rintro e w1 ⟨rfl, rfl⟩) | (go_at_call 95; refine (wend HB).mono ?_; rintro e w1 ⟨rfl, h1⟩))
        go_ret
        exact ⟨by rw [show printC x = _ from HC.out]; rfl, h1⟩
end Go.Proofs.YtihccnfaibiiiaaDoor.R
