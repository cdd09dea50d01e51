/- Ring: texts of numbers, U1, U2 in one. -/
import Derived.Test.YtihccnfaibiiiaaGreatDoorK05
import Derived.Test.YtihccnfaibiiiaaGreatDoorK06
namespace Go.Proofs.YtihccnfaibiiiaaGreatDoor.R
open Go Go.Proofs.XX.Vm Go.Proofs.XX.Rm Go.RowKit
set_option maxRecDepth 100000

/- Ring: mathematics of texts of numbers: what two readers make of what is printed. -/
/-- Digits at the beginning: their number, which is at most cap, and what is behind them. -/
def dgB (b : UInt8) : Bool := Nat.ble 48 b.toNat && Nat.ble b.toNat 57
def digN (cap : Int) : Int → List UInt8 → Int
  | n, [] => n
  | n, b :: l => bif dgB b then digN cap (mn (10 * n + ((b.toNat : Int) - 48)) cap) l else n
def digR : List UInt8 → List UInt8
  | [] => []
  | b :: l => bif dgB b then digR l else b :: l
def AllD (l : List UInt8) : Prop := ∀ b ∈ l, dgB b = true
theorem digR_app : ∀ (l m : List UInt8), AllD l → digR (l ++ m) = digR m
  | [], _, _ => rfl
  | b :: l, m, h => by
    simp only [List.cons_append, digR, h b (List.mem_cons_self ..), cond_true]
    exact digR_app l m fun c hc => h c (List.mem_cons_of_mem _ hc)
theorem digN_app (cap : Int) : ∀ (l m : List UInt8) (n : Int), AllD l → digN cap n (l ++ m) = digN cap (digN cap n l) m
  | [], _, _, _ => rfl
  | b :: l, m, n, h => by
    simp only [List.cons_append, digN, h b (List.mem_cons_self ..), cond_true]
    exact digN_app cap l m _ fun c hc => h c (List.mem_cons_of_mem _ hc)
theorem digR_le : ∀ l : List UInt8, (digR l).length ≤ l.length
  | [] => Nat.le_refl _
  | b :: l => by
    unfold digR
    cases dgB b
    · exact Nat.le_refl _
    · have := digR_le l; simp only [cond_true, List.length_cons]; omega
theorem digN_le (cap : Int) (hc : 0 ≤ cap) : ∀ (l : List UInt8) (n : Int), 0 ≤ n → n ≤ cap → 0 ≤ digN cap n l ∧ digN cap n l ≤ cap
  | [], n, h1, h2 => ⟨h1, h2⟩
  | b :: l, n, h1, h2 => by
    unfold digN
    cases hb : dgB b
    · exact ⟨h1, h2⟩
    · have : 48 ≤ b.toNat := by simp only [dgB, Bool.and_eq_true] at hb; exact Nat.le_of_ble_eq_true hb.1
      refine digN_le cap hc l _ ?_ ?_ <;> unfold mn <;> split <;> omega
theorem dgB_digit {m : Nat} (h : m < 10) : dgB (UInt8.ofNat (48 + m)) = true ∧ (UInt8.ofNat (48 + m)).toNat = 48 + m := by
  have e : (UInt8.ofNat (48 + m)).toNat = 48 + m := by simp; omega
  refine ⟨?_, e⟩
  unfold dgB
  rw [e, Nat.ble_eq_true_of_le (by omega), Nat.ble_eq_true_of_le (by omega)]; rfl
theorem dec_all (u : Nat) : AllD (Lib.decDigits u) := by
  induction u using Nat.strongRecOn with
  | _ u ih =>
    rw [Lib.decDigits]
    split
    · rename_i h
      intro b hb
      rw [List.mem_singleton.1 hb]
      exact (dgB_digit h).1
    · intro b hb
      rcases List.mem_append.1 hb with hb | hb
      · exact ih (u / 10) (by omega) b hb
      · rw [List.mem_singleton.1 hb]
        exact (dgB_digit (by omega)).1
theorem dec_N {cap : Int} (u : Nat) (h : (u : Int) ≤ cap) : digN cap 0 (Lib.decDigits u) = u := by
  induction u using Nat.strongRecOn with
  | _ u ih =>
    rw [Lib.decDigits]
    split
    · rename_i hu
      obtain ⟨h1, h2⟩ := dgB_digit hu
      simp only [digN, h1, cond_true, h2]
      unfold mn; split <;> omega
    · rw [digN_app _ _ _ _ (dec_all _), ih (u / 10) (by omega) (by omega)]
      obtain ⟨h1, h2⟩ := dgB_digit (show u % 10 < 10 by omega)
      simp only [digN, h1, cond_true, h2]
      unfold mn; split <;> omega
theorem dec_ne (u : Nat) : ∃ d ds, Lib.decDigits u = d :: ds ∧ dgB d = true := by
  cases h : Lib.decDigits u with
  | nil =>
    rw [Lib.decDigits] at h
    split at h <;> simp at h
  | cons d ds => exact ⟨d, ds, rfl, dec_all u d (by rw [h]; exact List.mem_cons_self ..)⟩
/-- What does not begin with a digit. -/
def NoD (l : List UInt8) : Prop := ∀ b m, l = b :: m → dgB b = false
theorem noD_R {l : List UInt8} (h : NoD l) : digR l = l := by
  cases l with
  | nil => rfl
  | cons b l => simp only [digR, h b l rfl, cond_false]
theorem noD_N {l : List UInt8} (h : NoD l) (cap n : Int) : digN cap n l = n := by
  cases l with
  | nil => rfl
  | cons b l => simp only [digN, h b l rfl, cond_false]
theorem num_R (u : Nat) {m : List UInt8} (h : NoD m) : digR (Lib.decDigits u ++ m) = m := by rw [digR_app _ _ (dec_all u), noD_R h]
theorem num_N {cap : Int} (u : Nat) (hu : (u : Int) ≤ cap) {m : List UInt8} (h : NoD m) : digN cap 0 (Lib.decDigits u ++ m) = u := by rw [digN_app _ _ _ _ (dec_all u), dec_N u hu, noD_N h]

/-- A term's sign, and what is behind it. -/
def sgn : List UInt8 → Int
  | b :: _ => bif b == 45 then -1 else 1
  | [] => 1
def aft : List UInt8 → List UInt8
  | b :: l => bif b == 45 then l else bif b == 43 then l else b :: l
  | [] => []
theorem aft_le (l : List UInt8) : (aft l).length ≤ l.length := by
  cases l with
  | nil => exact Nat.le_refl _
  | cons b l =>
    show (bif b == 45 then l else bif b == 43 then l else b :: l).length ≤ _
    cases b == 45 <;> cases b == 43 <;> simp only [cond_true, cond_false, List.length_cons] <;> omega
def uniI (r : List UInt8) : Nat := bif Lib.hasPrefix r [119, 51] then 3 else bif Lib.hasPrefix r [119, 50] then 2 else bif Lib.hasPrefix r [119] then 1 else 0
def uniR (r : List UInt8) : List UInt8 := bif Lib.hasPrefix r [119, 51] then r.drop 2 else bif Lib.hasPrefix r [119, 50] then r.drop 2 else bif Lib.hasPrefix r [119] then r.drop 1 else r
def wrt (l : List UInt8) : Bool := Nat.blt (digR l).length l.length
def mag (cap : Int) (l : List UInt8) : Int := bif wrt l then digN cap 0 l else 1
def rtI (s : List UInt8) : Nat := uniI (digR (aft s))
def rtP (cap : Int) (s : List UInt8) : Int := sgn s * mag cap (aft s)
def rtR (s : List UInt8) : List UInt8 := uniR (digR (aft s))
def rtOk (s : List UInt8) : Bool := wrt (aft s) || Nat.blt 0 (rtI s)

/-- What comes behind a term. -/
def okTail (R : List UInt8) : Prop := R = [] ∨ ∃ l, R = 43 :: l ∨ R = 45 :: l ∨ R = 41 :: l
def uniOf : Nat → List UInt8
  | 0 => []
  | 1 => [119]
  | 2 => [119, 50]
  | _ => [119, 51]
theorem uni_noD {i : Nat} {R : List UInt8} (h : okTail R) : NoD (uniOf i ++ R) := by
  intro b m e
  match i with
  | 0 =>
    rcases h with rfl | ⟨l, rfl | rfl | rfl⟩
    · cases e
    all_goals (cases e; rfl)
  | 1 => cases e; rfl
  | 2 => cases e; rfl
  | n + 3 => cases e; rfl
theorem uni_parts {i : Nat} (hi : i < 4) {R : List UInt8} (h : okTail R) : uniI (uniOf i ++ R) = i ∧ uniR (uniOf i ++ R) = R := by
  have hi : i = 0 ∨ i = 1 ∨ i = 2 ∨ i = 3 := by omega
  rcases hi with rfl | rfl | rfl | rfl <;> rcases h with rfl | ⟨l, rfl | rfl | rfl⟩ <;> exact ⟨rfl, rfl⟩
/-- A term: its sign, its digits, its power. -/
def sgT (st : Bool) (n : Int) : List UInt8 := bif decide (n < 0) then [45] else bif st then [43] else []
def mgT (i : Nat) (n : Int) : List UInt8 := bif Nat.blt 0 i && (n.natAbs == 1) then [] else Lib.decDigits n.natAbs
def pieceT (st : Bool) (i : Nat) (n : Int) : List UInt8 := sgT st n ++ (mgT i n ++ uniOf i)
theorem mg_head {i : Nat} (hi : i < 4) {n : Int} {R : List UInt8} : ∃ b l, mgT i n ++ uniOf i ++ R = b :: l ∧ (b == 45) = false ∧ (b == 43) = false ∧ (b == 40) = false ∧ (b == 41) = false := by
  unfold mgT
  cases h : Nat.blt 0 i && (n.natAbs == 1) with
  | true =>
    simp only [Bool.and_eq_true] at h
    have : 0 < i := Nat.le_of_ble_eq_true h.1
    have hi : i = 1 ∨ i = 2 ∨ i = 3 := by omega
    rcases hi with rfl | rfl | rfl
    all_goals exact ⟨_, _, rfl, rfl, rfl, rfl, rfl⟩
  | false =>
    obtain ⟨d, ds, hd, hg⟩ := dec_ne n.natAbs
    refine ⟨d, ds ++ uniOf i ++ R, by simp only [cond_false, hd, List.cons_append], ?_⟩
    simp only [dgB, Bool.and_eq_true] at hg
    have h1 := Nat.le_of_ble_eq_true hg.1
    refine ⟨?_, ?_, ?_, ?_⟩ <;> rw [beq_eq_false_iff_ne] <;> rintro rfl <;> exact absurd h1 (by decide)
theorem piece_aft (st : Bool) {i : Nat} (hi : i < 4) (n : Int) (R : List UInt8) : aft (pieceT st i n ++ R) = mgT i n ++ (uniOf i ++ R) ∧ sgn (pieceT st i n ++ R) = (bif decide (n < 0) then -1 else 1) := by
  obtain ⟨b, l, h1, h2, h3, _, _⟩ := mg_head hi (n := n) (R := R)
  rw [List.append_assoc] at h1
  unfold pieceT sgT
  cases decide (n < 0) with
  | true => simp [aft, sgn]
  | false =>
    cases st with
    | true => simp [aft, sgn]
    | false => simp only [cond_false, List.nil_append, List.append_assoc, h1, aft, sgn, h2, h3, and_self]
theorem mg_parts {cap : Int} {i : Nat} {n : Int} (hn : (n.natAbs : Int) ≤ cap) {m : List UInt8} (h : NoD m) : digR (mgT i n ++ m) = m ∧ mag cap (mgT i n ++ m) = n.natAbs ∧ wrt (mgT i n ++ m) = !(Nat.blt 0 i && (n.natAbs == 1)) := by
  unfold mgT
  cases hc : Nat.blt 0 i && (n.natAbs == 1) with
  | true =>
    simp only [Bool.and_eq_true, beq_iff_eq] at hc
    have hw : wrt m = false := by unfold wrt; rw [noD_R h, Bool.eq_false_iff]; intro e; have := Nat.le_of_ble_eq_true e; omega
    refine ⟨by simp only [cond_true, List.nil_append]; exact noD_R h, ?_, by simpa using hw⟩
    simp only [cond_true, List.nil_append, mag, hw, cond_false, hc.2]; rfl
  | false =>
    have hR := num_R n.natAbs h
    have hw : wrt (Lib.decDigits n.natAbs ++ m) = true := by
      unfold wrt
      rw [hR]
      obtain ⟨d, ds, hd, _⟩ := dec_ne n.natAbs
      rw [hd]
      exact Nat.ble_eq_true_of_le (by simp only [List.cons_append, List.length_cons, List.length_append]; omega)
    exact ⟨hR, by simp only [cond_false, mag, hw, cond_true]; exact num_N _ hn h, hw⟩
theorem piece_read {cap : Int} (st : Bool) {i : Nat} (hi : i < 4) {n : Int} (hn : (n.natAbs : Int) ≤ cap) {R : List UInt8} (hR : okTail R) :
    rtI (pieceT st i n ++ R) = i ∧ rtP cap (pieceT st i n ++ R) = n ∧ rtR (pieceT st i n ++ R) = R ∧ rtOk (pieceT st i n ++ R) = true := by
  obtain ⟨h1, h2⟩ := piece_aft st hi n R
  obtain ⟨h3, h4, h5⟩ := mg_parts hn (uni_noD (i := i) hR) (n := n)
  obtain ⟨h6, h7⟩ := uni_parts hi hR
  have hi' : rtI (pieceT st i n ++ R) = i := by unfold rtI; rw [h1, h3, h6]
  refine ⟨hi', ?_, by unfold rtR; rw [h1, h3, h7], ?_⟩
  · unfold rtP
    rw [h1, h2, h4]
    by_cases hz : n < 0
    · rw [decide_eq_true hz]; simp only [cond_true]; omega
    · rw [decide_eq_false hz]; simp only [cond_false]; omega
  · unfold rtOk
    rw [hi', h1, h5]
    cases Nat.blt 0 i <;> simp
/-- The terms of a number. -/
def setC (x : N) (i : Nat) (p : Int) : N := match i with
  | 0 => { x with a := p }
  | 1 => { x with b := p }
  | 2 => { x with c := p }
  | _ => { x with d := p }
def getC (x : N) (i : Nat) : Int := match i with
  | 0 => x.a
  | 1 => x.b
  | 2 => x.c
  | _ => x.d
def pz (st : Bool) (i : Nat) (n : Int) : List UInt8 := bif n == 0 then [] else pieceT st i n
def terms (x : N) : List UInt8 :=
  let p := pz false 0 x.a
  let q := pz (!p.isEmpty) 1 x.b
  let r := pz (!(p ++ q).isEmpty) 2 x.c
  p ++ (q ++ (r ++ pz (!(p ++ q ++ r).isEmpty) 3 x.d))
def termsC (x : N) : List UInt8 := bif x.zero then [48] else terms x
def numC (x : N) : List UInt8 := bif x.k == 0 then termsC x else [40] ++ termsC x ++ [41, 47, 114] ++ Lib.decDigits x.k.toNat
theorem pz_tail {i : Nat} {n : Int} {R : List UInt8} (h : okTail R) : okTail (pz true i n ++ R) := by
  unfold pz
  cases n == 0 with
  | true => exact h
  | false =>
    unfold pieceT sgT
    cases decide (n < 0) with
    | true => exact .inr ⟨_, .inr (.inl rfl)⟩
    | false => exact .inr ⟨_, .inl rfl⟩
theorem pz_ne {st : Bool} {i : Nat} (hi : i < 4) {n : Int} (h : n ≠ 0) : (pz st i n).isEmpty = false := by
  obtain ⟨b, l, h1, _⟩ := mg_head hi (n := n) (R := [])
  rw [List.append_nil] at h1
  unfold pz pieceT
  rw [show (n == 0) = false by simpa using h, h1]
  simp

/-- The program's reading of terms. -/
def rts (cap : Int) : Nat → N → List UInt8 → N × Bool
  | 0, c, _ => (c, true)
  | f + 1, c, s => bif s.isEmpty then (c, true) else bif !rtOk s || getC c (rtI s) != 0 then (O, false) else rts cap f (setC c (rtI s) (rtP cap s)) (rtR s)
/-- The specification's: up to a bracket. -/
def stopS : List UInt8 → Bool
  | [] => true
  | b :: _ => b == 41
def rps (cap : Int) : Nat → N → List UInt8 → Option (N × List UInt8)
  | 0, _, _ => none
  | f + 1, c, s => bif stopS s then some (c, s) else bif Nat.ble s.length (rtR s).length then none else rps cap f (setC c (rtI s) (rtP cap s)) (rtR s)
theorem uniR_le (r : List UInt8) : (uniR r).length ≤ r.length := by
  unfold uniR
  cases Lib.hasPrefix r [119, 51] <;> cases Lib.hasPrefix r [119, 50] <;> cases Lib.hasPrefix r [119] <;> simp
theorem rtR_le (s : List UInt8) : (rtR s).length ≤ s.length := by
  have := uniR_le (digR (aft s)); have := digR_le (aft s); have := aft_le s
  unfold rtR; omega
theorem piece_cons (st : Bool) {i : Nat} (hi : i < 4) (n : Int) (R : List UInt8) : ∃ b l, pieceT st i n ++ R = b :: l ∧ (b == 40) = false ∧ (b == 41) = false := by
  obtain ⟨b, l, h1, _, _, h4, h5⟩ := mg_head hi (n := n) (R := R)
  rw [List.append_assoc] at h1
  unfold pieceT sgT
  cases decide (n < 0) with
  | true => exact ⟨45, _, rfl, rfl, rfl⟩
  | false =>
    cases st with
    | true => exact ⟨43, _, rfl, rfl, rfl⟩
    | false => exact ⟨b, l, by simp only [cond_false, List.nil_append, List.append_assoc]; exact h1, h4, h5⟩
theorem piece_len (st : Bool) {i : Nat} (hi : i < 4) (n : Int) (R : List UInt8) : R.length < (pieceT st i n ++ R).length := by
  obtain ⟨b, l, h1, _⟩ := mg_head hi (n := n) (R := [])
  rw [List.append_nil] at h1
  unfold pieceT
  rw [h1]
  simp only [List.length_append, List.length_cons]; omega
theorem setC_same {x : N} {i : Nat} {n : Int} (h : getC x i = n) : setC x i n = x := by
  subst h
  match i with
  | 0 => rfl
  | 1 => rfl
  | 2 => rfl
  | n + 3 => rfl
theorem rts_step {cap : Int} (st : Bool) {i : Nat} (hi : i < 4) {n : Int} (hn : (n.natAbs : Int) ≤ cap) {R : List UInt8} (hR : n ≠ 0 → okTail R) {c : N} (h0 : getC c i = 0) {f : Nat} (hf : (pz st i n ++ R).length < f) : ∃ f', R.length < f' ∧ rts cap f c (pz st i n ++ R) = rts cap f' (setC c i n) R := by
  unfold pz at hf ⊢
  cases hz : n == 0 with
  | true =>
    rw [hz] at hf
    exact ⟨f, hf, by rw [setC_same (by rw [h0]; exact (beq_iff_eq.1 hz).symm)]; rfl⟩
  | false =>
    rw [hz] at hf
    simp only [cond_false] at hf ⊢
    obtain ⟨h1, h2, h3, h4⟩ := piece_read st hi hn (hR (by simpa using hz))
    have hl := piece_len st hi n R
    obtain ⟨b, l, hb, _⟩ := piece_cons st hi n R
    cases f with
    | zero => omega
    | succ f =>
      refine ⟨f, by omega, ?_⟩
      rw [rts, h1, h2, h3, h4, h0]
      rw [hb]; rfl
theorem rps_step {cap : Int} (st : Bool) {i : Nat} (hi : i < 4) {n : Int} (hn : (n.natAbs : Int) ≤ cap) {R : List UInt8} (hR : n ≠ 0 → okTail R) {c : N} (h0 : getC c i = 0) {f : Nat} (hf : (pz st i n ++ R).length < f) : ∃ f', R.length < f' ∧ rps cap f c (pz st i n ++ R) = rps cap f' (setC c i n) R := by
  unfold pz at hf ⊢
  cases hz : n == 0 with
  | true =>
    rw [hz] at hf
    exact ⟨f, hf, by rw [setC_same (by rw [h0]; exact (beq_iff_eq.1 hz).symm)]; rfl⟩
  | false =>
    rw [hz] at hf
    simp only [cond_false] at hf ⊢
    obtain ⟨h1, h2, h3, h4⟩ := piece_read st hi hn (hR (by simpa using hz))
    have hl := piece_len st hi n R
    obtain ⟨b, l, hb, _, hb2⟩ := piece_cons st hi n R
    cases f with
    | zero => omega
    | succ f =>
      refine ⟨f, by omega, ?_⟩
      have hs : stopS (pieceT st i n ++ R) = false := by rw [hb]; exact hb2
      have hle : Nat.ble (pieceT st i n ++ R).length R.length = false := by rw [Bool.eq_false_iff]; intro e; have := Nat.le_of_ble_eq_true e; omega
      rw [rps, h1, h2, h3, hs, hle]; rfl
theorem isE_l {p q : List UInt8} (h : p.isEmpty = false) : (p ++ q).isEmpty = false := by cases p with
  | nil => cases h
  | cons a l => rfl
theorem isE_r {p q : List UInt8} (h : q.isEmpty = false) : (p ++ q).isEmpty = false := by cases p with
  | nil => exact h
  | cons a l => rfl
theorem terms_tails (x : N) (R : List UInt8) (hR : okTail R) :
    let p := pz false 0 x.a
    let q := pz (!p.isEmpty) 1 x.b
    let r := pz (!(p ++ q).isEmpty) 2 x.c
    let t := pz (!(p ++ q ++ r).isEmpty) 3 x.d
    (x.a ≠ 0 → okTail (q ++ (r ++ (t ++ R)))) ∧ (x.b ≠ 0 → okTail (r ++ (t ++ R))) ∧ (x.c ≠ 0 → okTail (t ++ R)) := by
  intro p q r t
  refine ⟨fun h => ?_, fun h => ?_, fun h => ?_⟩
  · have e : p.isEmpty = false := pz_ne (by omega) h
    have e1 : (p ++ q).isEmpty = false := isE_l e
    have e2 : (p ++ q ++ r).isEmpty = false := isE_l e1
    show okTail (pz (!p.isEmpty) 1 x.b ++ (pz (!(p ++ q).isEmpty) 2 x.c ++ (pz (!(p ++ q ++ r).isEmpty) 3 x.d ++ R)))
    rw [e, e1, e2]
    exact pz_tail (pz_tail (pz_tail hR))
  · have e : q.isEmpty = false := pz_ne (by omega) h
    have e1 : (p ++ q).isEmpty = false := isE_r e
    have e2 : (p ++ q ++ r).isEmpty = false := isE_l e1
    show okTail (pz (!(p ++ q).isEmpty) 2 x.c ++ (pz (!(p ++ q ++ r).isEmpty) 3 x.d ++ R))
    rw [e1, e2]
    exact pz_tail (pz_tail hR)
  · have e : r.isEmpty = false := pz_ne (by omega) h
    have e2 : (p ++ q ++ r).isEmpty = false := isE_r e
    show okTail (pz (!(p ++ q ++ r).isEmpty) 3 x.d ++ R)
    rw [e2]
    exact pz_tail hR
def big (cap : Int) (x : N) : Prop := (x.a.natAbs : Int) ≤ cap ∧ (x.b.natAbs : Int) ≤ cap ∧ (x.c.natAbs : Int) ≤ cap ∧ (x.d.natAbs : Int) ≤ cap
theorem rts_terms {cap : Int} {x : N} (hx : big cap x) (k : Int) {f : Nat} (hf : (terms x).length < f) : rts cap f ⟨0, 0, 0, 0, k⟩ (terms x) = ({ x with k := k }, true) := by
  obtain ⟨t1, t2, t3⟩ := terms_tails x [] (.inl rfl)
  unfold terms at hf ⊢
  simp only at hf ⊢ t1 t2 t3
  generalize hp : (!(pz false 0 x.a).isEmpty) = s1 at *
  generalize hq : (!(pz false 0 x.a ++ pz s1 1 x.b).isEmpty) = s2 at *
  generalize hr : (!(pz false 0 x.a ++ pz s1 1 x.b ++ pz s2 2 x.c).isEmpty) = s3 at *
  rw [← List.append_nil (pz s3 3 x.d)] at hf ⊢
  obtain ⟨f1, g1, e1⟩ := rts_step false (by omega) hx.1 t1 (c := ⟨0, 0, 0, 0, k⟩) (i := 0) rfl hf
  obtain ⟨f2, g2, e2⟩ := rts_step s1 (by omega) hx.2.1 t2 (c := ⟨x.a, 0, 0, 0, k⟩) (i := 1) rfl g1
  obtain ⟨f3, g3, e3⟩ := rts_step s2 (by omega) hx.2.2.1 t3 (c := ⟨x.a, x.b, 0, 0, k⟩) (i := 2) rfl g2
  obtain ⟨f4, g4, e4⟩ := rts_step s3 (by omega) hx.2.2.2 (fun _ => .inl rfl) (c := ⟨x.a, x.b, x.c, 0, k⟩) (i := 3) rfl g3
  rw [e1, show setC ⟨0, 0, 0, 0, k⟩ 0 x.a = ⟨x.a, 0, 0, 0, k⟩ from rfl, e2, show setC ⟨x.a, 0, 0, 0, k⟩ 1 x.b = ⟨x.a, x.b, 0, 0, k⟩ from rfl, e3, show setC ⟨x.a, x.b, 0, 0, k⟩ 2 x.c = ⟨x.a, x.b, x.c, 0, k⟩ from rfl, e4]
  cases f4 with
  | zero => simp at g4
  | succ f => rfl
theorem rps_terms {cap : Int} {x : N} (hx : big cap x) (k : Int) {R : List UInt8} (hR : R = [] ∨ ∃ l, R = 41 :: l) {f : Nat} (hf : (terms x ++ R).length < f) : rps cap f ⟨0, 0, 0, 0, k⟩ (terms x ++ R) = some ({ x with k := k }, R) := by
  have hR' : okTail R := hR.imp id fun ⟨l, e⟩ => ⟨l, .inr (.inr e)⟩
  obtain ⟨t1, t2, t3⟩ := terms_tails x R hR'
  unfold terms at hf ⊢
  simp only [List.append_assoc] at hf ⊢ t1 t2 t3
  generalize hp : (!(pz false 0 x.a).isEmpty) = s1 at *
  generalize hq : (!(pz false 0 x.a ++ pz s1 1 x.b).isEmpty) = s2 at *
  generalize hr : (!(pz false 0 x.a ++ (pz s1 1 x.b ++ pz s2 2 x.c)).isEmpty) = s3 at *
  obtain ⟨f1, g1, e1⟩ := rps_step false (by omega) hx.1 t1 (c := ⟨0, 0, 0, 0, k⟩) (i := 0) rfl hf
  obtain ⟨f2, g2, e2⟩ := rps_step s1 (by omega) hx.2.1 t2 (c := ⟨x.a, 0, 0, 0, k⟩) (i := 1) rfl g1
  obtain ⟨f3, g3, e3⟩ := rps_step s2 (by omega) hx.2.2.1 t3 (c := ⟨x.a, x.b, 0, 0, k⟩) (i := 2) rfl g2
  obtain ⟨f4, g4, e4⟩ := rps_step s3 (by omega) hx.2.2.2 (fun _ => hR') (c := ⟨x.a, x.b, x.c, 0, k⟩) (i := 3) rfl g3
  rw [e1, show setC ⟨0, 0, 0, 0, k⟩ 0 x.a = ⟨x.a, 0, 0, 0, k⟩ from rfl, e2, show setC ⟨x.a, 0, 0, 0, k⟩ 1 x.b = ⟨x.a, x.b, 0, 0, k⟩ from rfl, e3, show setC ⟨x.a, x.b, 0, 0, k⟩ 2 x.c = ⟨x.a, x.b, x.c, 0, k⟩ from rfl, e4]
  cases f4 with
  | zero => omega
  | succ f =>
    have : stopS R = true := by rcases hR with rfl | ⟨l, rfl⟩ <;> rfl
    rw [rps, this]; rfl
/-- No bracket closes within terms. -/
def NoB (l : List UInt8) : Prop := ∀ b ∈ l, b ≠ 41
theorem NoB.app {l m : List UInt8} (h : NoB l) (g : NoB m) : NoB (l ++ m) := fun b hb => (List.mem_append.1 hb).elim (h b) (g b)
theorem dec_noB (u : Nat) : NoB (Lib.decDigits u) := fun b hb e => by
  have := dec_all u b hb
  subst e; cases this
theorem pz_noB (st : Bool) (i : Nat) (n : Int) : NoB (pz st i n) := by
  unfold pz
  cases n == 0 with
  | true => intro b hb; cases hb
  | false =>
    unfold pieceT
    refine NoB.app ?_ (NoB.app ?_ ?_)
    · unfold sgT
      cases decide (n < 0) <;> cases st <;> intro b hb <;> simp at hb <;> subst hb <;> decide
    · unfold mgT
      cases Nat.blt 0 i && (n.natAbs == 1)
      · exact dec_noB _
      · intro b hb; cases hb
    · match i with
      | 0 => intro b hb; cases hb
      | 1 => intro b hb; simp [uniOf] at hb; subst hb; decide
      | 2 => intro b hb; simp [uniOf] at hb; rcases hb with rfl | rfl <;> decide
      | j + 3 => intro b hb; simp [uniOf] at hb; rcases hb with rfl | rfl <;> decide
theorem termsC_noB (x : N) : NoB (termsC x) := by
  unfold termsC
  cases x.zero with
  | true => intro b hb; simp at hb; subst hb; decide
  | false => exact NoB.app (pz_noB _ _ _) (NoB.app (pz_noB _ _ _) (NoB.app (pz_noB _ _ _) (pz_noB _ _ _)))
theorem cut_at {T sep D : List UInt8} {m : List UInt8} (hs : sep = 41 :: m) (h : NoB T) : Lib.cut (T ++ sep ++ D) sep = (T, D, true) := by
  have hi : Lib.index (T ++ sep ++ D) sep = (T.length : Nat) := by
    refine Lib.index_first (by simp only [List.length_append]; omega) ?_ fun j hj => ?_
    · unfold Lib.occAt
      rw [List.append_assoc, List.drop_left]
      simp
    · rw [Bool.eq_false_iff]
      intro e
      have := Lib.occAt_head hs e
      rw [List.append_assoc, List.getElem?_append_left hj, List.getElem?_eq_getElem hj] at this
      cases this' : T[j] with
      | _ => exact h T[j] (List.getElem_mem hj) (by simpa using this)
  unfold Lib.cut
  rw [hi, if_pos (by omega)]
  simp
/-- The program's reader, whole. -/
def GD : Int := 1073741825
def GS : Int := 2147483648
def withK (x : N) (k : Int) : N := { x with k := k }
def readM (s : List UInt8) : N × Bool :=
  bif Lib.hasPrefix s [40] then
    (let p := Lib.cut (Lib.trimPrefix s [40]) [41, 47, 114]
     let r := rts GD (p.1.length + 1) O p.1
     (withK r.1 (digN GD 0 p.2.1), r.2 && (digR p.2.1).isEmpty))
  else (let r := rts GD (s.length + 1) O s; (withK r.1 0, r.2))
/-- The specification's reader, whole. -/
def refM (s : List UInt8) : Option N :=
  let l := bif Lib.hasPrefix s [40] then s.drop 1 else s
  match rps GS (l.length + 1) O l with
  | some (x, r) => some (bif Nat.blt 2 r.length then withK x (digN GS 0 (r.drop 3)) else x)
  | none => none
theorem terms_head {x : N} (h : x.zero = false) : ∃ b l, termsC x = b :: l ∧ (b == 40) = false := by
  have hp : ∀ (st : Bool) (i : Nat), i < 4 → ∀ (n : Int) (R : List UInt8), n ≠ 0 → ∃ b l, pz st i n ++ R = b :: l ∧ (b == 40) = false := by
    intro st i hi n R hn
    obtain ⟨b, l, h1, h2, _⟩ := piece_cons st hi n R
    refine ⟨b, l, ?_, h2⟩
    unfold pz
    rw [show (n == 0) = false by simpa using hn]
    exact h1
  unfold termsC
  rw [h]
  simp only [cond_false, terms]
  by_cases ha : x.a = 0
  · by_cases hb : x.b = 0
    · by_cases hc : x.c = 0
      · have hd : x.d ≠ 0 := by
          intro hd
          simp [N.zero, ha, hb, hc, hd] at h
        have := hp (!(pz false 0 x.a ++ pz (!(pz false 0 x.a).isEmpty) 1 x.b ++ pz (!(pz false 0 x.a ++ pz (!(pz false 0 x.a).isEmpty) 1 x.b).isEmpty) 2 x.c).isEmpty) 3 (by omega) x.d [] hd
        rw [List.append_nil] at this
        have e0 : ∀ st i, pz st i 0 = [] := fun st i => rfl
        rw [ha, hb, hc] at this ⊢
        simpa only [e0, List.nil_append] using this
      · have := hp (!(pz false 0 x.a ++ pz (!(pz false 0 x.a).isEmpty) 1 x.b).isEmpty) 2 (by omega) x.c (pz (!(pz false 0 x.a ++ pz (!(pz false 0 x.a).isEmpty) 1 x.b ++ pz (!(pz false 0 x.a ++ pz (!(pz false 0 x.a).isEmpty) 1 x.b).isEmpty) 2 x.c).isEmpty) 3 x.d) hc
        have e0 : ∀ st i, pz st i 0 = [] := fun st i => rfl
        rw [ha, hb] at this ⊢
        simpa only [e0, List.nil_append] using this
    · have := hp (!(pz false 0 x.a).isEmpty) 1 (by omega) x.b (pz (!(pz false 0 x.a ++ pz (!(pz false 0 x.a).isEmpty) 1 x.b).isEmpty) 2 x.c ++ (pz (!(pz false 0 x.a ++ pz (!(pz false 0 x.a).isEmpty) 1 x.b ++ pz (!(pz false 0 x.a ++ pz (!(pz false 0 x.a).isEmpty) 1 x.b).isEmpty) 2 x.c).isEmpty) 3 x.d)) hb
      have e0 : ∀ st i, pz st i 0 = [] := fun st i => rfl
      rw [ha] at this ⊢
      simpa only [e0, List.nil_append] using this
  · exact hp false 0 (by omega) x.a _ ha
theorem termsC_head (x : N) : ∃ b l, termsC x = b :: l ∧ (b == 40) = false := by
  cases h : x.zero with
  | true => exact ⟨48, [], by unfold termsC; rw [h]; rfl, rfl⟩
  | false => exact terms_head h
theorem rts_C {cap : Int} {x : N} (h0 : 1 ≤ cap) (hx : big cap x) {f : Nat} (hf : (termsC x).length < f) : rts cap f O (termsC x) = (withK x 0, true) := by
  cases h : x.zero with
  | true =>
    have hz : x.a = 0 ∧ x.b = 0 ∧ x.c = 0 ∧ x.d = 0 := by simpa [N.zero, and_assoc] using h
    obtain ⟨h1, h2, h3, h4⟩ := hz
    unfold termsC at hf ⊢
    rw [h] at hf ⊢
    match f with
    | 0 => simp at hf
    | 1 => simp at hf
    | f + 2 =>
      have hm : mn (10 * 0 + (((48 : UInt8).toNat : Int) - 48)) cap = 0 := by
        show mn 0 cap = 0
        unfold mn; rw [if_neg (by omega)]
      have hN : digN cap 0 [48] = 0 := hm
      have hp : rtP cap [48] = 0 := by
        show 1 * digN cap 0 [48] = 0
        rw [hN]; rfl
      show rts cap (f + 1) (setC O 0 (rtP cap [48])) [] = _
      rw [hp]
      unfold withK
      rw [h1, h2, h3, h4]; rfl
  | false =>
    have e : termsC x = terms x := by unfold termsC; rw [h]; rfl
    rw [e] at hf ⊢
    exact rts_terms hx 0 hf
theorem rps_C {cap : Int} {x : N} (h0 : 1 ≤ cap) (hx : big cap x) {R : List UInt8} (hR : R = [] ∨ ∃ l, R = 41 :: l) {f : Nat} (hf : (termsC x ++ R).length < f) : rps cap f O (termsC x ++ R) = some (withK x 0, R) := by
  cases h : x.zero with
  | true =>
    have hz : x.a = 0 ∧ x.b = 0 ∧ x.c = 0 ∧ x.d = 0 := by simpa [N.zero, and_assoc] using h
    obtain ⟨h1, h2, h3, h4⟩ := hz
    have e : termsC x = [48] := by unfold termsC; rw [h]; rfl
    rw [e] at hf ⊢
    match f with
    | 0 => simp at hf
    | 1 => simp at hf
    | f + 2 =>
      have hno : NoD R := by
        intro b m e
        rcases hR with rfl | ⟨l, rfl⟩
        · cases e
        · cases e; rfl
      have hm : mn (10 * 0 + (((48 : UInt8).toNat : Int) - 48)) cap = 0 := by
        show mn 0 cap = 0
        unfold mn; rw [if_neg (by omega)]
      have hd : digR (48 :: R) = R := (noD_R hno)
      have hN : digN cap 0 (48 :: R) = 0 := by
        show digN cap (mn (10 * 0 + (((48 : UInt8).toNat : Int) - 48)) cap) R = 0
        rw [hm, noD_N hno]
      have hw : wrt (48 :: R) = true := by
        unfold wrt; rw [hd]; exact Nat.ble_eq_true_of_le (by simp)
      have hp : rtP cap (48 :: R) = 0 := by
        show 1 * mag cap (48 :: R) = 0
        unfold mag
        rw [hw, cond_true, hN]; rfl
      have hi : rtI (48 :: R) = 0 := by
        show uniI (digR (48 :: R)) = 0
        rw [hd]; rcases hR with rfl | ⟨l, rfl⟩ <;> rfl
      have hr : rtR (48 :: R) = R := by
        show uniR (digR (48 :: R)) = R
        rw [hd]; rcases hR with rfl | ⟨l, rfl⟩ <;> rfl
      have hle : Nat.ble (48 :: R).length R.length = false := by rw [Bool.eq_false_iff]; intro e; have := Nat.le_of_ble_eq_true e; simp only [List.length_cons] at this; omega
      have hs : stopS R = true := by rcases hR with rfl | ⟨l, rfl⟩ <;> rfl
      show rps cap (f + 2) O (48 :: R) = _
      rw [rps, hp, hi, hr, hle, show stopS (48 :: R) = false from rfl]
      show rps cap (f + 1) O R = _
      rw [rps, hs]
      unfold withK
      rw [h1, h2, h3, h4]; rfl
  | false =>
    have e : termsC x = terms x := by unfold termsC; rw [h]; rfl
    rw [e] at hf ⊢
    exact rps_terms hx 0 hR hf
theorem big.mono {c d : Int} {x : N} (h : big c x) (hc : c ≤ d) : big d x := ⟨by have := h.1; omega, by have := h.2.1; omega, by have := h.2.2.1; omega, by have := h.2.2.2; omega⟩
/-- What is printed is read again. -/
theorem readM_num {x : N} (hx : big 1073741824 x) (h0 : 0 ≤ x.k) (hk : x.k ≤ 60) : readM (numC x) = (x, true) := by
  have hb : big GD x := hx.mono (by decide)
  unfold numC readM
  cases hz : x.k == 0 with
  | true =>
    have hz' : x.k = 0 := by simpa using hz
    obtain ⟨b, l, e, hb2⟩ := termsC_head x
    have hp : Lib.hasPrefix (termsC x) [40] = false := by
      rw [e]
      have hb3 : (40 == b) = false := by rw [beq_eq_false_iff_ne] at hb2 ⊢; exact fun e => hb2 e.symm
      show ((40 == b) && _) = false
      rw [hb3]; rfl
    simp only [cond_true, hp, cond_false]
    rw [rts_C (by decide) hb (by omega)]
    unfold withK
    rw [← hz']
  | false =>
    have hp : ∀ l : List UInt8, Lib.hasPrefix ([40] ++ l) [40] = true := fun l => rfl
    have ht : ∀ l : List UInt8, Lib.trimPrefix ([40] ++ l) [40] = l := fun l => rfl
    have hc : Lib.cut (termsC x ++ [41, 47, 114] ++ Lib.decDigits x.k.toNat) [41, 47, 114] = (termsC x, Lib.decDigits x.k.toNat, true) := cut_at rfl (termsC_noB x)
    simp only [cond_false]
    rw [show [40] ++ termsC x ++ [41, 47, 114] ++ Lib.decDigits x.k.toNat = [40] ++ (termsC x ++ [41, 47, 114] ++ Lib.decDigits x.k.toNat) by simp, hp, ht]
    simp only [cond_true, hc]
    rw [rts_C (by decide) hb (by omega)]
    have hN : digN GD 0 (Lib.decDigits x.k.toNat) = x.k := by
      rw [dec_N x.k.toNat (by unfold GD; omega)]; omega
    have hR : digR (Lib.decDigits x.k.toNat) = [] := by
      have := num_R x.k.toNat (m := []) (fun b m e => by cases e)
      rwa [List.append_nil] at this
    rw [hN, hR]
    rfl
theorem refM_num {x : N} (hx : big 1073741824 x) (h0 : 0 ≤ x.k) (hk : x.k ≤ 60) : refM (numC x) = some x := by
  have hb : big GS x := hx.mono (by decide)
  unfold numC refM
  cases hz : x.k == 0 with
  | true =>
    have hz' : x.k = 0 := by simpa using hz
    obtain ⟨b, l, e, hb2⟩ := termsC_head x
    have hp : Lib.hasPrefix (termsC x) [40] = false := by
      rw [e]
      have hb3 : (40 == b) = false := by rw [beq_eq_false_iff_ne] at hb2 ⊢; exact fun e => hb2 e.symm
      show ((40 == b) && _) = false
      rw [hb3]; rfl
    simp only [cond_true, hp, cond_false]
    have := rps_C (by decide) hb (R := []) (.inl rfl) (f := (termsC x).length + 1) (by simp)
    rw [List.append_nil] at this
    rw [this]
    show some (withK x 0) = some x
    unfold withK
    rw [← hz']
  | false =>
    have hp : ∀ l : List UInt8, Lib.hasPrefix ([40] ++ l) [40] = true := fun l => rfl
    simp only [cond_false]
    rw [show [40] ++ termsC x ++ [41, 47, 114] ++ Lib.decDigits x.k.toNat = [40] ++ (termsC x ++ (41 :: 47 :: 114 :: Lib.decDigits x.k.toNat)) by simp, hp]
    simp only [cond_true]
    rw [show List.drop 1 ([40] ++ (termsC x ++ (41 :: 47 :: 114 :: Lib.decDigits x.k.toNat))) = termsC x ++ (41 :: 47 :: 114 :: Lib.decDigits x.k.toNat) from rfl]
    rw [rps_C (by decide) hb (.inr ⟨_, rfl⟩) (by omega)]
    have hN : digN GS 0 (Lib.decDigits x.k.toNat) = x.k := by
      rw [dec_N x.k.toNat (by unfold GS; omega)]; omega
    show some (bif Nat.blt 2 (Lib.decDigits x.k.toNat).length.succ.succ.succ then withK (withK x 0) (digN GS 0 (Lib.decDigits x.k.toNat)) else withK x 0) = some x
    rw [hN, show Nat.blt 2 (Lib.decDigits x.k.toNat).length.succ.succ.succ = true from Nat.ble_eq_true_of_le (by omega)]
    rfl
/- Ring: mathematics of texts of numbers: both readers take the same texts. -/

theorem big_of {x : N} (h : okB x = true) : big 1073741824 x ∧ 0 ≤ x.k ∧ x.k ≤ 60 := by
  obtain ⟨h0, h1, h2⟩ := (okB_iff x).1 h
  obtain ⟨a1, a2, b1, b2, c1, c2, d1, d2⟩ := h2
  exact ⟨⟨by omega, by omega, by omega, by omega⟩, h0, h1⟩
/-- What both make of a text. -/
def progM (s : List UInt8) : Option N := bif (readM s).2 && okB (readM s).1 && (numC (readM s).1.nf == s) then some (readM s).1 else none
def specM (s : List UInt8) : Option N := match refM s with
  | some x => bif okB x && eqN x.nf x && (numC x == s) then some x else none
  | none => none
theorem readM_least {x : N} (h : okB x = true) : readM (numC x.nf) = (x.nf, true) := by
  obtain ⟨h1, h2, h3⟩ := big_of (okB_nf h)
  exact readM_num h1 h2 h3
theorem progM_least {x : N} (h : okB x = true) : progM (numC x.nf) = some x.nf := by
  unfold progM
  rw [readM_least h]
  simp only [okB_nf h, N.nf_nf, beq_self_eq_true, Bool.and_self, cond_true]
theorem progM_some {s : List UInt8} {x : N} (h : progM s = some x) : okB x = true ∧ x.nf = x ∧ numC x = s := by
  unfold progM at h
  cases hc : (readM s).2 && okB (readM s).1 && (numC (readM s).1.nf == s) with
  | false => rw [hc] at h; cases h
  | true =>
    rw [hc] at h
    simp only [Bool.and_eq_true, beq_iff_eq] at hc
    obtain ⟨⟨h1, h2⟩, h3⟩ := hc
    have e : (readM s).1 = x := by simpa using h
    rw [e] at h2 h3
    have := readM_least h2
    rw [h3, show readM s = ((readM s).1, (readM s).2) from rfl, e] at this
    have hx : x = x.nf := (Prod.mk.injEq .. ▸ this).1
    exact ⟨h2, hx.symm, by rw [← h3, ← hx]⟩
theorem specM_some {s : List UInt8} {x : N} (h : specM s = some x) : okB x = true ∧ x.nf = x ∧ numC x = s := by
  unfold specM at h
  split at h
  · rename_i y _
    cases hc : okB y && eqN y.nf y && (numC y == s) with
    | false => rw [hc] at h; cases h
    | true =>
      rw [hc] at h
      simp only [Bool.and_eq_true, beq_iff_eq] at hc
      obtain ⟨⟨h1, h2⟩, h3⟩ := hc
      have e : y = x := by simpa using h
      subst e
      exact ⟨h1, (eqN_iff _ _).1 h2, h3⟩
  · cases h
theorem specM_least {x : N} (h : okB x = true) (hn : x.nf = x) : specM (numC x) = some x := by
  obtain ⟨h1, h2, h3⟩ := big_of h
  unfold specM
  rw [refM_num h1 h2 h3]
  simp only [h, hn, (eqN_iff _ _).2, beq_self_eq_true, Bool.and_self, cond_true]
theorem same_read (s : List UInt8) : progM s = specM s := by
  cases hp : progM s with
  | some x =>
    obtain ⟨h1, h2, h3⟩ := progM_some hp
    rw [← h3, specM_least h1 h2]
  | none =>
    cases hq : specM s with
    | none => rfl
    | some x =>
      obtain ⟨h1, h2, h3⟩ := specM_some hq
      have := progM_least h1
      rw [h2, h3, hp] at this
      cases this
theorem numC_inj {x y : N} (hx : okB x = true) (hy : okB y = true) : (numC x.nf == numC y.nf) = eqN x.nf y.nf := by
  rw [Bool.eq_iff_iff, eqN_iff, beq_iff_eq]
  refine ⟨fun e => ?_, fun e => by rw [e]⟩
  have h1 := readM_least hx
  rw [e, readM_least hy] at h1
  exact ((Prod.mk.injEq .. ▸ h1).1).symm
/-- The program's text of terms is this one. -/
theorem termL_eq {i : Nat} (hi : i < 4) {n : Int} (h1 : -9223372036854775808 ≤ n) (h2 : n ≤ 9223372036854775807) : termL n (uniOf i) = (bif decide (n < 0) then [45] else []) ++ (mgT i n ++ uniOf i) := by
  have hu : (!(uniOf i).isEmpty) = Nat.blt 0 i := by
    have : i = 0 ∨ i = 1 ∨ i = 2 ∨ i = 3 := by omega
    rcases this with rfl | rfl | rfl | rfl <;> rfl
  unfold termL mgT
  rw [hu, itoaS_eq h1 h2]
  cases hb : Nat.blt 0 i with
  | false =>
    simp only [Bool.false_and, cond_false, Lib.itoa]
    by_cases hn : n < 0
    · rw [if_pos hn, decide_eq_true hn]; rfl
    · rw [if_neg hn, decide_eq_false hn, show n.toNat = n.natAbs by omega]; rfl
  | true =>
    simp only [Bool.true_and]
    by_cases e1 : n = 1
    · subst e1; rfl
    · by_cases e2 : n = -1
      · subst e2; rfl
      · rw [show (n == 1) = false by simpa using e1, show (n == -1) = false by simpa using e2, show (n.natAbs == 1) = false by simp; omega]
        simp only [cond_false, Lib.itoa]
        by_cases hn : n < 0
        · rw [if_pos hn, decide_eq_true hn]; rfl
        · rw [if_neg hn, decide_eq_false hn, show n.toNat = n.natAbs by omega]; rfl
theorem addT_eq (acc : List UInt8) {i : Nat} (hi : i < 4) {n : Int} (h1 : -9223372036854775808 ≤ n) (h2 : n ≤ 9223372036854775807) : addT acc n (uniOf i) = acc ++ pz (!acc.isEmpty) i n := by
  unfold addT pz pieceT sgT
  rw [termL_eq hi h1 h2]
  cases hz : n == 0 with
  | true => simp
  | false =>
    have hz' : n ≠ 0 := by simpa using hz
    simp only [cond_false]
    have he : decide (0 < acc.length) = !acc.isEmpty := by cases acc <;> simp
    rw [he]
    by_cases hn : n < 0
    · rw [decide_eq_true hn, decide_eq_false (show ¬ 0 < n by omega)]; rfl
    · rw [decide_eq_false hn, decide_eq_true (show 0 < n by omega)]
      cases acc.isEmpty <;> simp
theorem printC_eq {x : N} (hx : x.In 9223372036854775807) : printC x = termsC x := by
  obtain ⟨a1, a2, b1, b2, c1, c2, d1, d2⟩ := hx
  have e : printA x = terms x := by
    show addT (addT (addT (addT [] x.a (uniOf 0)) x.b (uniOf 1)) x.c (uniOf 2)) x.d (uniOf 3) = terms x
    unfold terms
    rw [addT_eq _ (by omega) (by omega) a2, addT_eq _ (by omega) (by omega) b2, addT_eq _ (by omega) (by omega) c2, addT_eq _ (by omega) (by omega) d2]
    simp only [List.nil_append, List.isEmpty_nil, Bool.not_true, List.append_assoc]
  unfold printC termsC
  rw [e]
  cases hz : x.zero with
  | true =>
    have hz' : x.a = 0 ∧ x.b = 0 ∧ x.c = 0 ∧ x.d = 0 := by simpa [N.zero, and_assoc] using hz
    obtain ⟨h1, h2, h3, h4⟩ := hz'
    unfold terms
    rw [h1, h2, h3, h4]
    first | done | rfl
  | false =>
    have : ((terms x).length == 0) = false := by
      obtain ⟨b, l, h1, _⟩ := terms_head hz
      unfold termsC at h1
      rw [hz] at h1
      have h1 : terms x = b :: l := h1
      rw [h1]; first | done | rfl
    rw [this]; first | done | rfl
end Go.Proofs.YtihccnfaibiiiaaGreatDoor.R
