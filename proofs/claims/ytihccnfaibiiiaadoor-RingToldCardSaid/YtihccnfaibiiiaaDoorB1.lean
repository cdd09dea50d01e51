/- Ring: what is called of the library, as contracts. -/
import Derived.Test.YtihccnfaibiiiaaDoorA3
import Derived.Test.YtihccnfaibiiiaaDoorShelf
namespace Go.Proofs.YtihccnfaibiiiaaDoor.R
open Go Go.Proofs.XX.Vm Go.Proofs.XX.Rm Go.RowKit Go.Sort
set_option maxRecDepth 100000

theorem below_grow (w : World) (q : Nat) (os : Array Obj) : Below w.heap.size w (grow (w.drewN q) os) :=
  ⟨rfl, rfl, rfl, by simp [grow], fun i hi => by
    show ((w.drewN q).heap ++ os)[i]? = _
    rw [Array.getElem?_append_left (by show i < w.heap.size; exact hi)]
    rfl⟩
theorem below_drewN (w : World) (n : Nat) : Below w.heap.size w (w.drewN n) := ⟨rfl, rfl, rfl, Nat.le_refl _, fun _ _ => rfl⟩

theorem globalCells {M : Int} {w : World} (inv : Inv (Sg1 M) (baseRen (Sg1 M).length) (Sg1 M) w) {g : Nat} {cs : List Value} {t : TypeId} (hg : g < 3) (hb : (Sg1 M)[g]? = some ⟨cs, t, true, none⟩) (hp : cs.all plain = true) :
    ∃ fz, w.heap[g]? = some (.cells cs.toArray t fz) := by
  have hr : baseRen (Sg1 M).length g = some g := by unfold baseRen; rw [if_pos (by simpa using hg)]
  obtain ⟨c', fz, h1, h2, _, h4⟩ := inv.ok.good.cells hb hr
  rw [List.take_of_length_le (by rw [h4 rfl]; exact Nat.le_refl _)] at h2
  have := list_eq plain (fun _ _ => plain_eq) hp h2
  refine ⟨fz, ?_⟩
  rw [h1, ← this]
theorem tabPow {M : Int} {w : World} (inv : Inv (Sg1 M) (baseRen (Sg1 M).length) (Sg1 M) w) : Lib.TabIs Tryd.prog w "internal/strconv.uint64pow10" .u64 Lib.pow10Tab := by
  obtain ⟨fz, h⟩ := globalCells inv (g := 1) (by omega) (by rfl) (by decide)
  unfold Lib.TabIs World.var?
  rw [show Tryd.prog.globalNamed "internal/strconv.uint64pow10" = some 1 by kernel_rfl]
  simp only [Option.bind_some, h]
  rfl
theorem cellMax {M : Int} {w : World} (inv : Inv (Sg1 M) (baseRen (Sg1 M).length) (Sg1 M) w) : w.cell? ⟨2, 0, none⟩ = some (.int .i64 M) := by
  obtain ⟨fz, h⟩ := globalCells inv (g := 2) (by omega) (by rfl) (by rfl)
  simp [World.cell?, h]
theorem cellUnit {M : Int} {w : World} (inv : Inv (Sg1 M) (baseRen (Sg1 M).length) (Sg1 M) w) : w.cell? ⟨0, 0, none⟩ = some (str []) ∧ w.cell? ⟨0, 1, none⟩ = some (str [119]) ∧ w.cell? ⟨0, 2, none⟩ = some (str [119, 50]) ∧ w.cell? ⟨0, 3, none⟩ = some (str [119, 51]) := by
  obtain ⟨fz, h⟩ := globalCells inv (g := 0) (by omega) (by rfl) (by decide)
  simp [World.cell?, h]

/-- Digits, by a number of rounds. -/
def digS : Nat → Nat → List UInt8
  | 0, _ => []
  | f + 1, u => bif Nat.ble u 9 then [UInt8.ofNat (48 + u)] else digS f (u / 10) ++ [UInt8.ofNat (48 + u % 10)]
def itoaS (n : Int) : List UInt8 := match n with
  | .ofNat u => digS 20 u
  | .negSucc u => 45 :: digS 20 (u + 1)
theorem digS_eq : ∀ (f u : Nat), u < 10 ^ (f + 1) → digS (f + 1) u = Lib.decDigits u := by
  intro f
  induction f with
  | zero =>
    intro u h
    rw [Lib.decDigits, dif_pos (by simpa using h)]
    simp only [digS, Nat.ble_eq_true_of_le (show u ≤ 9 by simp at h; omega), cond_true]
  | succ f ih =>
    intro u h
    rw [Lib.decDigits]
    by_cases hu : u < 10
    · rw [dif_pos hu]
      show (bif Nat.ble u 9 then _ else _) = _
      rw [Nat.ble_eq_true_of_le (show u ≤ 9 by omega)]; rfl
    · rw [dif_neg hu]
      have hb : Nat.ble u 9 = false := by rw [Bool.eq_false_iff]; intro e; have := Nat.le_of_ble_eq_true e; omega
      show (bif Nat.ble u 9 then _ else digS (f + 1) (u / 10) ++ [UInt8.ofNat (48 + u % 10)]) = _
      rw [hb, ih (u / 10) (by rw [Nat.pow_succ] at h; omega)]; rfl
theorem itoaS_eq {n : Int} (h1 : -9223372036854775808 ≤ n) (h2 : n ≤ 9223372036854775807) : itoaS n = Lib.itoa n := by
  unfold Lib.itoa
  cases n with
  | ofNat u =>
    rw [if_neg (by have := Int.natCast_nonneg u; simp only [Int.ofNat_eq_natCast]; omega)]
    exact digS_eq 19 u (by simp only [Int.ofNat_eq_natCast] at h2; omega)
  | negSucc u =>
    rw [if_pos (Int.negSucc_lt_zero u)]
    show 45 :: digS 20 (u + 1) = 45 :: _
    rw [digS_eq 19 (u + 1) (by omega)]
    rfl
theorem OT.pre {b : Bool} {v u : Value} (h : (OT.ite b (.val v) .no).get = some u) : b = true ∧ u = v := by
  cases b
  · cases h
  · cases h; exact ⟨rfl, rfl⟩
def i64B (n : Int) : Bool := decide (-9223372036854775808 ≤ n) && decide (n ≤ 9223372036854775807)
theorem i64B_iff {n : Int} (h : i64B n = true) : -9223372036854775808 ≤ n ∧ n ≤ 9223372036854775807 := by
  simpa [i64B] using h
def cItoa : Con := ⟨61, fun args => match args with
  | [.int .i64 n] => some (.ite (i64B n) (.val (.string ⟨(itoaS n).toArray⟩)) .no)
  | _ => none⟩
theorem cItoa_ok (M : Int) : ConOk M cItoa := by
  intro args t v h hv w inv
  simp only [cItoa] at h
  split at h
  · rename_i n
    cases h
    obtain ⟨h1, h⟩ := OT.pre hv
    cases h
    obtain ⟨h1, h2⟩ := i64B_iff h1
    refine (Tryd.strconv_Itoa n h1 h2 w (tabPow inv)).mono ?_
    rintro e w' ⟨rfl, k, os, rfl⟩
    exact ⟨by rw [itoaS_eq h1 h2], below_grow _ _ _⟩
  · cases h
def cPre : Con := ⟨97, fun args => match args with
  | [.string s, .string p] => some (.val (.tuple #[.string ⟨(Lib.trimPrefix s.data.toList p.data.toList).toArray⟩, .bool (Lib.hasPrefix s.data.toList p.data.toList)]))
  | _ => none⟩
theorem cPre_ok (M : Int) : ConOk M cPre := by
  intro args t v h hv w inv
  simp only [cPre] at h
  split at h
  · rename_i s p
    cases h
    cases hv
    refine (Tryd.strings_CutPrefix s p w).mono ?_
    rintro e w' ⟨rfl, rfl⟩
    exact ⟨rfl, Below.refl _ _⟩
  · cases h
def cHas : Con := ⟨120, fun args => match args with
  | [.string s, .string p] => some (.val (.bool (Lib.hasPrefix s.data.toList p.data.toList)))
  | _ => none⟩
theorem cHas_ok (M : Int) : ConOk M cHas := by
  intro args t v h hv w inv
  simp only [cHas] at h
  split at h
  · rename_i s p
    cases h
    cases hv
    refine (Tryd.strings_HasPrefix s p w).mono ?_
    rintro e w' ⟨rfl, rfl⟩
    exact ⟨rfl, Below.refl _ _⟩
  · cases h
def cCut : Con := ⟨99, fun args => match args with
  | [.string s, .string p] => some (.ite (Nat.ble s.size 4294967280) (.val (.tuple #[.string ⟨(Lib.cut s.data.toList p.data.toList).1.toArray⟩, .string ⟨(Lib.cut s.data.toList p.data.toList).2.1.toArray⟩, .bool (Lib.cut s.data.toList p.data.toList).2.2])) .no)
  | _ => none⟩
theorem cCut_ok (M : Int) : ConOk M cCut := by
  intro args t v h hv w inv
  simp only [cCut] at h
  split at h
  · rename_i s p
    cases h
    obtain ⟨h1, h⟩ := OT.pre hv
    cases h
    refine (Tryd.strings_Cut s p M w (by have := Nat.le_of_ble_eq_true h1; omega) (cellMax inv)).mono ?_
    rintro e w' ⟨rfl, n, rfl⟩
    exact ⟨rfl, below_drewN _ _⟩
  · cases h

/-- The contracts of the library. -/
abbrev LS : List Con := [cItoa, cPre, cHas, cCut]
theorem LS_ok (M : Int) : ∀ c ∈ LS, ConOk M c := by
  intro c hc
  simp only [LS, List.mem_cons, List.not_mem_nil, or_false] at hc
  rcases hc with rfl | rfl | rfl | rfl
  · exact cItoa_ok M
  · exact cPre_ok M
  · exact cHas_ok M
  · exact cCut_ok M

theorem inv_below {M : Int} {w w' : World} (inv : Inv (Sg1 M) (baseRen (Sg1 M).length) (Sg1 M) w) (h : Below w.heap.size w w') : Inv (Sg1 M) (baseRen (Sg1 M).length) (Sg1 M) w' :=
  ⟨⟨good_of_below inv.ok.good h, inv.ok.glob⟩, inv.base, inv.len⟩

/-- A term's text. -/
def termL (n : Int) (u : List UInt8) : List UInt8 := bif !u.isEmpty && n == 1 then u else bif !u.isEmpty && n == -1 then 45 :: u else itoaS n ++ u
theorem t94a (M : Int) (m : Nat) (n : Int) : runK Tryd.prog (orcL LS) (Sg1 M) (m + 60) 94 [.int .i64 n, str []] =
    bif i64B n then (bif Nat.ble (ByteArray.size ⟨(itoaS n).toArray⟩ + ByteArray.size ⟨[].toArray⟩) 9223372036854775807 then some (.string (⟨(itoaS n).toArray⟩ ++ ⟨[].toArray⟩)) else none) else none := by kernel_rfl
theorem t94b (M : Int) (m : Nat) (n : Int) : runK Tryd.prog (orcL LS) (Sg1 M) (m + 60) 94 [.int .i64 n, str [119]] =
    bif n == 1 then some (str [119]) else bif n == -1 then some (.string (⟨[45].toArray⟩ ++ ⟨[119].toArray⟩)) else bif i64B n then (bif Nat.ble (ByteArray.size ⟨(itoaS n).toArray⟩ + ByteArray.size ⟨[119].toArray⟩) 9223372036854775807 then some (.string (⟨(itoaS n).toArray⟩ ++ ⟨[119].toArray⟩)) else none) else none := by kernel_rfl
theorem t94c (M : Int) (m : Nat) (n : Int) : runK Tryd.prog (orcL LS) (Sg1 M) (m + 60) 94 [.int .i64 n, str [119, 50]] =
    bif n == 1 then some (str [119, 50]) else bif n == -1 then some (.string (⟨[45].toArray⟩ ++ ⟨[119, 50].toArray⟩)) else bif i64B n then (bif Nat.ble (ByteArray.size ⟨(itoaS n).toArray⟩ + ByteArray.size ⟨[119, 50].toArray⟩) 9223372036854775807 then some (.string (⟨(itoaS n).toArray⟩ ++ ⟨[119, 50].toArray⟩)) else none) else none := by kernel_rfl
theorem t94d (M : Int) (m : Nat) (n : Int) : runK Tryd.prog (orcL LS) (Sg1 M) (m + 60) 94 [.int .i64 n, str [119, 51]] =
    bif n == 1 then some (str [119, 51]) else bif n == -1 then some (.string (⟨[45].toArray⟩ ++ ⟨[119, 51].toArray⟩)) else bif i64B n then (bif Nat.ble (ByteArray.size ⟨(itoaS n).toArray⟩ + ByteArray.size ⟨[119, 51].toArray⟩) 9223372036854775807 then some (.string (⟨(itoaS n).toArray⟩ ++ ⟨[119, 51].toArray⟩)) else none) else none := by kernel_rfl
theorem bapp (a b : List UInt8) : (⟨a.toArray⟩ : ByteArray) ++ ⟨b.toArray⟩ = ⟨(a ++ b).toArray⟩ := by
  apply ByteArray.ext
  simp
end Go.Proofs.YtihccnfaibiiiaaDoor.R
