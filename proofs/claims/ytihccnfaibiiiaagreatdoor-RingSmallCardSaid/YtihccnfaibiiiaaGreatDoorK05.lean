/- Ring: what is called of the library, as contracts. -/
import Derived.Test.YtihccnfaibiiiaaGreatDoorK04
import Derived.Shelf.Strings.Builder1
import Derived.Test.YtihccnfaibiiiaaGreatDoorProg
import Derived.KernelRfl
import Derived.Test.YtihccnfaibiiiaaGreatDoorChecked
import Derived.WalkKit
import Derived.BigCall
import Derived.Lib.ItoaLen
namespace Go.Proofs.YtihccnfaibiiiaaGreatDoor.R
open Go Go.Proofs.XX.Vm Go.Proofs.XX.Rm Go.RowKit Go.Sort
set_option maxRecDepth 100000

theorem below_grow (w : World) (q : Nat) (os : Array Obj) : Below w.heap.size w (grow (w.drewN q) os) :=
  ⟨rfl, rfl, rfl, by simp [grow], fun i hi => by
    show ((w.drewN q).heap ++ os)[i]? = _
    rw [Array.getElem?_append_left (by show i < w.heap.size; exact hi)]
    rfl⟩
theorem below_drewN (w : World) (n : Nat) : Below w.heap.size w (w.drewN n) := ⟨rfl, rfl, rfl, Nat.le_refl _, fun _ _ => rfl⟩

theorem globalCells {M : Int} {w : World} (inv : Inv (Sg1 M) (baseRen (Sg1 M).length) (Sg1 M) w) {g : Nat} {cs : List Value} {t : TypeId} (hg : g < 3) (hb : (Sg1 M)[g]? = some ⟨cs, t, true, none⟩) (hp : cs.all plain = true) :
    ∃ fz, w.heap[g]? = some (.cells cs.toArray t fz) := by
  have hr : baseRen (Sg1 M).length g = some g := by unfold baseRen; rw [if_pos (by simpa using hg)]
  obtain ⟨c', fz, h1, h2, _, h4⟩ := inv.ok.good.cells hb hr
  rw [List.take_of_length_le (by rw [h4 rfl]; exact Nat.le_refl _)] at h2
  have := list_eq plain (fun _ _ => plain_eq) hp h2
  refine ⟨fz, ?_⟩
  rw [h1, ← this]
theorem tabPow {M : Int} {w : World} (inv : Inv (Sg1 M) (baseRen (Sg1 M).length) (Sg1 M) w) : Lib.TabIs Tryz.prog w "internal/strconv.uint64pow10" .u64 Lib.pow10Tab := by
  obtain ⟨fz, h⟩ := globalCells inv (g := 1) (by omega) (by rfl) (by decide)
  unfold Lib.TabIs World.var?
  rw [show Tryz.prog.globalNamed "internal/strconv.uint64pow10" = some 1 by kernel_rfl]
  simp only [Option.bind_some, h]
  rfl
theorem cellMax {M : Int} {w : World} (inv : Inv (Sg1 M) (baseRen (Sg1 M).length) (Sg1 M) w) : w.cell? ⟨2, 0, none⟩ = some (.int .i64 M) := by
  obtain ⟨fz, h⟩ := globalCells inv (g := 2) (by omega) (by rfl) (by rfl)
  simp [World.cell?, h]
theorem cellUnit {M : Int} {w : World} (inv : Inv (Sg1 M) (baseRen (Sg1 M).length) (Sg1 M) w) : w.cell? ⟨0, 0, none⟩ = some (str []) ∧ w.cell? ⟨0, 1, none⟩ = some (str [119]) ∧ w.cell? ⟨0, 2, none⟩ = some (str [119, 50]) ∧ w.cell? ⟨0, 3, none⟩ = some (str [119, 51]) := by
  obtain ⟨fz, h⟩ := globalCells inv (g := 0) (by omega) (by rfl) (by decide)
  simp [World.cell?, h]

/-- Digits, by a number of rounds. -/
def digS : Nat → Nat → List UInt8
  | 0, _ => []
  | f + 1, u => bif Nat.ble u 9 then [UInt8.ofNat (48 + u)] else digS f (u / 10) ++ [UInt8.ofNat (48 + u % 10)]
def itoaS (n : Int) : List UInt8 := match n with
  | .ofNat u => digS 20 u
  | .negSucc u => 45 :: digS 20 (u + 1)
theorem digS_eq : ∀ (f u : Nat), u < 10 ^ (f + 1) → digS (f + 1) u = Lib.decDigits u := by
  intro f
  induction f with
  | zero =>
    intro u h
    rw [Lib.decDigits, dif_pos (by simpa using h)]
    simp only [digS, Nat.ble_eq_true_of_le (show u ≤ 9 by simp at h; omega), cond_true]
  | succ f ih =>
    intro u h
    rw [Lib.decDigits]
    by_cases hu : u < 10
    · rw [dif_pos hu]
      show (bif Nat.ble u 9 then _ else _) = _
      rw [Nat.ble_eq_true_of_le (show u ≤ 9 by omega)]; rfl
    · rw [dif_neg hu]
      have hb : Nat.ble u 9 = false := by rw [Bool.eq_false_iff]; intro e; have := Nat.le_of_ble_eq_true e; omega
      show (bif Nat.ble u 9 then _ else digS (f + 1) (u / 10) ++ [UInt8.ofNat (48 + u % 10)]) = _
      rw [hb, ih (u / 10) (by rw [Nat.pow_succ] at h; omega)]; rfl
theorem itoaS_eq {n : Int} (h1 : -9223372036854775808 ≤ n) (h2 : n ≤ 9223372036854775807) : itoaS n = Lib.itoa n := by
  unfold Lib.itoa
  cases n with
  | ofNat u =>
    rw [if_neg (by have := Int.natCast_nonneg u; simp only [Int.ofNat_eq_natCast]; omega)]
    exact digS_eq 19 u (by simp only [Int.ofNat_eq_natCast] at h2; omega)
  | negSucc u =>
    rw [if_pos (Int.negSucc_lt_zero u)]
    show 45 :: digS 20 (u + 1) = 45 :: _
    rw [digS_eq 19 (u + 1) (by omega)]
    rfl
theorem OT.pre {b : Bool} {v u : Value} (h : (OT.ite b (.val v) .no).get = some u) : b = true ∧ u = v := by
  cases b
  · cases h
  · cases h; exact ⟨rfl, rfl⟩
def i64B (n : Int) : Bool := decide (-9223372036854775808 ≤ n) && decide (n ≤ 9223372036854775807)
theorem i64B_iff {n : Int} (h : i64B n = true) : -9223372036854775808 ≤ n ∧ n ≤ 9223372036854775807 := by
  simpa [i64B] using h
def cItoa : Con := ⟨76, fun args => match args with
  | [.int .i64 n] => some (.ite (i64B n) (.val (.string ⟨(itoaS n).toArray⟩)) .no)
  | _ => none⟩
theorem cItoa_ok (M : Int) : ConOk M cItoa := by
  intro args t v h hv w inv
  simp only [cItoa] at h
  split at h
  · rename_i n
    cases h
    obtain ⟨h1, h⟩ := OT.pre hv
    cases h
    obtain ⟨h1, h2⟩ := i64B_iff h1
    refine (Tryz.strconv_Itoa n h1 h2 w (tabPow inv)).mono ?_
    rintro e w' ⟨rfl, k, os, rfl⟩
    exact ⟨by rw [itoaS_eq h1 h2], below_grow _ _ _⟩
  · cases h
def cPre : Con := ⟨111, fun args => match args with
  | [.string s, .string p] => some (.val (.tuple #[.string ⟨(Lib.trimPrefix s.data.toList p.data.toList).toArray⟩, .bool (Lib.hasPrefix s.data.toList p.data.toList)]))
  | _ => none⟩
theorem cPre_ok (M : Int) : ConOk M cPre := by
  intro args t v h hv w inv
  simp only [cPre] at h
  split at h
  · rename_i s p
    cases h
    cases hv
    refine (Tryz.strings_CutPrefix s p w).mono ?_
    rintro e w' ⟨rfl, rfl⟩
    exact ⟨rfl, Below.refl _ _⟩
  · cases h
def cHas : Con := ⟨130, fun args => match args with
  | [.string s, .string p] => some (.val (.bool (Lib.hasPrefix s.data.toList p.data.toList)))
  | _ => none⟩
theorem cHas_ok (M : Int) : ConOk M cHas := by
  intro args t v h hv w inv
  simp only [cHas] at h
  split at h
  · rename_i s p
    cases h
    cases hv
    refine (Tryz.strings_HasPrefix s p w).mono ?_
    rintro e w' ⟨rfl, rfl⟩
    exact ⟨rfl, Below.refl _ _⟩
  · cases h
def cCut : Con := ⟨113, fun args => match args with
  | [.string s, .string p] => some (.ite (Nat.ble s.size 4294967280) (.val (.tuple #[.string ⟨(Lib.cut s.data.toList p.data.toList).1.toArray⟩, .string ⟨(Lib.cut s.data.toList p.data.toList).2.1.toArray⟩, .bool (Lib.cut s.data.toList p.data.toList).2.2])) .no)
  | _ => none⟩
theorem cCut_ok (M : Int) : ConOk M cCut := by
  intro args t v h hv w inv
  simp only [cCut] at h
  split at h
  · rename_i s p
    cases h
    obtain ⟨h1, h⟩ := OT.pre hv
    cases h
    refine (Tryz.strings_Cut s p M w (by have := Nat.le_of_ble_eq_true h1; omega) (cellMax inv)).mono ?_
    rintro e w' ⟨rfl, n, rfl⟩
    exact ⟨rfl, below_drewN _ _⟩
  · cases h

/-- The contracts of the library. -/
abbrev LS : List Con := [cItoa, cPre, cHas, cCut]
theorem LS_ok (M : Int) : ∀ c ∈ LS, ConOk M c := by
  intro c hc
  simp only [LS, List.mem_cons, List.not_mem_nil, or_false] at hc
  rcases hc with rfl | rfl | rfl | rfl
  · exact cItoa_ok M
  · exact cPre_ok M
  · exact cHas_ok M
  · exact cCut_ok M

theorem inv_below {M : Int} {w w' : World} (inv : Inv (Sg1 M) (baseRen (Sg1 M).length) (Sg1 M) w) (h : Below w.heap.size w w') : Inv (Sg1 M) (baseRen (Sg1 M).length) (Sg1 M) w' :=
  ⟨⟨good_of_below inv.ok.good h, inv.ok.glob⟩, inv.base, inv.len⟩

/-- A term's text. -/
def termL (n : Int) (u : List UInt8) : List UInt8 := bif !u.isEmpty && n == 1 then u else bif !u.isEmpty && n == -1 then 45 :: u else itoaS n ++ u
theorem t94a (M : Int) (m : Nat) (n : Int) : runK Tryz.prog (orcL LS) (Sg1 M) (m + 60) 101 [.int .i64 n, str []] =
    bif i64B n then (bif Nat.ble (ByteArray.size ⟨(itoaS n).toArray⟩ + ByteArray.size ⟨[].toArray⟩) 9223372036854775807 then some (.string (⟨(itoaS n).toArray⟩ ++ ⟨[].toArray⟩)) else none) else none := by kernel_rfl
theorem t94b (M : Int) (m : Nat) (n : Int) : runK Tryz.prog (orcL LS) (Sg1 M) (m + 60) 101 [.int .i64 n, str [119]] =
    bif n == 1 then some (str [119]) else bif n == -1 then some (.string (⟨[45].toArray⟩ ++ ⟨[119].toArray⟩)) else bif i64B n then (bif Nat.ble (ByteArray.size ⟨(itoaS n).toArray⟩ + ByteArray.size ⟨[119].toArray⟩) 9223372036854775807 then some (.string (⟨(itoaS n).toArray⟩ ++ ⟨[119].toArray⟩)) else none) else none := by kernel_rfl
theorem t94c (M : Int) (m : Nat) (n : Int) : runK Tryz.prog (orcL LS) (Sg1 M) (m + 60) 101 [.int .i64 n, str [119, 50]] =
    bif n == 1 then some (str [119, 50]) else bif n == -1 then some (.string (⟨[45].toArray⟩ ++ ⟨[119, 50].toArray⟩)) else bif i64B n then (bif Nat.ble (ByteArray.size ⟨(itoaS n).toArray⟩ + ByteArray.size ⟨[119, 50].toArray⟩) 9223372036854775807 then some (.string (⟨(itoaS n).toArray⟩ ++ ⟨[119, 50].toArray⟩)) else none) else none := by kernel_rfl
theorem t94d (M : Int) (m : Nat) (n : Int) : runK Tryz.prog (orcL LS) (Sg1 M) (m + 60) 101 [.int .i64 n, str [119, 51]] =
    bif n == 1 then some (str [119, 51]) else bif n == -1 then some (.string (⟨[45].toArray⟩ ++ ⟨[119, 51].toArray⟩)) else bif i64B n then (bif Nat.ble (ByteArray.size ⟨(itoaS n).toArray⟩ + ByteArray.size ⟨[119, 51].toArray⟩) 9223372036854775807 then some (.string (⟨(itoaS n).toArray⟩ ++ ⟨[119, 51].toArray⟩)) else none) else none := by kernel_rfl
theorem bapp (a b : List UInt8) : (⟨a.toArray⟩ : ByteArray) ++ ⟨b.toArray⟩ = ⟨(a ++ b).toArray⟩ := by
  apply ByteArray.ext
  simp
end Go.Proofs.YtihccnfaibiiiaaGreatDoor.R
/- The Builder's writers, laid at this program. -/
namespace Go.Proofs
open Go.Shelf
def YtihccnfaibiiiaaGreatDoor.ren : Go.Shelf.Ren := ⟨fun | 240 => 115 | 276 => 122 | 167 => 99 | 166 => 100 | n => n, fun | 0 => 0 | 3 => 3 | 4 => 4 | 5 => 5 | 9 => 9 | 20 => 20 | 37 => 87 | 70 => 86 | 72 => 89 | 75 => 92 | 80 => 76 | 164 => 123 | n => n, fun | n => n⟩
theorem YtihccnfaibiiiaaGreatDoor.lays240 : Lays.n240 Tryz.prog YtihccnfaibiiiaaGreatDoor.ren := {
  mixed := by kernel_rfl
  f240 := Tryz.func115.trans (congrArg some (by kernel_rfl))
  f276 := Tryz.func122.trans (congrArg some (by kernel_rfl))
  t0 := Tryz.underlying0
  a0 := Tryz.isAgg0
  z0 := Tryz.sizeOf0
  v0 := Tryz.zeroValue0
  t4 := Tryz.underlying4
  a4 := Tryz.isAgg4
  z4 := Tryz.sizeOf4
  v4 := Tryz.zeroValue4
  t9 := Tryz.underlying9
  a9 := Tryz.isAgg9
  z9 := Tryz.sizeOf9
  v9 := Tryz.zeroValue9
  t20 := Tryz.underlying20
  a20 := Tryz.isAgg20
  z20 := Tryz.sizeOf20
  v20 := Tryz.zeroValue20
  t70 := Tryz.underlying86
  a70 := Tryz.isAgg86
  z70 := Tryz.sizeOf86
  v70 := Tryz.zeroValue86
  t72 := Tryz.underlying89
  a72 := Tryz.isAgg89
  z72 := Tryz.sizeOf89
  v72 := Tryz.zeroValue89
  t164 := Tryz.underlying123
  a164 := Tryz.isAgg123
  z164 := Tryz.sizeOf123
  v164 := Tryz.zeroValue123 }
theorem YtihccnfaibiiiaaGreatDoor.lays167 : Lays.n167 Tryz.prog YtihccnfaibiiiaaGreatDoor.ren := {
  mixed := by kernel_rfl
  f167 := Tryz.func99.trans (congrArg some (by kernel_rfl))
  f240 := Tryz.func115.trans (congrArg some (by kernel_rfl))
  f276 := Tryz.func122.trans (congrArg some (by kernel_rfl))
  t0 := Tryz.underlying0
  a0 := Tryz.isAgg0
  z0 := Tryz.sizeOf0
  v0 := Tryz.zeroValue0
  t4 := Tryz.underlying4
  a4 := Tryz.isAgg4
  z4 := Tryz.sizeOf4
  v4 := Tryz.zeroValue4
  t5 := Tryz.underlying5
  a5 := Tryz.isAgg5
  z5 := Tryz.sizeOf5
  v5 := Tryz.zeroValue5
  t9 := Tryz.underlying9
  a9 := Tryz.isAgg9
  z9 := Tryz.sizeOf9
  v9 := Tryz.zeroValue9
  t20 := Tryz.underlying20
  a20 := Tryz.isAgg20
  z20 := Tryz.sizeOf20
  v20 := Tryz.zeroValue20
  t37 := Tryz.underlying87
  a37 := Tryz.isAgg87
  z37 := Tryz.sizeOf87
  v37 := Tryz.zeroValue87
  t70 := Tryz.underlying86
  a70 := Tryz.isAgg86
  z70 := Tryz.sizeOf86
  v70 := Tryz.zeroValue86
  t72 := Tryz.underlying89
  a72 := Tryz.isAgg89
  z72 := Tryz.sizeOf89
  v72 := Tryz.zeroValue89
  t75 := Tryz.underlying92
  a75 := Tryz.isAgg92
  z75 := Tryz.sizeOf92
  v75 := Tryz.zeroValue92
  t164 := Tryz.underlying123
  a164 := Tryz.isAgg123
  z164 := Tryz.sizeOf123
  v164 := Tryz.zeroValue123 }
theorem YtihccnfaibiiiaaGreatDoor.lays166 : Lays.n166 Tryz.prog YtihccnfaibiiiaaGreatDoor.ren := {
  mixed := by kernel_rfl
  f166 := Tryz.func100.trans (congrArg some (by kernel_rfl))
  f240 := Tryz.func115.trans (congrArg some (by kernel_rfl))
  f276 := Tryz.func122.trans (congrArg some (by kernel_rfl))
  t0 := Tryz.underlying0
  a0 := Tryz.isAgg0
  z0 := Tryz.sizeOf0
  v0 := Tryz.zeroValue0
  t3 := Tryz.underlying3
  a3 := Tryz.isAgg3
  z3 := Tryz.sizeOf3
  v3 := Tryz.zeroValue3
  t4 := Tryz.underlying4
  a4 := Tryz.isAgg4
  z4 := Tryz.sizeOf4
  v4 := Tryz.zeroValue4
  t9 := Tryz.underlying9
  a9 := Tryz.isAgg9
  z9 := Tryz.sizeOf9
  v9 := Tryz.zeroValue9
  t20 := Tryz.underlying20
  a20 := Tryz.isAgg20
  z20 := Tryz.sizeOf20
  v20 := Tryz.zeroValue20
  t37 := Tryz.underlying87
  a37 := Tryz.isAgg87
  z37 := Tryz.sizeOf87
  v37 := Tryz.zeroValue87
  t70 := Tryz.underlying86
  a70 := Tryz.isAgg86
  z70 := Tryz.sizeOf86
  v70 := Tryz.zeroValue86
  t72 := Tryz.underlying89
  a72 := Tryz.isAgg89
  z72 := Tryz.sizeOf89
  v72 := Tryz.zeroValue89
  t75 := Tryz.underlying92
  a75 := Tryz.isAgg92
  z75 := Tryz.sizeOf92
  v75 := Tryz.zeroValue92
  t164 := Tryz.underlying123
  a164 := Tryz.isAgg123
  z164 := Tryz.sizeOf123
  v164 := Tryz.zeroValue123 }
theorem YtihccnfaibiiiaaGreatDoor.extra : Builder.Extra Tryz.prog YtihccnfaibiiiaaGreatDoor.ren := {
  sizeBuilder := by kernel_rfl
  liesBuilder := by kernel_rfl
  t5 := Tryz.underlying5
  a5 := Tryz.isAgg5
  z5 := Tryz.sizeOf5
  v5 := Tryz.zeroValue5
  infoByte := by kernel_rfl
  cellsByte := by kernel_rfl
  sizeByte := by kernel_rfl
  neB5 := by decide }
end Go.Proofs
/- Ring: the text of terms, through a Builder. -/
namespace Go.Proofs.YtihccnfaibiiiaaGreatDoor.R
open Go Go.Proofs.XX.Vm Go.Proofs.XX.Rm Go.RowKit
set_option maxRecDepth 100000

theorem print94 (M : Int) (n : Int) (h1 : -9223372036854775808 ≤ n) (h2 : n ≤ 9223372036854775807) (u : List UInt8) (hu : u = [] ∨ u = [119] ∨ u = [119, 50] ∨ u = [119, 51]) (w : World) (inv : Inv (Sg1 M) (baseRen (Sg1 M).length) (Sg1 M) w) :
    Calls Tryz.prog 101 #[.int .i64 n, str u] w fun e w' => e = .returned (str (termL n u)) ∧ Below w.heap.size w w' := by
  have hi : i64B n = true := by simp [i64B, h1, h2]
  have hl := Lib.itoa_length_le n h1 h2
  rw [← itoaS_eq h1 h2] at hl
  have sz : ∀ l : List UInt8, ByteArray.size ⟨l.toArray⟩ = l.length := fun l => by simp [ByteArray.size]
  have fit : ∀ l : List UInt8, l.length ≤ 5 → Nat.ble (ByteArray.size ⟨(itoaS n).toArray⟩ + ByteArray.size ⟨l.toArray⟩) 9223372036854775807 = true := fun l hl2 => by
    rw [sz, sz]; exact Nat.ble_eq_true_of_le (by omega)
  have key : EvF Tryz.prog (orcL LS) (Sg1 M) 101 [.int .i64 n, str u] (str (termL n u)) := by
    refine EvF.of_eq 60 fun m => ?_
    rcases hu with rfl | rfl | rfl | rfl
    · rw [t94a, hi, fit [] (by decide), bapp]; rfl
    · rw [t94b, hi, fit [119] (by decide), bapp, bapp]; unfold termL; cases n == 1 <;> cases n == -1 <;> rfl
    · rw [t94c, hi, fit [119, 50] (by decide), bapp, bapp]; unfold termL; cases n == 1 <;> cases n == -1 <;> rfl
    · rw [t94d, hi, fit [119, 51] (by decide), bapp, bapp]; unfold termL; cases n == 1 <;> cases n == -1 <;> rfl
  exact key.calls (sg1 M) (orcOk_of (LS_ok M)) rfl inv

def addT (acc : List UInt8) (n : Int) (u : List UInt8) : List UInt8 := bif n == 0 then acc else (bif decide (0 < n) && decide (0 < acc.length) then acc ++ [43] else acc) ++ termL n u
def printA (x : N) : List UInt8 := addT (addT (addT (addT [] x.a []) x.b [119]) x.c [119, 50]) x.d [119, 51]
def printC (x : N) : List UInt8 := bif (printA x).length == 0 then [48] else printA x
theorem termL_len (n : Int) (h1 : -9223372036854775808 ≤ n) (h2 : n ≤ 9223372036854775807) (u : List UInt8) (hu : u.length ≤ 2) : (termL n u).length ≤ 24 := by
  have := Lib.itoa_length_le n h1 h2
  rw [← itoaS_eq h1 h2] at this
  unfold termL
  cases (!u.isEmpty && n == 1)
  · cases (!u.isEmpty && n == -1)
    · simp; omega
    · simp; omega
  · simp; omega
theorem addT_len (acc : List UInt8) (n : Int) (h1 : -9223372036854775808 ≤ n) (h2 : n ≤ 9223372036854775807) (u : List UInt8) (hu : u.length ≤ 2) : (addT acc n u).length ≤ acc.length + 25 := by
  have := termL_len n h1 h2 u hu
  unfold addT
  cases n == 0
  · cases decide (0 < n) && decide (0 < acc.length)
    · simp; omega
    · simp; omega
  · simp

/-- A Builder that holds l, behind the box that the call has made. -/
def Bld (w : World) (l : List UInt8) (wr : World) : Prop := Lib.IsBuilder 89 5 w.heap.size (w.heap.size + 1) (Lib.byteCells l) wr ∧ Below w.heap.size w wr
theorem isBuilder_below {T e : TypeId} {B b : Nat} {bs : List Value} {w w' : World} (h : Lib.IsBuilder T e B b bs w) (hb : Below w.heap.size w w') : Lib.IsBuilder T e B b bs w' := by
  have go : ∀ p, Lib.BuilderAt T e B b p bs w → Lib.BuilderAt T e B b p bs w' := by
    rintro p ⟨h1, v, h2, h3, h4⟩
    have hlt : b < w.heap.size := (Array.getElem?_eq_some_iff.1 h2).1
    exact ⟨h1, v, by rw [hb.block b hlt]; exact h2, h3.kept (row := none) ⟨hb.os, hb.tape, hb.output, hb.size, fun j hj _ => hb.block j hj⟩ (by cases hv : v.ownBlock <;> simp), h4⟩
  exact h.elim (fun x => .inl (go _ x)) (fun x => .inr (go _ x))
theorem Bld.lt {w wr : World} {l : List UInt8} (h : Bld w l wr) : w.heap.size + 1 < wr.heap.size := by
  rcases h.1 with h | h <;> exact h.lt
theorem wlen {w wr : World} {l : List UInt8} (h : Bld w l wr) : Calls Tryz.prog 98 #[.pointer (some ⟨w.heap.size + 1, 0, none⟩)] wr fun e w' => e = .returned (.int .i64 (l.length : Int)) ∧ wr = w' := by
  refine (Tryz.Builder_Len _ _ _ _ h.1).mono ?_
  rintro e w' ⟨rfl, rfl⟩
  exact ⟨by rw [Lib.byteCells_length], rfl⟩
theorem wbyte {w wr : World} {l : List UInt8} (h : Bld w l wr) (hl : l.length < 1000) : Calls Tryz.prog 99 #[.pointer (some ⟨w.heap.size + 1, 0, none⟩), .int .u8 43] wr fun e w' => e = .returned .nilIface ∧ Bld w (l ++ [43]) w' := by
  have c := Any.Builder_WriteByte YtihccnfaibiiiaaGreatDoor.lays167 YtihccnfaibiiiaaGreatDoor.extra w.heap.size (w.heap.size + 1) (Lib.byteCells l) 43 wr h.1 (by rw [Lib.byteCells_length]; omega) (by have := h.lt; omega)
  refine Calls.mono (f := 99) c ?_
  rintro e w' ⟨rfl, h1, h2⟩
  exact ⟨rfl, .inr (by rw [Lib.byteCells_append]; exact h1), h.2.trans h2⟩
theorem wstr {w wr : World} {l s : List UInt8} (h : Bld w l wr) (hl : l.length < 1000) (hs : s.length < 1000) : Calls Tryz.prog 100 #[.pointer (some ⟨w.heap.size + 1, 0, none⟩), str s] wr fun e w' => e = .returned (.tuple #[.int .i64 (s.length : Int), .nilIface]) ∧ Bld w (l ++ s) w' := by
  have hsz : ByteArray.size ⟨s.toArray⟩ = s.length := by simp [ByteArray.size]
  have c := Any.Builder_WriteString YtihccnfaibiiiaaGreatDoor.lays166 YtihccnfaibiiiaaGreatDoor.extra w.heap.size (w.heap.size + 1) (Lib.byteCells l) ⟨s.toArray⟩ wr h.1 (by rw [Lib.byteCells_length, hsz]; omega) (by have := h.lt; omega)
  refine Calls.mono (f := 100) c ?_
  rintro e w' ⟨rfl, h1, h2⟩
  exact ⟨by rw [hsz], .inr (by rw [Lib.byteCells_append]; exact h1), h.2.trans h2⟩
theorem wterm {M : Int} {w wr : World} {l : List UInt8} (inv : Inv (Sg1 M) (baseRen (Sg1 M).length) (Sg1 M) w) (h : Bld w l wr) (n : Int) (h1 : -9223372036854775807 ≤ n) (h2 : n ≤ 9223372036854775807) (u : List UInt8) (hu : u = [] ∨ u = [119] ∨ u = [119, 50] ∨ u = [119, 51]) :
    Calls Tryz.prog 101 #[.int .i64 n, str u] wr fun e w' => e = .returned (str (termL n u)) ∧ Bld w l w' := by
  refine (print94 M n (by omega) h2 u hu wr (inv_below inv h.2)).mono ?_
  rintro e w' ⟨rfl, hb⟩
  exact ⟨rfl, isBuilder_below h.1 hb, h.2.trans (hb.mono h.2.size)⟩
theorem wend {w wr : World} {l : List UInt8} (h : Bld w l wr) : Calls Tryz.prog 102 #[.pointer (some ⟨w.heap.size + 1, 0, none⟩)] wr fun e w' => e = .returned (str l) ∧ Below w.heap.size w w' := by
  refine (Tryz.Builder_String_any _ _ l _ h.1 (by have := h.lt; omega)).mono ?_
  rintro e w' ⟨rfl, h1⟩
  exact ⟨rfl, h.2.trans h1⟩
end Go.Proofs.YtihccnfaibiiiaaGreatDoor.R
/- Ring: the text of a number's terms. -/
namespace Go.Proofs.YtihccnfaibiiiaaGreatDoor.R
open Go Go.Proofs.XX.Vm Go.Proofs.XX.Rm Go.RowKit
set_option maxRecDepth 100000

def accA (x : N) : Nat → List UInt8
  | 0 => []
  | 1 => addT [] x.a []
  | 2 => addT (addT [] x.a []) x.b [119]
  | 3 => addT (addT (addT [] x.a []) x.b [119]) x.c [119, 50]
  | _ => printA x
theorem accA_len (x : N) (hx : x.In 9223372036854775807) : ∀ k, (accA x k).length < 200 := by
  have a1 := addT_len [] x.a (by have := hx.a1; omega) hx.a2 [] (by decide)
  have a2 := addT_len (addT [] x.a []) x.b (by have := hx.b1; omega) hx.b2 [119] (by decide)
  have a3 := addT_len (addT (addT [] x.a []) x.b [119]) x.c (by have := hx.c1; omega) hx.c2 [119, 50] (by decide)
  have a4 := addT_len (addT (addT (addT [] x.a []) x.b [119]) x.c [119, 50]) x.d (by have := hx.d1; omega) hx.d2 [119, 51] (by decide)
  intro k
  match k with
  | 0 => simp [accA]
  | 1 => simp only [accA]; simp only [List.length_nil] at a1; omega
  | 2 => simp only [accA]; simp only [List.length_nil] at a1; omega
  | 3 => simp only [accA]; simp only [List.length_nil] at a1; omega
  | n + 4 => simp only [accA, printA]; simp only [List.length_nil] at a1; omega
theorem addT_zero (l : List UInt8) (n : Int) (u : List UInt8) (h : (n == 0) = true) : addT l n u = l := by unfold addT; rw [h]; rfl
theorem addT_plus (l : List UInt8) (n : Int) (u : List UInt8) (h : (n == 0) = false) (h1 : decide (0 < n) = true) (h2 : decide (0 < l.length) = true) : addT l n u = l ++ [43] ++ termL n u := by unfold addT; rw [h, h1, h2]; rfl
theorem addT_bare (l : List UInt8) (n : Int) (u : List UInt8) (h : (n == 0) = false) (h1 : (decide (0 < n) && decide (0 < l.length)) = false) : addT l n u = l ++ termL n u := by unfold addT; rw [h, h1]; rfl
theorem fresh_bld (w : World) (o : Obj) : Bld w [] ((w.alloc o).alloc (.cells #[.pointer none, .slice none 0 0] 89)) := by
  have h := Lib.fresh_isBuilder 89 5 (w.alloc o)
  have hs : (w.alloc o).heap.size = w.heap.size + 1 := by simp
  rw [hs] at h
  refine ⟨?_, ((Below.refl _ w).alloc (Nat.le_refl _) _).alloc (by simp) _⟩
  rcases h with ⟨h1, h2⟩ | ⟨h1, h2⟩
  · obtain ⟨v, h3, h4, h5⟩ := h2
    exact .inl ⟨by omega, v, h3, ⟨h4.1, h4.2.imp id (fun ⟨g, cap, cur, e1, e2, e3⟩ => ⟨g, cap, cur, e1, by omega, e3⟩)⟩, h5⟩
  · obtain ⟨v, h3, h4, h5⟩ := h2
    exact .inr ⟨by omega, v, h3, ⟨h4.1, h4.2.imp id (fun ⟨g, cap, cur, e1, e2, e3⟩ => ⟨g, cap, cur, e1, by omega, e3⟩)⟩, h5⟩

set_option maxHeartbeats 8000000 in
theorem print60 (M : Int) (x : N) (hx : x.In 9223372036854775807) (w : World) (inv : Inv (Sg1 M) (baseRen (Sg1 M).length) (Sg1 M) w) :
    Calls Tryz.prog 75 #[.agg #[.int .i64 x.a, .int .i64 x.b, .int .i64 x.c, .int .i64 x.d]] w fun e w' => e = .returned (str (printC x)) ∧ Below w.heap.size w w' := by
  have hz : 2 < w.heap.size := inv.ok.good.low 2 2 (by unfold baseRen; rw [if_pos (by simp)])
  have hix0 : ∀ W, (Instr.index 59 (.agg #[.int .i64 x.a, .int .i64 x.b, .int .i64 x.c, .int .i64 x.d]) (.int .i64 0)).run Tryz.prog W = .ok (.int .i64 x.a) W := fun W => pureSem_run (by kernel_rfl) W
  have hix1 : ∀ W, (Instr.index 59 (.agg #[.int .i64 x.a, .int .i64 x.b, .int .i64 x.c, .int .i64 x.d]) (.int .i64 1)).run Tryz.prog W = .ok (.int .i64 x.b) W := fun W => pureSem_run (by kernel_rfl) W
  have hix2 : ∀ W, (Instr.index 59 (.agg #[.int .i64 x.a, .int .i64 x.b, .int .i64 x.c, .int .i64 x.d]) (.int .i64 2)).run Tryz.prog W = .ok (.int .i64 x.c) W := fun W => pureSem_run (by kernel_rfl) W
  have hix3 : ∀ W, (Instr.index 59 (.agg #[.int .i64 x.a, .int .i64 x.b, .int .i64 x.c, .int .i64 x.d]) (.int .i64 3)).run Tryz.prog W = .ok (.int .i64 x.d) W := fun W => pureSem_run (by kernel_rfl) W
  go_enter Tryz.func75, Tryz.ntmps75
  go_wp2
  go_loopw [7] (fun i wr => ∃ k : Nat, k ≤ 4 ∧ i = .int .i64 k ∧ Bld w (accA x k) wr) (fun i _ => 4 - (intOf i).toNat)
  case atStart => exact ⟨0, by omega, rfl, fresh_bld w _⟩
  case round =>
    obtain ⟨k, hk, rfl, hB⟩ := hrel
    have hL := accA_len x hx k
    have hlt := hB.lt
    have hcu := fun wr (hb : Below w.heap.size w wr) => cellUnit (inv_below inv hb)
    have hk5 : k = 0 ∨ k = 1 ∨ k = 2 ∨ k = 3 ∨ k = 4 := by omega
    rcases hk5 with rfl | rfl | rfl | rfl | rfl
    · have hr : -9223372036854775807 ≤ x.a ∧ x.a ≤ 9223372036854775807 := ⟨by have := hx.a1; omega, hx.a2⟩
      have htl := termL_len x.a (by omega) hr.2 [] (by decide)
      by_cases h0 : x.a = 0
      · have h0' : (x.a == 0) = true := by simpa using h0
        have hn : accA x 1 = accA x 0 := addT_zero _ _ _ h0'
        clear h0 hcu htl hr
        have HB : Bld w (accA x 1) wr := by rw [hn]; exact hB
        clear hB hn
        go_wp2
        go_roundw
        case rel => exact ⟨1, by omega, rfl, HB⟩
        case measure => simp [intOf]
      · have h0' : (x.a == 0) = false := by simpa using h0
        clear h0
        by_cases hp : 0 < x.a
        · by_cases hq : 0 < (accA x 0).length
          · have HN := Lib.hid (addT_plus (accA x 0) x.a [] h0' (by simpa using hp) (by simpa using hq))
            go_wp2_with (go_at_call 98; refine (wlen hB).mono ?_; rintro e w1 ⟨rfl, rfl⟩)
            refine (wbyte hB (by omega)).mono ?_
            rintro e w1 ⟨rfl, h1⟩
            have hl1 : ((accA x 0) ++ [43]).length < 300 := by simp; omega
            have hcell := (hcu w1 h1.2).1
            go_wp2_with (go_at_call 101; refine (wterm inv h1 x.a hr.1 hr.2 [] (by simp)).mono ?_; rintro e w2 ⟨rfl, h2⟩)
            go_wp2_with (go_at_call 100; refine (wstr h2 (by omega) (by omega)).mono ?_; rintro e w3 ⟨rfl, h3⟩)
            have HB : Bld w (accA x 1) w3 := by rw [show accA x 1 = _ from HN.out]; exact h3
            clear h2 h3
            go_wp2
            go_roundw
            case rel => exact ⟨1, by omega, rfl, HB⟩
            case measure => simp [intOf]
          · have HN := Lib.hid (addT_bare (accA x 0) x.a [] h0' (by rw [decide_eq_false hq, Bool.and_false]))
            have hq' : ¬ (0 : Int) < ((accA x 0).length : Int) := by omega
            have hcell := (hcu wr hB.2).1
            go_wp2_with (go_at_call 98; refine (wlen hB).mono ?_; rintro e w1 ⟨rfl, rfl⟩)
            go_wp2_with (go_at_call 101; refine (wterm inv hB x.a hr.1 hr.2 [] (by simp)).mono ?_; rintro e w2 ⟨rfl, h2⟩)
            go_wp2_with (go_at_call 100; refine (wstr h2 (by omega) (by omega)).mono ?_; rintro e w3 ⟨rfl, h3⟩)
            have HB : Bld w (accA x 1) w3 := by rw [show accA x 1 = _ from HN.out]; exact h3
            clear h2 h3
            go_wp2
            go_roundw
            case rel => exact ⟨1, by omega, rfl, HB⟩
            case measure => simp [intOf]
        · have HN := Lib.hid (addT_bare (accA x 0) x.a [] h0' (by rw [decide_eq_false hp, Bool.false_and]))
          have hcell := (hcu wr hB.2).1
          go_wp2_with (go_at_call 101; refine (wterm inv hB x.a hr.1 hr.2 [] (by simp)).mono ?_; rintro e w2 ⟨rfl, h2⟩)
          go_wp2_with (go_at_call 100; refine (wstr h2 (by omega) (by omega)).mono ?_; rintro e w3 ⟨rfl, h3⟩)
          have HB : Bld w (accA x 1) w3 := by rw [show accA x 1 = _ from HN.out]; exact h3
          clear h2 h3
          go_wp2
          go_roundw
          case rel => exact ⟨1, by omega, rfl, HB⟩
          case measure => simp [intOf]
    · have hr : -9223372036854775807 ≤ x.b ∧ x.b ≤ 9223372036854775807 := ⟨by have := hx.b1; omega, hx.b2⟩
      have htl := termL_len x.b (by omega) hr.2 [119] (by decide)
      by_cases h0 : x.b = 0
      · have h0' : (x.b == 0) = true := by simpa using h0
        have hn : accA x 2 = accA x 1 := addT_zero _ _ _ h0'
        clear h0 hcu htl hr
        have HB : Bld w (accA x 2) wr := by rw [hn]; exact hB
        clear hB hn
        go_wp2
        go_roundw
        case rel => exact ⟨2, by omega, rfl, HB⟩
        case measure => simp [intOf]
      · have h0' : (x.b == 0) = false := by simpa using h0
        clear h0
        by_cases hp : 0 < x.b
        · by_cases hq : 0 < (accA x 1).length
          · have HN := Lib.hid (addT_plus (accA x 1) x.b [119] h0' (by simpa using hp) (by simpa using hq))
            go_wp2_with (go_at_call 98; refine (wlen hB).mono ?_; rintro e w1 ⟨rfl, rfl⟩)
            refine (wbyte hB (by omega)).mono ?_
            rintro e w1 ⟨rfl, h1⟩
            have hl1 : ((accA x 1) ++ [43]).length < 300 := by simp; omega
            have hcell := (hcu w1 h1.2).2.1
            go_wp2_with (go_at_call 101; refine (wterm inv h1 x.b hr.1 hr.2 [119] (by simp)).mono ?_; rintro e w2 ⟨rfl, h2⟩)
            go_wp2_with (go_at_call 100; refine (wstr h2 (by omega) (by omega)).mono ?_; rintro e w3 ⟨rfl, h3⟩)
            have HB : Bld w (accA x 2) w3 := by rw [show accA x 2 = _ from HN.out]; exact h3
            clear h2 h3
            go_wp2
            go_roundw
            case rel => exact ⟨2, by omega, rfl, HB⟩
            case measure => simp [intOf]
          · have HN := Lib.hid (addT_bare (accA x 1) x.b [119] h0' (by rw [decide_eq_false hq, Bool.and_false]))
            have hq' : ¬ (0 : Int) < ((accA x 1).length : Int) := by omega
            have hcell := (hcu wr hB.2).2.1
            go_wp2_with (go_at_call 98; refine (wlen hB).mono ?_; rintro e w1 ⟨rfl, rfl⟩)
            go_wp2_with (go_at_call 101; refine (wterm inv hB x.b hr.1 hr.2 [119] (by simp)).mono ?_; rintro e w2 ⟨rfl, h2⟩)
            go_wp2_with (go_at_call 100; refine (wstr h2 (by omega) (by omega)).mono ?_; rintro e w3 ⟨rfl, h3⟩)
            have HB : Bld w (accA x 2) w3 := by rw [show accA x 2 = _ from HN.out]; exact h3
            clear h2 h3
            go_wp2
            go_roundw
            case rel => exact ⟨2, by omega, rfl, HB⟩
            case measure => simp [intOf]
        · have HN := Lib.hid (addT_bare (accA x 1) x.b [119] h0' (by rw [decide_eq_false hp, Bool.false_and]))
          have hcell := (hcu wr hB.2).2.1
          go_wp2_with (go_at_call 101; refine (wterm inv hB x.b hr.1 hr.2 [119] (by simp)).mono ?_; rintro e w2 ⟨rfl, h2⟩)
          go_wp2_with (go_at_call 100; refine (wstr h2 (by omega) (by omega)).mono ?_; rintro e w3 ⟨rfl, h3⟩)
          have HB : Bld w (accA x 2) w3 := by rw [show accA x 2 = _ from HN.out]; exact h3
          clear h2 h3
          go_wp2
          go_roundw
          case rel => exact ⟨2, by omega, rfl, HB⟩
          case measure => simp [intOf]
    · have hr : -9223372036854775807 ≤ x.c ∧ x.c ≤ 9223372036854775807 := ⟨by have := hx.c1; omega, hx.c2⟩
      have htl := termL_len x.c (by omega) hr.2 [119, 50] (by decide)
      by_cases h0 : x.c = 0
      · have h0' : (x.c == 0) = true := by simpa using h0
        have hn : accA x 3 = accA x 2 := addT_zero _ _ _ h0'
        clear h0 hcu htl hr
        have HB : Bld w (accA x 3) wr := by rw [hn]; exact hB
        clear hB hn
        go_wp2
        go_roundw
        case rel => exact ⟨3, by omega, rfl, HB⟩
        case measure => simp [intOf]
      · have h0' : (x.c == 0) = false := by simpa using h0
        clear h0
        by_cases hp : 0 < x.c
        · by_cases hq : 0 < (accA x 2).length
          · have HN := Lib.hid (addT_plus (accA x 2) x.c [119, 50] h0' (by simpa using hp) (by simpa using hq))
            go_wp2_with (go_at_call 98; refine (wlen hB).mono ?_; rintro e w1 ⟨rfl, rfl⟩)
            refine (wbyte hB (by omega)).mono ?_
            rintro e w1 ⟨rfl, h1⟩
            have hl1 : ((accA x 2) ++ [43]).length < 300 := by simp; omega
            have hcell := (hcu w1 h1.2).2.2.1
            go_wp2_with (go_at_call 101; refine (wterm inv h1 x.c hr.1 hr.2 [119, 50] (by simp)).mono ?_; rintro e w2 ⟨rfl, h2⟩)
            go_wp2_with (go_at_call 100; refine (wstr h2 (by omega) (by omega)).mono ?_; rintro e w3 ⟨rfl, h3⟩)
            have HB : Bld w (accA x 3) w3 := by rw [show accA x 3 = _ from HN.out]; exact h3
            clear h2 h3
            go_wp2
            go_roundw
            case rel => exact ⟨3, by omega, rfl, HB⟩
            case measure => simp [intOf]
          · have HN := Lib.hid (addT_bare (accA x 2) x.c [119, 50] h0' (by rw [decide_eq_false hq, Bool.and_false]))
            have hq' : ¬ (0 : Int) < ((accA x 2).length : Int) := by omega
            have hcell := (hcu wr hB.2).2.2.1
            go_wp2_with (go_at_call 98; refine (wlen hB).mono ?_; rintro e w1 ⟨rfl, rfl⟩)
            go_wp2_with (go_at_call 101; refine (wterm inv hB x.c hr.1 hr.2 [119, 50] (by simp)).mono ?_; rintro e w2 ⟨rfl, h2⟩)
            go_wp2_with (go_at_call 100; refine (wstr h2 (by omega) (by omega)).mono ?_; rintro e w3 ⟨rfl, h3⟩)
            have HB : Bld w (accA x 3) w3 := by rw [show accA x 3 = _ from HN.out]; exact h3
            clear h2 h3
            go_wp2
            go_roundw
            case rel => exact ⟨3, by omega, rfl, HB⟩
            case measure => simp [intOf]
        · have HN := Lib.hid (addT_bare (accA x 2) x.c [119, 50] h0' (by rw [decide_eq_false hp, Bool.false_and]))
          have hcell := (hcu wr hB.2).2.2.1
          go_wp2_with (go_at_call 101; refine (wterm inv hB x.c hr.1 hr.2 [119, 50] (by simp)).mono ?_; rintro e w2 ⟨rfl, h2⟩)
          go_wp2_with (go_at_call 100; refine (wstr h2 (by omega) (by omega)).mono ?_; rintro e w3 ⟨rfl, h3⟩)
          have HB : Bld w (accA x 3) w3 := by rw [show accA x 3 = _ from HN.out]; exact h3
          clear h2 h3
          go_wp2
          go_roundw
          case rel => exact ⟨3, by omega, rfl, HB⟩
          case measure => simp [intOf]
    · have hr : -9223372036854775807 ≤ x.d ∧ x.d ≤ 9223372036854775807 := ⟨by have := hx.d1; omega, hx.d2⟩
      have htl := termL_len x.d (by omega) hr.2 [119, 51] (by decide)
      by_cases h0 : x.d = 0
      · have h0' : (x.d == 0) = true := by simpa using h0
        have hn : accA x 4 = accA x 3 := addT_zero _ _ _ h0'
        clear h0 hcu htl hr
        have HB : Bld w (accA x 4) wr := by rw [hn]; exact hB
        clear hB hn
        go_wp2
        go_roundw
        case rel => exact ⟨4, by omega, rfl, HB⟩
        case measure => simp [intOf]
      · have h0' : (x.d == 0) = false := by simpa using h0
        clear h0
        by_cases hp : 0 < x.d
        · by_cases hq : 0 < (accA x 3).length
          · have HN := Lib.hid (addT_plus (accA x 3) x.d [119, 51] h0' (by simpa using hp) (by simpa using hq))
            go_wp2_with (go_at_call 98; refine (wlen hB).mono ?_; rintro e w1 ⟨rfl, rfl⟩)
            refine (wbyte hB (by omega)).mono ?_
            rintro e w1 ⟨rfl, h1⟩
            have hl1 : ((accA x 3) ++ [43]).length < 300 := by simp; omega
            have hcell := (hcu w1 h1.2).2.2.2
            go_wp2_with (go_at_call 101; refine (wterm inv h1 x.d hr.1 hr.2 [119, 51] (by simp)).mono ?_; rintro e w2 ⟨rfl, h2⟩)
            go_wp2_with (go_at_call 100; refine (wstr h2 (by omega) (by omega)).mono ?_; rintro e w3 ⟨rfl, h3⟩)
            have HB : Bld w (accA x 4) w3 := by rw [show accA x 4 = _ from HN.out]; exact h3
            clear h2 h3
            go_wp2
            go_roundw
            case rel => exact ⟨4, by omega, rfl, HB⟩
            case measure => simp [intOf]
          · have HN := Lib.hid (addT_bare (accA x 3) x.d [119, 51] h0' (by rw [decide_eq_false hq, Bool.and_false]))
            have hq' : ¬ (0 : Int) < ((accA x 3).length : Int) := by omega
            have hcell := (hcu wr hB.2).2.2.2
            go_wp2_with (go_at_call 98; refine (wlen hB).mono ?_; rintro e w1 ⟨rfl, rfl⟩)
            go_wp2_with (go_at_call 101; refine (wterm inv hB x.d hr.1 hr.2 [119, 51] (by simp)).mono ?_; rintro e w2 ⟨rfl, h2⟩)
            go_wp2_with (go_at_call 100; refine (wstr h2 (by omega) (by omega)).mono ?_; rintro e w3 ⟨rfl, h3⟩)
            have HB : Bld w (accA x 4) w3 := by rw [show accA x 4 = _ from HN.out]; exact h3
            clear h2 h3
            go_wp2
            go_roundw
            case rel => exact ⟨4, by omega, rfl, HB⟩
            case measure => simp [intOf]
        · have HN := Lib.hid (addT_bare (accA x 3) x.d [119, 51] h0' (by rw [decide_eq_false hp, Bool.false_and]))
          have hcell := (hcu wr hB.2).2.2.2
          go_wp2_with (go_at_call 101; refine (wterm inv hB x.d hr.1 hr.2 [119, 51] (by simp)).mono ?_; rintro e w2 ⟨rfl, h2⟩)
          go_wp2_with (go_at_call 100; refine (wstr h2 (by omega) (by omega)).mono ?_; rintro e w3 ⟨rfl, h3⟩)
          have HB : Bld w (accA x 4) w3 := by rw [show accA x 4 = _ from HN.out]; exact h3
          clear h2 h3
          go_wp2
          go_roundw
          case rel => exact ⟨4, by omega, rfl, HB⟩
          case measure => simp [intOf]
    · have HB : Bld w (printA x) wr := hB
      have hb1 := hB.2
      clear hB hL
      by_cases hq : (printA x).length = 0
      · have hq' : ((printA x).length == 0) = true := by simpa using hq
        have hq2 : (((printA x).length : Int) == 0) = true := by simpa using hq
        have HC := Lib.hid (show printC x = [48] by unfold printC; rw [hq']; rfl)
        clear hq hq'
        go_wp2_with (go_at_call 98; refine (wlen HB).mono ?_; rintro e w1 ⟨rfl, rfl⟩)
        go_ret
        exact ⟨by rw [show printC x = _ from HC.out]; rfl, hb1⟩
      · have hq' : ((printA x).length == 0) = false := by simpa using hq
        have hq2 : (((printA x).length : Int) == 0) = false := by simp; simpa using hq
        have HC := Lib.hid (show printC x = printA x by unfold printC; rw [hq']; rfl)
        clear hq hq'
        go_wp2_with (first | (go_at_call 98; refine (wlen HB).mono ?_; rintro e w1 ⟨rfl, rfl⟩) | (go_at_call 102; refine (wend HB).mono ?_; rintro e w1 ⟨rfl, h1⟩))
        go_ret
        exact ⟨by rw [show printC x = _ from HC.out]; rfl, h1⟩
end Go.Proofs.YtihccnfaibiiiaaGreatDoor.R
/- Ring: awake is true. -/
namespace Go.Proofs.YtihccnfaibiiiaaGreatDoor.R
open Go Go.Proofs.XX.Vm Go.Proofs.XX.Rm Go.RowKit
set_option maxRecDepth 100000

def asC : Value → Option N
  | .agg x => match x.toList with
    | [.int .i64 a, .int .i64 b, .int .i64 c, .int .i64 d] => some ⟨a, b, c, d, 0⟩
    | _ => none
  | _ => none
theorem asC_eq {v : Value} {x : N} (h : asC v = some x) : v = N.cv x := by
  unfold asC at h
  split at h
  · rename_i y
    split at h
    · rename_i a b c d e
      cases h
      cases y
      simp only at e
      subst e
      rfl
    · cases h
  · cases h
def symB (n : Int) : Bool := decide (-9223372036854775807 ≤ n) && decide (n ≤ 9223372036854775807)
theorem symB_iff {n : Int} (h : symB n = true) : -9223372036854775807 ≤ n ∧ n ≤ 9223372036854775807 := by
  simpa [symB] using h
def cPrt : Con := ⟨75, fun args => match args with
  | [v] => match asC v with
    | some x => some (.ite (symB x.a && symB x.b && symB x.c && symB x.d) (.val (str (printC x))) .no)
    | none => none
  | _ => none⟩
theorem cPrt_ok (M : Int) : ConOk M cPrt := by
  intro args t v h hv w inv
  simp only [cPrt] at h
  split at h
  · rename_i u
    split at h
    · rename_i x hx
      rw [asC_eq hx]
      cases h
      obtain ⟨h, rfl⟩ := OT.pre hv
      simp only [Bool.and_eq_true] at h
      obtain ⟨⟨⟨h1, h2⟩, h3⟩, h4⟩ := h
      have a := symB_iff h1; have b := symB_iff h2; have c := symB_iff h3; have d := symB_iff h4
      exact print60 M x ⟨by omega, a.2, by omega, b.2, by omega, c.2, by omega, d.2⟩ w inv
    · cases h
  · cases h
/-- The least form of a number at work, by tests. -/
def cLst : Con := con1 84 fun x => .ite (i64B x.k) (.ite (z0 x) (.val (resV (O, 0))) (.ite (rgB (endW x)) (.ite (inB (endW x)) (.val (resV (endW x, 0))) (.val (resV (O, 8)))) (.val (resV (O, 8))))) .no
theorem cLst_ok (M : Int) : ConOk M cLst := con1_ok (L1_ok M) fun x v h => by
  simp only [OT.get] at h
  cases hi : i64B x.k with
  | false => rw [hi] at h; cases h
  | true =>
    obtain ⟨h1, h2⟩ := i64B_iff hi
    have e := e46 M x h1 h2
    have : v = resV (leastW x) := by
      unfold leastW
      rw [hi] at h
      cases a : z0 x <;> cases b : rgB (endW x) <;> cases c : inB (endW x) <;> rw [a, b, c] at h <;> cases h <;> rfl
    rw [this]; exact e
abbrev LA : List Con := [cChk, cLst, cPrt, cItoa, cPre, cHas, cCut]
theorem LA_ok (M : Int) : ∀ c ∈ LA, ConOk M c := by
  intro c hc
  simp only [LA, List.mem_cons, List.not_mem_nil, or_false] at hc
  rcases hc with rfl | rfl | rfl | rfl | rfl | rfl | rfl
  · exact cChk_ok M
  · exact cLst_ok M
  · exact cPrt_ok M
  · exact cItoa_ok M
  · exact cPre_ok M
  · exact cHas_ok M
  · exact cCut_ok M
def num (a b c d k : Int) : Value := N.v ⟨a, b, c, d, k⟩
def nume (a b c d k e : Int) : Value := resV (⟨a, b, c, d, k⟩, e)
noncomputable def rn (M : Int) := runK Tryz.prog (orcL LA) (Sg1 M) 1000
theorem r10 (M : Int) : run Tryz.prog (orcOf (orcL LA)) (Sg1 M) 1000 36 [num 0 0 1 0 0, num 0 (-1) 0 0 0] = some (.tuple #[.int .i64 5, .int .i64 0]) := by kernel_rfl
theorem r13 (M : Int) : run Tryz.prog (orcOf (orcL LA)) (Sg1 M) 1000 29 [.int .i64 7] = some (num 0 0 0 (-1) 0) := by kernel_rfl
/-- Two calls with ranges over a function, at the chapter's inputs. -/
def cOm : Con := ⟨29, fun args => match args with
  | [.int .i64 n] => some (.ite (n == 7) (.val (num 0 0 0 (-1) 0)) .no)
  | _ => none⟩
theorem cOm_ok (M : Int) : ConOk M cOm := by
  intro args t v h hv w inv
  simp only [cOm] at h
  split at h
  · rename_i n
    cases h
    obtain ⟨h, rfl⟩ := OT.pre hv
    have : n = 7 := by simpa using h
    subst this
    exact run_calls (sg1 M) (orcOk_of (LA_ok M)) (r13 M) rfl inv
  · cases h
def is5 (x : N) (a b c d k : Int) : Bool := x.a == a && x.b == b && x.c == c && x.d == d && x.k == k
theorem is5_eq {x : N} {a b c d k : Int} (h : is5 x a b c d k = true) : N.v x = num a b c d k := by
  simp only [is5, Bool.and_eq_true, beq_iff_eq] at h
  obtain ⟨⟨⟨⟨rfl, rfl⟩, rfl⟩, rfl⟩, rfl⟩ := h
  rfl
def cPh : Con := ⟨36, fun args => match args with
  | [u, v] => match asN u, asN v with
    | some x, some y => some (.ite (is5 x 0 0 1 0 0 && is5 y 0 (-1) 0 0 0) (.val (.tuple #[.int .i64 5, .int .i64 0])) .no)
    | _, _ => none
  | _ => none⟩
theorem cPh_ok (M : Int) : ConOk M cPh := by
  intro args t v h hv w inv
  simp only [cPh] at h
  split at h
  · rename_i u t2
    split at h
    · rename_i x y hx hy
      cases h
      obtain ⟨hn, rfl⟩ := OT.pre hv
      simp only [Bool.and_eq_true] at hn
      rw [asN_eq hx, asN_eq hy, is5_eq hn.1, is5_eq hn.2]
      exact run_calls (sg1 M) (orcOk_of (LA_ok M)) (r10 M) rfl inv
    · cases h
  · cases h
abbrev LW : List Con := [cOm, cPh, cChk, cLst, cPrt, cItoa, cPre, cHas, cCut]
theorem LW_ok (M : Int) : ∀ c ∈ LW, ConOk M c := by
  intro c hc
  rcases List.mem_cons.1 hc with rfl | hc
  · exact cOm_ok M
  rcases List.mem_cons.1 hc with rfl | hc
  · exact cPh_ok M
  · exact LA_ok M c hc
theorem awake1 (M : Int) : runK Tryz.prog (orcL LW) (Sg1 M) 1000 14 [] = some (.bool true) := by kernel_rfl
def cAwk : Con := ⟨14, fun args => match args with
  | [] => some (.val (.bool true))
  | _ => none⟩
theorem cAwk_ok (M : Int) : ConOk M cAwk := by
  intro args t v h hv w inv
  simp only [cAwk] at h
  split at h
  · cases h
    cases hv
    exact runK_calls (sg1 M) (orcOk_of (LW_ok M)) (awake1 M) rfl inv
  · cases h
end Go.Proofs.YtihccnfaibiiiaaGreatDoor.R
/- Ring: the specification's least form. -/
namespace Go.Proofs.YtihccnfaibiiiaaGreatDoor.R
open Go Go.Proofs.XX.Vm Go.Proofs.XX.Rm Go.RowKit
set_option maxRecDepth 100000


/-- The specification's Check. -/
def G : Int := 1073741824
theorem t18 (M : Int) (m : Nat) (x : N) : runK Tryz.prog (orcL []) (Sg1 M) (m + 60) 57 [N.v x] =
    bif decide (x.k < 0) then some (.int .i64 3) else bif decide (x.k > 60) then some (.int .i64 3) else
    bif decide (x.a > 1073741824) then some (.int .i64 8) else bif decide (x.a < -1073741824) then some (.int .i64 8) else
    bif decide (x.b > 1073741824) then some (.int .i64 8) else bif decide (x.b < -1073741824) then some (.int .i64 8) else
    bif decide (x.c > 1073741824) then some (.int .i64 8) else bif decide (x.c < -1073741824) then some (.int .i64 8) else
    bif decide (x.d > 1073741824) then some (.int .i64 8) else bif decide (x.d < -1073741824) then some (.int .i64 8) else some (.int .i64 0) := by kernel_rfl
def and1 (n : Int) : Int := IntKind.i64.wrap ((BitVec.ofInt 64 n &&& BitVec.ofInt 64 1).toNat : Int)
theorem t54 (M : Int) (m : Nat) (x : N) : runK Tryz.prog (orcL []) (Sg1 M) (m + 60) 80 [N.v x] =
    bif and1 x.a == and1 x.c then some (.bool (and1 x.b == and1 x.d)) else some (.bool false) := by kernel_rfl
def hfR (x : N) : N := ⟨w (x.b.fdiv 2 - x.d.fdiv 2), w (w (x.a.fdiv 2 + x.c.fdiv 2) + and1 x.a), w (w (x.b.fdiv 2 + x.d.fdiv 2) + and1 x.b), w (x.c.fdiv 2 - x.a.fdiv 2), x.k⟩
theorem t56 (M : Int) (m : Nat) (x : N) : runK Tryz.prog (orcL []) (Sg1 M) (m + 60) 81 [N.v x] = some (N.v (hfR x)) := by kernel_rfl
theorem t51 (M : Int) (m : Nat) (x : N) : runK Tryz.prog (orcL []) (Sg1 M) (m + 60) 79 [N.v x] =
    bif x.a == 0 then (bif x.b == 0 then (bif x.c == 0 then some (.bool (x.d == 0)) else some (.bool false)) else some (.bool false)) else some (.bool false) := by kernel_rfl

/-- What within says, in inequalities. -/
theorem within_iff (a b c d l : Int) (h0 : 0 ≤ l) (h1 : l ≤ 9223372036854775807) : withinB a b c d l = true ↔ -l ≤ a ∧ a ≤ l ∧ -l ≤ b ∧ b ≤ l ∧ -l ≤ c ∧ c ≤ l ∧ -l ≤ d ∧ d ≤ l := by
  have hw : IntKind.i64.wrap (0 - l) = -l := by rw [IntKind.wrap_i64]; omega
  simp only [withinB, hw, Bool.and_eq_true, beq_iff_eq, Bool.and_true, mn, mx]
  omega
def inG (x : N) : Prop := -1073741824 ≤ x.a ∧ x.a ≤ 1073741824 ∧ -1073741824 ≤ x.b ∧ x.b ≤ 1073741824 ∧ -1073741824 ≤ x.c ∧ x.c ≤ 1073741824 ∧ -1073741824 ≤ x.d ∧ x.d ≤ 1073741824
theorem chk_cases (x : N) : (x.k < 0 ∧ chkI x = 3) ∨ (60 < x.k ∧ chkI x = 3) ∨ (0 ≤ x.k ∧ x.k ≤ 60 ∧ ¬ inG x ∧ chkI x = 8) ∨ (0 ≤ x.k ∧ x.k ≤ 60 ∧ inG x ∧ chkI x = 0) := by
  have hw := within_iff x.a x.b x.c x.d 1073741824 (by omega) (by omega)
  unfold chkI inG
  by_cases h1 : x.k < 0
  · left; simp [h1]
  · by_cases h2 : x.k > 60
    · right; left; simp [h1, h2]
    · cases hb : withinB x.a x.b x.c x.d 1073741824 with
      | true =>
        right; right; right
        refine ⟨by omega, by omega, hw.1 hb, ?_⟩
        simp [h1, h2]
      | false =>
        right; right; left
        refine ⟨by omega, by omega, fun h => ?_, ?_⟩
        · rw [hw.2 h] at hb; cases hb
        · simp [h1, h2]
theorem e18 (M : Int) (x : N) : EvF Tryz.prog (orcL []) (Sg1 M) 57 [N.v x] (.int .i64 (chkI x)) := by
  refine EvF.of_eq 60 fun m => ?_
  rw [t18]
  rcases chk_cases x with ⟨h, e⟩ | ⟨h, e⟩ | ⟨h1, h2, h3, e⟩ | ⟨h1, h2, h3, e⟩
  · rw [e, decide_eq_true h]; rfl
  · rw [e, decide_eq_false (by omega), decide_eq_true h]; rfl
  · rw [e, decide_eq_false (show ¬ x.k < 0 by omega), decide_eq_false (show ¬ x.k > 60 by omega)]
    simp only [cond_false]
    by_cases g1 : x.a > 1073741824
    · rw [decide_eq_true g1]; rfl
    rw [decide_eq_false g1]
    by_cases g2 : x.a < -1073741824
    · rw [decide_eq_true g2]; rfl
    rw [decide_eq_false g2]
    by_cases g3 : x.b > 1073741824
    · rw [decide_eq_true g3]; rfl
    rw [decide_eq_false g3]
    by_cases g4 : x.b < -1073741824
    · rw [decide_eq_true g4]; rfl
    rw [decide_eq_false g4]
    by_cases g5 : x.c > 1073741824
    · rw [decide_eq_true g5]; rfl
    rw [decide_eq_false g5]
    by_cases g6 : x.c < -1073741824
    · rw [decide_eq_true g6]; rfl
    rw [decide_eq_false g6]
    by_cases g7 : x.d > 1073741824
    · rw [decide_eq_true g7]; rfl
    rw [decide_eq_false g7]
    by_cases g8 : x.d < -1073741824
    · rw [decide_eq_true g8]; rfl
    exact absurd ⟨by omega, by omega, by omega, by omega, by omega, by omega, by omega, by omega⟩ h3
  · obtain ⟨g1, g2, g3, g4, g5, g6, g7, g8⟩ := h3
    rw [e, decide_eq_false (show ¬ x.k < 0 by omega), decide_eq_false (show ¬ x.k > 60 by omega), decide_eq_false (show ¬ x.a > 1073741824 by omega), decide_eq_false (show ¬ x.a < -1073741824 by omega), decide_eq_false (show ¬ x.b > 1073741824 by omega), decide_eq_false (show ¬ x.b < -1073741824 by omega), decide_eq_false (show ¬ x.c > 1073741824 by omega), decide_eq_false (show ¬ x.c < -1073741824 by omega), decide_eq_false (show ¬ x.d > 1073741824 by omega), decide_eq_false (show ¬ x.d < -1073741824 by omega)]; rfl
def cChkR : Con := con1 57 fun x => .ite (rgB x) (.ite (inB x) (.val (.int .i64 0)) (.val (.int .i64 8))) (.val (.int .i64 3))
theorem cChkR_ok (M : Int) : ConOk M cChkR := con1_ok nil_ok fun x v h => by
  have e := chkI_eq x
  simp only [OT.get] at h
  have h2 : v = .int .i64 (chkI x) := by
    rw [e]
    cases h1 : rgB x <;> cases h3 : inB x <;> rw [h1, h3] at h <;> cases h <;> rfl
  rw [h2]
  exact e18 M x

/-- Halves. -/
def evR (x : N) : Bool := (and1 x.a == and1 x.c) && (and1 x.b == and1 x.d)
theorem e54 (M : Int) (x : N) : EvF Tryz.prog (orcL []) (Sg1 M) 80 [N.v x] (.bool (evR x)) :=
  EvF.of_eq 60 fun m => by rw [t54]; unfold evR; cases and1 x.a == and1 x.c <;> rfl
def cEvn : Con := con1 80 fun x => .val (.bool (evR x))
theorem cEvn_ok (M : Int) : ConOk M cEvn := con1_ok nil_ok fun x v h => by cases h; exact e54 M x
def cHlv : Con := con1 81 fun x => .val (N.v (hfR x))
theorem cHlv_ok (M : Int) : ConOk M cHlv := con1_ok nil_ok fun x v h => by cases h; exact EvF.of_eq 60 fun m => t56 M m x
theorem e51 (M : Int) (x : N) : EvF Tryz.prog (orcL []) (Sg1 M) 79 [N.v x] (.bool x.zero) :=
  EvF.of_eq 60 fun m => by rw [t51]; unfold N.zero; cases x.a == 0 <;> cases x.b == 0 <;> cases x.c == 0 <;> rfl
def cZer : Con := con1 79 fun x => .val (.bool x.zero)
theorem cZer_ok (M : Int) : ConOk M cZer := con1_ok nil_ok fun x v h => by cases h; exact e51 M x
theorem and1_eq (n : Int) : and1 n = n % 2 := by
  unfold and1
  have h1 : (BitVec.ofInt 64 n &&& BitVec.ofInt 64 1).toNat = (BitVec.ofInt 64 n).toNat % 2 := by
    rw [BitVec.toNat_and]
    rw [show (BitVec.ofInt 64 1).toNat = 1 from rfl, Nat.and_one_is_mod]
  rw [h1, BitVec.toNat_ofInt, IntKind.wrap_i64]
  omega
theorem evR_eq (x : N) : evR x = x.even := by
  rw [Bool.eq_iff_iff, N.even_iff]
  simp only [evR, and1_eq, Bool.and_eq_true, beq_iff_eq]
  omega
/-- A round of the specification's. -/
def dnR (x : N) : N := { hfR x with k := w (x.k - 1) }
theorem dnR_eq {x : N} (h : x.In 9223372036854775807) (he : x.even = true) (h1 : -9223372036854775807 ≤ x.k) (h2 : x.k ≤ 9223372036854775807) : dnR x = x.dn := by
  rw [N.even_iff] at he
  obtain ⟨a1, a2, b1, b2, c1, c2, d1, d2⟩ := h
  have f : ∀ n : Int, n.fdiv 2 = n / 2 := fun n => by rw [Int.fdiv_eq_ediv_of_nonneg _ (by omega)]
  unfold dnR hfR
  simp only [f, and1_eq]
  have e1 : w (x.b / 2 - x.d / 2) = (x.b - x.d) / 2 := by rw [w_eq _ (by omega) (by omega)]; omega
  have e2 : w (w (x.a / 2 + x.c / 2) + x.a % 2) = (x.a + x.c) / 2 := by rw [w_eq (x.a / 2 + x.c / 2) (by omega) (by omega), w_eq _ (by omega) (by omega)]; omega
  have e3 : w (w (x.b / 2 + x.d / 2) + x.b % 2) = (x.b + x.d) / 2 := by rw [w_eq (x.b / 2 + x.d / 2) (by omega) (by omega), w_eq _ (by omega) (by omega)]; omega
  have e4 : w (x.c / 2 - x.a / 2) = (x.c - x.a) / 2 := by rw [w_eq _ (by omega) (by omega)]; omega
  have e5 : w (x.k - 1) = x.k - 1 := w_eq _ (by omega) (by omega)
  ext
  · exact e1
  · exact e2
  · exact e3
  · exact e4
  · exact e5
end Go.Proofs.YtihccnfaibiiiaaGreatDoor.R
/- Ring: the specification's least form, whole. -/
namespace Go.Proofs.YtihccnfaibiiiaaGreatDoor.R
open Go Go.Proofs.XX.Vm Go.Proofs.XX.Rm Go.RowKit
set_option maxRecDepth 100000

abbrev LR : List Con := [cEvn, cHlv, cZer]
theorem LR_ok (M : Int) : ∀ c ∈ LR, ConOk M c := mem_cons_ok (cEvn_ok M) (mem_cons_ok (cHlv_ok M) (mem_cons_ok (cZer_ok M) nil_ok))
noncomputable abbrev q43 (i : Nat) : Code := nthC (pcs Tryz.prog 42) i
noncomputable abbrev B43 : Code := loopOf Tryz.prog 42 0
theorem L43_eq : pcs Tryz.prog 42 = [q43 0, q43 1, q43 2, .block 0 (.loop B43), q43 4, q43 5] := by kernel_rfl
theorem head43 {α : Type} (M : Int) (fs : Nat → Nat) (x : N) (l : List Code) (k : Kont α) :
    evP Tryz.prog (orcL LR) (Sg1 M) 3 fs 0 (q43 0 :: q43 1 :: q43 2 :: l) (N.v x :: List.replicate 19 undef) (Sg1 M) k =
    bif x.zero then k .ret [N.v x, p1, p2, N.v x, .bool true, N.v O, undef, undef, undef, undef, undef, undef, undef, undef, undef, undef, undef, undef, undef, undef] [uni, pow, mxl M, rb x, rb O]
    else evP Tryz.prog (orcL LR) (Sg1 M) 3 fs 3 l [N.v x, p1, p2, N.v x, .bool false, undef, undef, undef, undef, undef, undef, undef, undef, undef, undef, undef, undef, undef, undef, undef] [uni, pow, mxl M, rb x, rb O] k := by kernel_rfl
theorem round43 {α : Type} (M : Int) (n : Nat) (x y : N) (R : Blk) (v3 v4 v5 v6 v7 v8 v9 v10 v11 v12 v13 v14 v15 v16 v17 v18 v19 : Value) (k : Kont α) :
    evCodeK Tryz.prog (orcL LR) (Sg1 M) (n + 60) 3 B43 [N.v x, p1, p2, v3, v4, v5, v6, v7, v8, v9, v10, v11, v12, v13, v14, v15, v16, v17, v18, v19] [uni, pow, mxl M, rb y, R] k =
    bif decide (y.k > 0) then (bif evR y then k .normal [N.v x, p1, p2, v3, v4, v5, p14, (.int .i64 y.k), (.bool (decide (y.k > 0))), (.bool true), (N.v y), (.bool (evR y)), (.bool true), (N.v y), (N.v (hfR y)), p14, (.int .i64 y.k), (.int .i64 (w (y.k - 1))), p14, v19] [uni, pow, mxl M, rb (dnR y), R] else k (.exit 0) [N.v x, p1, p2, v3, v4, v5, p14, (.int .i64 y.k), (.bool (decide (y.k > 0))), (.bool true), (N.v y), (.bool (evR y)), (.bool false), v13, v14, v15, v16, v17, v18, v19] [uni, pow, mxl M, rb y, R])
    else k (.exit 0) [N.v x, p1, p2, v3, v4, v5, p14, (.int .i64 y.k), (.bool (decide (y.k > 0))), (.bool false), undef, undef, (.bool false), v13, v14, v15, v16, v17, v18, v19] [uni, pow, mxl M, rb y, R] := by kernel_rfl
theorem tail43 {α : Type} (M : Int) (fs : Nat → Nat) (x y R : N) (v3 v4 v5 v6 v7 v8 v9 v10 v11 v12 v13 v14 v15 v16 v17 v18 v19 : Value) (k : Kont α) :
    evP Tryz.prog (orcL LR) (Sg1 M) 3 fs 4 [q43 4, q43 5] [N.v x, p1, p2, v3, v4, v5, v6, v7, v8, v9, v10, v11, v12, v13, v14, v15, v16, v17, v18, v19] [uni, pow, mxl M, rb y, rb R] k =
    k .ret [N.v x, p1, p2, v3, v4, v5, v6, v7, v8, v9, v10, v11, v12, v13, v14, v15, v16, v17, v18, (N.v y)] [uni, pow, mxl M, rb y, rb y] := by kernel_rfl
def symN (x : N) : Bool := symB x.a && symB x.b && symB x.c && symB x.d && decide (x.k ≤ 9223372036854775807)
theorem symN_iff {x : N} (h : symN x = true) : x.In 9223372036854775807 ∧ x.k ≤ 9223372036854775807 := by
  simp only [symN, Bool.and_eq_true, decide_eq_true_eq] at h
  obtain ⟨⟨⟨⟨h1, h2⟩, h3⟩, h4⟩, h5⟩ := h
  have a := symB_iff h1; have b := symB_iff h2; have c := symB_iff h3; have d := symB_iff h4
  exact ⟨⟨by omega, a.2, by omega, b.2, by omega, c.2, by omega, d.2⟩, h5⟩
theorem loop43 (M : Int) (x : N) (h1 : x.In 9223372036854775807) (h2 : x.k ≤ 9223372036854775807) (L : List Value) (hL : L.length = 17) :
    Ev Tryz.prog (orcL LR) (Sg1 M) Value 3 (.loop B43) (N.v x :: p1 :: p2 :: L) [uni, pow, mxl M, rb x, rb O] fun e T S => e = .exit 0 ∧ (∃ L : List Value, L.length = 17 ∧ T = N.v x :: p1 :: p2 :: L) ∧ S = [uni, pow, mxl M, rb (x.nfL x.k.toNat), rb O] := by
  refine Ev.loop (fun m T S => ∃ (L : List Value) (y : N), L.length = 17 ∧ T = N.v x :: p1 :: p2 :: L ∧ S = [uni, pow, mxl M, rb y, rb O] ∧ m = y.k.toNat ∧ y.nfL m = x.nfL x.k.toNat ∧ y.In 9223372036854775807 ∧ y.k ≤ 9223372036854775807) ?_ x.k.toNat _ _ ⟨L, x, hL, rfl, rfl, rfl, rfl, h1, h2⟩
  rintro m T S ⟨L, y, hL, rfl, rfl, rfl, hm, h1, h2⟩
  match L, hL with
  | [v3, v4, v5, v6, v7, v8, v9, v10, v11, v12, v13, v14, v15, v16, v17, v18, v19], _ =>
  by_cases hk : y.k > 0
  · obtain ⟨n, hn⟩ : ∃ n, y.k.toNat = n + 1 := ⟨y.k.toNat - 1, by omega⟩
    rw [hn] at hm ⊢
    cases he : y.even with
    | true =>
      have hg : y.goes = true := by rw [N.goes_iff]; exact ⟨hk, he⟩
      simp only [N.nfL, hg, cond_true] at hm
      have hd := dnR_eq h1 he (by omega) h2
      refine Ev.of_eq 60 (fun n k => (round43 M n x y _ v3 v4 v5 v6 v7 v8 v9 v10 v11 v12 v13 v14 v15 v16 v17 v18 v19 k).trans ((condT (decide_eq_true hk)).trans (condT (by rw [evR_eq, he])))) ?_
      refine ⟨n, Nat.lt_succ_self n, _, y.dn, rfl, rfl, by rw [hd], ?_, hm, h1.dn', ?_⟩
      · simp only [N.dn]; omega
      · simp only [N.dn]; omega
    | false =>
      have hg : y.goes = false := by rw [Bool.eq_false_iff, ne_eq, N.goes_iff, he]; simp
      rw [N.nfL_stop hg] at hm
      refine Ev.of_eq 60 (fun n k => (round43 M n x y _ v3 v4 v5 v6 v7 v8 v9 v10 v11 v12 v13 v14 v15 v16 v17 v18 v19 k).trans ((condT (decide_eq_true hk)).trans (condF (by rw [evR_eq, he])))) ?_
      exact ⟨rfl, ⟨_, rfl, rfl⟩, by rw [hm]⟩
  · have hg : y.goes = false := by rw [Bool.eq_false_iff, ne_eq, N.goes_iff]; omega
    rw [N.nfL_stop hg] at hm
    refine Ev.of_eq 60 (fun n k => (round43 M n x y _ v3 v4 v5 v6 v7 v8 v9 v10 v11 v12 v13 v14 v15 v16 v17 v18 v19 k).trans (condF (decide_eq_false hk))) ?_
    exact ⟨rfl, ⟨_, rfl, rfl⟩, by rw [hm]⟩
theorem tmps43 (x : N) : tmps0Of Tryz.prog 42 [N.v x] = N.v x :: List.replicate 19 undef := by kernel_rfl
theorem out43 (x y : N) (L : List Value) (b0 b1 b2 b3 : Blk) : outOf Tryz.prog 42 (N.v x :: p1 :: p2 :: L) [b0, b1, b2, b3, rb y] = some (N.v y) := by kernel_rfl
theorem e43 (M : Int) (x : N) (h : symN x = true) : EvF Tryz.prog (orcL LR) (Sg1 M) 42 [N.v x] (N.v x.nf) := by
  obtain ⟨h1, h2⟩ := symN_iff h
  refine EvF.of_body rfl ?_
  rw [tmps43]
  show Ev Tryz.prog (orcL LR) (Sg1 M) Value 3 _ _ _ _
  refine Ev.of_pieces ?_
  rw [show flatC (bodyOf Tryz.prog 42) = _ from L43_eq]
  cases hz : x.zero with
  | true =>
    refine EvP.stop (fun fs k => (head43 M fs x _ k).trans (condT hz)) ⟨trivial, ?_⟩
    rw [N.nf_of_zero hz]
    exact out43 x O _ _ _ _ _
  | false =>
    refine EvP.run (fun fs k => (head43 M fs x _ k).trans (condF hz)) ?_
    refine EvP.step (Ev.block ((loop43 M x h1 h2 _ rfl).mono ?_))
    rintro e T S ⟨rfl, ⟨L, hL, rfl⟩, rfl⟩
    match L, hL with
    | [v3, v4, v5, v6, v7, v8, v9, v10, v11, v12, v13, v14, v15, v16, v17, v18, v19], _ =>
    refine EvP.stop (fun fs k => tail43 M fs x _ _ v3 v4 v5 v6 v7 v8 v9 v10 v11 v12 v13 v14 v15 v16 v17 v18 v19 k) ⟨trivial, ?_⟩
    have e : x.nf = x.nfL x.k.toNat := by unfold N.nf; rw [hz]; rfl
    rw [e]
    exact out43 x _ _ _ _ _ _
def cFrm : Con := con1 42 fun x => .ite (symN x) (.val (N.v x.nf)) .no
theorem cFrm_ok (M : Int) : ConOk M cFrm := con1_ok (LR_ok M) fun x v h => by
  obtain ⟨h2, rfl⟩ := OT.pre h
  exact e43 M x h2
end Go.Proofs.YtihccnfaibiiiaaGreatDoor.R
