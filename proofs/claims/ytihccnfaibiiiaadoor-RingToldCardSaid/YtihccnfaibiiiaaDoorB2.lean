/- Ring: the text of terms, through a Builder. -/
import Derived.Test.YtihccnfaibiiiaaDoorB1
import Derived.Test.YtihccnfaibiiiaaDoorChecked
import Derived.WalkKit
import Derived.BigCall
import Derived.Lib.ItoaLen
import Derived.Test.YtihccnfaibiiiaaDoorBl
namespace Go.Proofs.YtihccnfaibiiiaaDoor.R
open Go Go.Proofs.XX.Vm Go.Proofs.XX.Rm Go.RowKit
set_option maxRecDepth 100000

theorem print94 (M : Int) (n : Int) (h1 : -9223372036854775808 ≤ n) (h2 : n ≤ 9223372036854775807) (u : List UInt8) (hu : u = [] ∨ u = [119] ∨ u = [119, 50] ∨ u = [119, 51]) (w : World) (inv : Inv (Sg1 M) (baseRen (Sg1 M).length) (Sg1 M) w) :
    Calls Tryd.prog 94 #[.int .i64 n, str u] w fun e w' => e = .returned (str (termL n u)) ∧ Below w.heap.size w w' := by
  have hi : i64B n = true := by simp [i64B, h1, h2]
  have hl := Lib.itoa_length_le n h1 h2
  rw [← itoaS_eq h1 h2] at hl
  have sz : ∀ l : List UInt8, ByteArray.size ⟨l.toArray⟩ = l.length := fun l => by simp [ByteArray.size]
  have fit : ∀ l : List UInt8, l.length ≤ 5 → Nat.ble (ByteArray.size ⟨(itoaS n).toArray⟩ + ByteArray.size ⟨l.toArray⟩) 9223372036854775807 = true := fun l hl2 => by
    rw [sz, sz]; exact Nat.ble_eq_true_of_le (by omega)
  have key : EvF Tryd.prog (orcL LS) (Sg1 M) 94 [.int .i64 n, str u] (str (termL n u)) := by
    refine EvF.of_eq 60 fun m => ?_
    rcases hu with rfl | rfl | rfl | rfl
    · rw [t94a, hi, fit [] (by decide), bapp]; rfl
    · rw [t94b, hi, fit [119] (by decide), bapp, bapp]; unfold termL; cases n == 1 <;> cases n == -1 <;> rfl
    · rw [t94c, hi, fit [119, 50] (by decide), bapp, bapp]; unfold termL; cases n == 1 <;> cases n == -1 <;> rfl
    · rw [t94d, hi, fit [119, 51] (by decide), bapp, bapp]; unfold termL; cases n == 1 <;> cases n == -1 <;> rfl
  exact key.calls (sg1 M) (orcOk_of (LS_ok M)) rfl inv

def addT (acc : List UInt8) (n : Int) (u : List UInt8) : List UInt8 := bif n == 0 then acc else (bif decide (0 < n) && decide (0 < acc.length) then acc ++ [43] else acc) ++ termL n u
def printA (x : N) : List UInt8 := addT (addT (addT (addT [] x.a []) x.b [119]) x.c [119, 50]) x.d [119, 51]
def printC (x : N) : List UInt8 := bif (printA x).length == 0 then [48] else printA x
theorem termL_len (n : Int) (h1 : -9223372036854775808 ≤ n) (h2 : n ≤ 9223372036854775807) (u : List UInt8) (hu : u.length ≤ 2) : (termL n u).length ≤ 24 := by
  have := Lib.itoa_length_le n h1 h2
  rw [← itoaS_eq h1 h2] at this
  unfold termL
  cases (!u.isEmpty && n == 1)
  · cases (!u.isEmpty && n == -1)
    · simp; omega
    · simp; omega
  · simp; omega
theorem addT_len (acc : List UInt8) (n : Int) (h1 : -9223372036854775808 ≤ n) (h2 : n ≤ 9223372036854775807) (u : List UInt8) (hu : u.length ≤ 2) : (addT acc n u).length ≤ acc.length + 25 := by
  have := termL_len n h1 h2 u hu
  unfold addT
  cases n == 0
  · cases decide (0 < n) && decide (0 < acc.length)
    · simp; omega
    · simp; omega
  · simp

/-- A Builder that holds l, behind the box that the call has made. -/
def Bld (w : World) (l : List UInt8) (wr : World) : Prop := Lib.IsBuilder 109 5 w.heap.size (w.heap.size + 1) (Lib.byteCells l) wr ∧ Below w.heap.size w wr
theorem isBuilder_below {T e : TypeId} {B b : Nat} {bs : List Value} {w w' : World} (h : Lib.IsBuilder T e B b bs w) (hb : Below w.heap.size w w') : Lib.IsBuilder T e B b bs w' := by
  have go : ∀ p, Lib.BuilderAt T e B b p bs w → Lib.BuilderAt T e B b p bs w' := by
    rintro p ⟨h1, v, h2, h3, h4⟩
    have hlt : b < w.heap.size := (Array.getElem?_eq_some_iff.1 h2).1
    exact ⟨h1, v, by rw [hb.block b hlt]; exact h2, h3.kept (row := none) ⟨hb.os, hb.tape, hb.output, hb.size, fun j hj _ => hb.block j hj⟩ (by cases hv : v.ownBlock <;> simp), h4⟩
  exact h.elim (fun x => .inl (go _ x)) (fun x => .inr (go _ x))
theorem Bld.lt {w wr : World} {l : List UInt8} (h : Bld w l wr) : w.heap.size + 1 < wr.heap.size := by
  rcases h.1 with h | h <;> exact h.lt
theorem wlen {w wr : World} {l : List UInt8} (h : Bld w l wr) : Calls Tryd.prog 91 #[.pointer (some ⟨w.heap.size + 1, 0, none⟩)] wr fun e w' => e = .returned (.int .i64 (l.length : Int)) ∧ wr = w' := by
  refine (Tryd.Builder_Len _ _ _ _ h.1).mono ?_
  rintro e w' ⟨rfl, rfl⟩
  exact ⟨by rw [Lib.byteCells_length], rfl⟩
theorem wbyte {w wr : World} {l : List UInt8} (h : Bld w l wr) (hl : l.length < 1000) : Calls Tryd.prog 92 #[.pointer (some ⟨w.heap.size + 1, 0, none⟩), .int .u8 43] wr fun e w' => e = .returned .nilIface ∧ Bld w (l ++ [43]) w' := by
  have c := Any.Builder_WriteByte YtihccnfaibiiiaaDoor.lays167 YtihccnfaibiiiaaDoor.extra w.heap.size (w.heap.size + 1) (Lib.byteCells l) 43 wr h.1 (by rw [Lib.byteCells_length]; omega) (by have := h.lt; omega)
  refine Calls.mono (f := 92) c ?_
  rintro e w' ⟨rfl, h1, h2⟩
  exact ⟨rfl, .inr (by rw [Lib.byteCells_append]; exact h1), h.2.trans h2⟩
theorem wstr {w wr : World} {l s : List UInt8} (h : Bld w l wr) (hl : l.length < 1000) (hs : s.length < 1000) : Calls Tryd.prog 93 #[.pointer (some ⟨w.heap.size + 1, 0, none⟩), str s] wr fun e w' => e = .returned (.tuple #[.int .i64 (s.length : Int), .nilIface]) ∧ Bld w (l ++ s) w' := by
  have hsz : ByteArray.size ⟨s.toArray⟩ = s.length := by simp [ByteArray.size]
  have c := Any.Builder_WriteString YtihccnfaibiiiaaDoor.lays166 YtihccnfaibiiiaaDoor.extra w.heap.size (w.heap.size + 1) (Lib.byteCells l) ⟨s.toArray⟩ wr h.1 (by rw [Lib.byteCells_length, hsz]; omega) (by have := h.lt; omega)
  refine Calls.mono (f := 93) c ?_
  rintro e w' ⟨rfl, h1, h2⟩
  exact ⟨by rw [hsz], .inr (by rw [Lib.byteCells_append]; exact h1), h.2.trans h2⟩
theorem wterm {M : Int} {w wr : World} {l : List UInt8} (inv : Inv (Sg1 M) (baseRen (Sg1 M).length) (Sg1 M) w) (h : Bld w l wr) (n : Int) (h1 : -9223372036854775807 ≤ n) (h2 : n ≤ 9223372036854775807) (u : List UInt8) (hu : u = [] ∨ u = [119] ∨ u = [119, 50] ∨ u = [119, 51]) :
    Calls Tryd.prog 94 #[.int .i64 n, str u] wr fun e w' => e = .returned (str (termL n u)) ∧ Bld w l w' := by
  refine (print94 M n (by omega) h2 u hu wr (inv_below inv h.2)).mono ?_
  rintro e w' ⟨rfl, hb⟩
  exact ⟨rfl, isBuilder_below h.1 hb, h.2.trans (hb.mono h.2.size)⟩
theorem wend {w wr : World} {l : List UInt8} (h : Bld w l wr) : Calls Tryd.prog 95 #[.pointer (some ⟨w.heap.size + 1, 0, none⟩)] wr fun e w' => e = .returned (str l) ∧ Below w.heap.size w w' := by
  refine (Tryd.Builder_String_any _ _ l _ h.1 (by have := h.lt; omega)).mono ?_
  rintro e w' ⟨rfl, h1⟩
  exact ⟨rfl, h.2.trans h1⟩
end Go.Proofs.YtihccnfaibiiiaaDoor.R
