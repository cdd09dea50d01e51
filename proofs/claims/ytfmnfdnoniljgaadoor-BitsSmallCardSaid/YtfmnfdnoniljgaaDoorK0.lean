/- Bits: what every card asks: the variables' cells, a world for the witness. -/
import Derived.Test.YtfmnfdnoniljgaaDoorBa
import Derived.Test.YtfmnfdnoniljgaaDoorCards
import Derived.Test.YtfmnfdnoniljgaaDoorTie
import Derived.WalkKit
import Derived.ProofKit
import Derived.OpenShut
import Derived.Deep.DeepHandedRow
import Derived.Lib.LaidTab
import Derived.Lib.SmallJoins
import Derived.Laws.IdiomArrays
namespace Go.Proofs.YtfmnfdnoniljgaaDoor
open Go Go.Proofs.XX.Vm Go.RowKit Go.ChangeShapes Go.WideShapes Go.ChangeAt Go.Joins Go.Deep Go.Proofs.YtfmnfdnoniljgaaDoor.B
set_option maxRecDepth 100000

theorem own : ownKnob Tryd.prog.godebug = none := by kernel_rfl
abbrev laids : List (String × DataW Unit) := [("math/bits.deBruijn32tab", Rows.laid_math_bits_deBruijn32tab), ("math/bits.deBruijn64tab", Rows.laid_math_bits_deBruijn64tab)]
theorem rowSize {W : World} (sh : W.ShapedOpen Tryd.prog) (g : Nat) (t : TypeId) (n : Nat) (hg : g < Tryd.prog.globals.size) (h : ((((begin Tryd.prog (fun _ _ => 0) default).world.heap[g]?).bind Obj.row?).map fun p => (p.2, p.1.size)) = some (t, n)) (hbu : Tryd.prog.buildable t = true) : ∃ cs, W.heap[g]? = some (.cells cs t) ∧ cs.size = n ∧ Row.ok Tryd.prog W .any 0 t cs := by
  cases hr : ((begin Tryd.prog (fun _ _ => 0) default).world.heap[g]?).bind Obj.row? with
  | none => rw [hr] at h; cases h
  | some p =>
    rw [hr] at h
    obtain ⟨z, t'⟩ := p
    simp only [Option.map_some, Option.some.injEq, Prod.mk.injEq] at h
    obtain ⟨rfl, rfl⟩ := h
    obtain ⟨cs, h1, h2, h3⟩ := sh.1 g z _ hg hr
    exact ⟨cs, h1, h2, h3 hbu⟩
/-- Nothing that there was has turned, and the input holds no memory. -/
theorem post_num {H : Type} {enc : TypeId × Value → H} {P : Program} {f : Func} {s : ChangeSpec} {apart fresh handsOn again : Bool} {W W' : World} {args : Array Value} {v : Value} {ds gs : List (DataW H)}
    (hW : DataW.Whole enc P f.params.toList s.vars apart W args.toList ds gs [])
    (hres : ∀ (b : Nat) (sp : Nat → Bool) (hd : Bool), DataW.TrodAll enc P W' b sp hd f.resultTypes.toList (v.resultList f.resultTypes.size) (s.fn H (ds ++ gs)).results [])
    (hargs : ∀ sp : Nat → Bool, DataW.TrodAll enc P W' 0 sp true f.params.toList args.toList (s.fn H (ds ++ gs)).args [])
    (hvars : ∀ sp : Nat → Bool, DataW.TrodVars enc P W' sp s.vars (s.fn H (ds ++ gs)).vars [])
    (hb : Below W.heap.size W W')
    (hok : ∀ (j : Nat) (t : TypeId) (r : Value), f.resultTypes[j]? = some t → (v.resultList f.resultTypes.size)[j]? = some r → Value.okWide P W' .any 0 t r) :
    s.post enc P f apart fresh handsOn again W args v W' := by
  refine ⟨ds, gs, [], [], [], [], hW, hres _ _ _, hargs _, hvars _, World.keptBut_mono (fun p hp => by cases hp) (hb.frame (· ∈ ([] : List MemPlace))), fun _ => ?_⟩
  refine ⟨hok, _, _, [], ⟨[], [], trodAll_append (hargs _) (hres _ _ _), hvars _, rfl, fun b off hp => (by cases hp), fun _ => List.nodup_nil⟩, fun p hp _ => (by cases hp)⟩
/-- The variables' cells, as the row's list has them. -/
theorem laidCells {W : World} (h : laidMetH Tryd.prog laids W) : W.var? Tryd.prog "math/bits.deBruijn32tab" = some k32.cells.toArray ∧ W.var? Tryd.prog "math/bits.deBruijn64tab" = some k64.cells.toArray := by
  obtain ⟨ps, hl, -⟩ := h
  obtain ⟨g1, t1, cs1, f1, p1, q1, a1, b1, c1, d1, hl, e1⟩ := hl
  obtain ⟨g2, t2, cs2, f2, p2, q2, a2, b2, c2, d2, hl, e2⟩ := hl
  obtain rfl : g1 = 0 := Option.some.inj (a1.symm.trans (by kernel_rfl))
  obtain rfl : t1 = 117 := Option.some.inj (b1.symm.trans (by kernel_rfl))
  obtain rfl : g2 = 1 := Option.some.inj (a2.symm.trans (by kernel_rfl))
  obtain rfl : t2 = 118 := Option.some.inj (b2.symm.trans (by kernel_rfl))
  have hc8 : Tryd.prog.cellsOf 5 = 1 := by kernel_rfl
  have k1 := Lib.cells_of_tab (zs := tab32) (k := .u8) Tryd.underlying117 Tryd.underlying5 hc8 (by kernel_rfl) (d1.trans (by rfl))
  have k2 := Lib.cells_of_tab (zs := tab64) (k := .u8) Tryd.underlying118 Tryd.underlying5 hc8 (by kernel_rfl) (d2.trans (by rfl))
  exact ⟨c1.trans (congrArg some (Array.ext' (k1.trans (by rfl)))), c2.trans (congrArg some (Array.ext' (k2.trans (by rfl))))⟩
theorem invOf {W : World} (h : laidMetH Tryd.prog laids W) (sh : W.ShapedOpen Tryd.prog) : Inv SgB (baseRen SgB.length) SgB W := by
  obtain ⟨h0, h1⟩ := laidCells h
  obtain ⟨c0, e0, _, _⟩ := rowSize sh 0 117 32 (by decide +kernel) (by kernel_rfl) (by kernel_rfl)
  obtain ⟨c1, e1, _, _⟩ := rowSize sh 1 118 64 (by decide +kernel) (by kernel_rfl) (by kernel_rfl)
  have v0 : c0 = k32.cells.toArray := by
    unfold World.var? at h0
    rw [show Tryd.prog.globalNamed "math/bits.deBruijn32tab" = some 0 by kernel_rfl] at h0
    simp only [Option.bind_some, e0] at h0
    exact Option.some.inj h0
  have v1 : c1 = k64.cells.toArray := by
    unfold World.var? at h1
    rw [show Tryd.prog.globalNamed "math/bits.deBruijn64tab" = some 1 by kernel_rfl] at h1
    simp only [Option.bind_some, e1] at h1
    exact Option.some.inj h1
  subst v0 v1
  have two : ∀ b r, baseRen SgB.length b = some r → r = b ∧ b < 2 := by
    intro b r hb
    simp only [baseRen] at hb
    split at hb
    · rename_i hlt; cases hb; exact ⟨rfl, by simpa using hlt⟩
    · cases hb
  refine ⟨⟨⟨fun b k r hb hr => ?_, fun b r hb => ?_, fun b c r hb hc => ?_, fun r _ => rfl, fun b k r hb hr => ?_⟩, fun g hg => by simp only [baseRen, hg, if_true]⟩, fun g _ => rfl, Nat.le_refl _⟩
  · obtain ⟨rfl, h2⟩ := two b r hr
    have rel : ∀ cs : List Value, cs.all plain = true → LRel (baseRen SgB.length) cs (cs.toArray.toList.take cs.length) := fun cs hcs => by simpa using plains_refl hcs
    match r, h2 with
    | 0, _ => cases hb; exact ⟨_, e0, _, _, rfl, rel _ (by decide), fun h => (by cases h), fun _ => rfl⟩
    | 1, _ => cases hb; exact ⟨_, e1, _, _, rfl, rel _ (by decide), fun h => (by cases h), fun _ => rfl⟩
  · obtain ⟨rfl, h2⟩ := two b r hb
    match r, h2 with
    | 0, _ => exact (Array.getElem?_eq_some_iff.1 e0).1
    | 1, _ => exact (Array.getElem?_eq_some_iff.1 e1).1
  · obtain ⟨h2, _⟩ := two b r hb
    obtain ⟨h3, _⟩ := two c r hc
    exact .inl (by omega)
  · obtain ⟨rfl, h2⟩ := two b r hr
    match r, h2 with
    | 0, _ => cases hb; exact (rfl : (baseRen SgB.length).cap 0 = 0)
    | 1, _ => cases hb; exact (rfl : (baseRen SgB.length).cap 1 = 0)
/-- A world for the witnesses: the variables hold what their initialisers lay. -/
def litV : DataW Unit → Value
  | .lit (.int k n) => .int k n
  | .lit (.string l) => .string ⟨l.toArray⟩
  | _ => undef
def cellsOfD : DataW Unit → Array Value
  | .agg l => (l.map litV).toArray
  | _ => #[]
def layAt (g : Nat) (d : DataW Unit) (h : Array Obj) : Array Obj := h.modify g fun
  | .cells _ t frozen => .cells (cellsOfD d) t frozen
  | o => o
noncomputable def laidWorld (os : Os) : World :=
  { World.holding Tryd.prog os ⟨#[], #[], []⟩ with heap := layAt 0 Rows.laid_math_bits_deBruijn32tab (layAt 1 Rows.laid_math_bits_deBruijn64tab (World.holding Tryd.prog os ⟨#[], #[], []⟩).heap) }
end Go.Proofs.YtfmnfdnoniljgaaDoor
