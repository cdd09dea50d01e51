/- Affine: what every card asks: the variables' cells, a world for the witness. -/
import Derived.Test.YtnmgahhceliphaaGreatDoorAa
import Derived.Test.YtnmgahhceliphaaGreatDoorCards
import Derived.Test.YtnmgahhceliphaaGreatDoorTie
import Derived.WalkKit
import Derived.ProofKit
import Derived.OpenShut
import Derived.Deep.DeepHandedRow
import Derived.Lib.LaidTab
import Derived.Lib.SmallJoins
import Derived.Laws.IdiomArrays
namespace Go.Proofs.YtnmgahhceliphaaGreatDoor
open Go Go.Proofs.XX.Vm Go.RowKit Go.ChangeShapes Go.WideShapes Go.ChangeAt Go.Joins Go.Deep Go.Proofs.YtnmgahhceliphaaGreatDoor.A
set_option maxRecDepth 100000

theorem own : ownKnob Tryz.prog.godebug = none := by kernel_rfl
abbrev laids : List (String × DataW Unit) := [("spoondrift/circ.axes", Rows.laid_spoondrift_circ_axes)]
theorem rowSize {W : World} (sh : W.ShapedOpen Tryz.prog) (g : Nat) (t : TypeId) (n : Nat) (hg : g < Tryz.prog.globals.size) (h : ((((begin Tryz.prog (fun _ _ => 0) default).world.heap[g]?).bind Obj.row?).map fun p => (p.2, p.1.size)) = some (t, n)) (hbu : Tryz.prog.buildable t = true) : ∃ cs, W.heap[g]? = some (.cells cs t) ∧ cs.size = n ∧ Row.ok Tryz.prog W .any 0 t cs := by
  cases hr : ((begin Tryz.prog (fun _ _ => 0) default).world.heap[g]?).bind Obj.row? with
  | none => rw [hr] at h; cases h
  | some p =>
    rw [hr] at h
    obtain ⟨z, t'⟩ := p
    simp only [Option.map_some, Option.some.injEq, Prod.mk.injEq] at h
    obtain ⟨rfl, rfl⟩ := h
    obtain ⟨cs, h1, h2, h3⟩ := sh.1 g z _ hg hr
    exact ⟨cs, h1, h2, h3 hbu⟩
/-- Nothing that there was has turned, and the input holds no memory. -/
theorem post_num {H : Type} {enc : TypeId × Value → H} {P : Program} {f : Func} {s : ChangeSpec} {apart fresh handsOn again : Bool} {W W' : World} {args : Array Value} {v : Value} {ds gs : List (DataW H)}
    (hW : DataW.Whole enc P f.params.toList s.vars apart W args.toList ds gs [])
    (hres : ∀ (b : Nat) (sp : Nat → Bool) (hd : Bool), DataW.TrodAll enc P W' b sp hd f.resultTypes.toList (v.resultList f.resultTypes.size) (s.fn H (ds ++ gs)).results [])
    (hargs : ∀ sp : Nat → Bool, DataW.TrodAll enc P W' 0 sp true f.params.toList args.toList (s.fn H (ds ++ gs)).args [])
    (hvars : ∀ sp : Nat → Bool, DataW.TrodVars enc P W' sp s.vars (s.fn H (ds ++ gs)).vars [])
    (hb : Below W.heap.size W W')
    (hok : ∀ (j : Nat) (t : TypeId) (r : Value), f.resultTypes[j]? = some t → (v.resultList f.resultTypes.size)[j]? = some r → Value.okWide P W' .any 0 t r) :
    s.post enc P f apart fresh handsOn again W args v W' := by
  refine ⟨ds, gs, [], [], [], [], hW, hres _ _ _, hargs _, hvars _, World.keptBut_mono (fun p hp => by cases hp) (hb.frame (· ∈ ([] : List MemPlace))), fun _ => ?_⟩
  refine ⟨hok, _, _, [], ⟨[], [], trodAll_append (hargs _) (hres _ _ _), hvars _, rfl, fun b off hp => (by cases hp), fun _ => List.nodup_nil⟩, fun p hp _ => (by cases hp)⟩
/-- An array of strings that reads as the table holds the table's strings, cell for cell. -/
theorem cells_of_strs {H : Type} {enc : TypeId × Value → H} {P : Program} {w : World} {base : Nat} {sp : Nat → Bool} {held : Bool} {fuel : Nat} {t e : TypeId} {n : Nat} {cs : List Value} {zs : List (List UInt8)} {p : List MemPlace}
    (ht : P.underlying t = some (.array n e)) (he : P.underlying e = some .string) (hce : P.cellsOf e = 1) (hct : P.cellsOf t = n)
    (h : DataW.trod enc P w base sp held fuel t cs = some (.agg (zs.map fun z => .lit (.string z)), p)) : cs = zs.map fun z => Value.string ⟨z.toArray⟩ := by
  cases fuel with
  | zero => simp [DataW.trod] at h
  | succ fuel =>
    simp only [DataW.trod, ht, hce, hct, Nat.mul_one] at h
    split at h
    · rename_i hl
      obtain ⟨xs, hm, hx⟩ := Option.map_eq_some_iff.1 h
      have hxs : xs.map (·.1) = zs.map fun z => (DataW.lit (.string z) : DataW H) := by
        have := congrArg Prod.fst hx
        simpa using this
      have hxl : xs.length = n := by simpa using Lib.mapM_length hm
      have hzl : zs.length = n := by
        have := congrArg List.length hxs
        simp at this
        omega
      apply List.ext_getElem?
      intro i
      by_cases hi : i < n
      · obtain ⟨b, hb, hf⟩ := Lib.mapM_at hm i i (by simp [hi])
        obtain ⟨z, hc, rfl, _⟩ := DataW.trod_string he hf
        have h1 : cs[i]? = some (.string z) := by
          have := congrArg (·[0]?) hc
          simpa [List.getElem?_take, List.getElem?_drop] using this
        have h2 : (xs.map (·.1))[i]? = some (DataW.lit (.string z.data.toList) : DataW H) := by simp [hb]
        rw [hxs] at h2
        simp only [List.getElem?_map, Option.map_eq_some_iff, DataW.lit.injEq, Lit.string.injEq] at h2
        obtain ⟨z', hz', hz2⟩ := h2
        simp [h1, hz', hz2]
      · rw [List.getElem?_eq_none (by omega), List.getElem?_eq_none (by simp; omega)]
    · cases h
/-- The variables' cells, as the row's list has them. -/
theorem laidCells {W : World} (h : laidMetH Tryz.prog laids W) : W.var? Tryz.prog "spoondrift/circ.axes" = some kAx.cells.toArray := by
  obtain ⟨ps, hl, -⟩ := h
  obtain ⟨g1, t1, cs1, f1, p1, q1, a1, b1, c1, d1, hl, e1⟩ := hl
  obtain rfl : g1 = 1 := Option.some.inj (a1.symm.trans (by kernel_rfl))
  obtain rfl : t1 = 229 := Option.some.inj (b1.symm.trans (by kernel_rfl))
  have k1 := cells_of_strs (zs := axL) Tryz.underlying229 Tryz.underlying9 (by kernel_rfl) (by kernel_rfl) (d1.trans (by rfl))
  exact c1.trans (congrArg some (Array.ext' (k1.trans (by rfl))))
theorem invOf {W : World} (h : laidMetH Tryz.prog laids W) (sh : W.ShapedOpen Tryz.prog) : Inv SgA (baseRen SgA.length) SgA W := by
  have h1 := laidCells h
  obtain ⟨c0, e0, _, _⟩ := rowSize sh 0 22 1 (by decide +kernel) (by kernel_rfl) (by kernel_rfl)
  obtain ⟨c1, e1, _, _⟩ := rowSize sh 1 229 15 (by decide +kernel) (by kernel_rfl) (by kernel_rfl)
  have v1 : c1 = kAx.cells.toArray := by
    unfold World.var? at h1
    rw [show Tryz.prog.globalNamed "spoondrift/circ.axes" = some 1 by kernel_rfl] at h1
    simp only [Option.bind_some, e1] at h1
    exact Option.some.inj h1
  subst v1
  have two : ∀ b r, baseRen SgA.length b = some r → r = b ∧ b < 2 := by
    intro b r hb
    simp only [baseRen] at hb
    split at hb
    · rename_i hlt; cases hb; exact ⟨rfl, by simpa using hlt⟩
    · cases hb
  refine ⟨⟨⟨fun b k r hb hr => ?_, fun b r hb => ?_, fun b c r hb hc => ?_, fun r _ => rfl, fun b k r hb hr => ?_⟩, fun g hg => by simp only [baseRen, hg, if_true]⟩, fun g _ => rfl, Nat.le_refl _⟩
  · obtain ⟨rfl, h2⟩ := two b r hr
    have rel : ∀ cs : List Value, cs.all plain = true → LRel (baseRen SgA.length) cs (cs.toArray.toList.take cs.length) := fun cs hcs => by simpa using plains_refl hcs
    match r, h2 with
    | 0, _ => cases hb; exact ⟨_, e0, _, _, rfl, LRel.nil _, fun _ => rfl, fun h => (by cases h)⟩
    | 1, _ => cases hb; exact ⟨_, e1, _, _, rfl, rel _ (by decide), fun h => (by cases h), fun _ => rfl⟩
  · obtain ⟨rfl, h2⟩ := two b r hb
    match r, h2 with
    | 0, _ => exact (Array.getElem?_eq_some_iff.1 e0).1
    | 1, _ => exact (Array.getElem?_eq_some_iff.1 e1).1
  · obtain ⟨h2, _⟩ := two b r hb
    obtain ⟨h3, _⟩ := two c r hc
    exact .inl (by omega)
  · obtain ⟨rfl, h2⟩ := two b r hr
    match r, h2 with
    | 0, _ => cases hb; exact (rfl : (baseRen SgA.length).cap 0 = 0)
    | 1, _ => cases hb; exact (rfl : (baseRen SgA.length).cap 1 = 0)
/-- A world for the witnesses: the variables hold what their initialisers lay. -/
def litV : DataW Unit → Value
  | .lit (.int k n) => .int k n
  | .lit (.string l) => .string ⟨l.toArray⟩
  | _ => undef
def cellsOfD : DataW Unit → Array Value
  | .agg l => (l.map litV).toArray
  | _ => #[]
def layAt (g : Nat) (d : DataW Unit) (h : Array Obj) : Array Obj := h.modify g fun
  | .cells _ t frozen => .cells (cellsOfD d) t frozen
  | o => o
noncomputable def laidWorld (os : Os) : World :=
  { World.holding Tryz.prog os ⟨#[], #[], []⟩ with heap := layAt 1 Rows.laid_spoondrift_circ_axes (World.holding Tryz.prog os ⟨#[], #[], []⟩).heap }
end Go.Proofs.YtnmgahhceliphaaGreatDoor
