/- Ring: what every card asks: the variables' cells, numbers opened and shut, a world for the witness. -/
import Derived.Test.YtihccnfaibiiiaaDoorC4
import Derived.Test.YtihccnfaibiiiaaDoorCards
import Derived.Test.YtihccnfaibiiiaaDoorTie
import Derived.WalkKit
import Derived.ProofKit
import Derived.OpenShut
import Derived.Deep.DeepHandedRow
import Derived.Lib.LaidTab
import Derived.Lib.SmallJoins
import Derived.Laws.IdiomArrays
namespace Go.Proofs.YtihccnfaibiiiaaDoor
open Go Go.Proofs.XX.Vm Go.Proofs.XX.Rm Go.RowKit Go.ChangeShapes Go.WideShapes Go.ChangeAt Go.Joins Go.Deep Go.Proofs.YtihccnfaibiiiaaDoor.R
set_option maxRecDepth 100000

theorem own : ownKnob Tryd.prog.godebug = none := by kernel_rfl
abbrev laids : List (String × DataW Unit) := [("math/bits.deBruijn32tab", Rows.laid_math_bits_deBruijn32tab), ("math/bits.deBruijn64tab", Rows.laid_math_bits_deBruijn64tab), ("internal/strconv.uint64pow10", Rows.laid_internal_strconv_uint64pow10), ("spoondrift/ring.units", Rows.laid_spoondrift_ring_units)]
theorem rowSize {W : World} (sh : W.ShapedOpen Tryd.prog) (g : Nat) (t : TypeId) (n : Nat) (hg : g < Tryd.prog.globals.size) (h : ((((begin Tryd.prog (fun _ _ => 0) default).world.heap[g]?).bind Obj.row?).map fun p => (p.2, p.1.size)) = some (t, n)) (hbu : Tryd.prog.buildable t = true) : ∃ cs, W.heap[g]? = some (.cells cs t) ∧ cs.size = n ∧ Row.ok Tryd.prog W .any 0 t cs := by
  cases hr : ((begin Tryd.prog (fun _ _ => 0) default).world.heap[g]?).bind Obj.row? with
  | none => rw [hr] at h; cases h
  | some p =>
    rw [hr] at h
    obtain ⟨z, t'⟩ := p
    simp only [Option.map_some, Option.some.injEq, Prod.mk.injEq] at h
    obtain ⟨rfl, rfl⟩ := h
    obtain ⟨cs, h1, h2, h3⟩ := sh.1 g z _ hg hr
    exact ⟨cs, h1, h2, h3 hbu⟩
/-- The datum of a number. -/
def dN {H : Type} (x : N) : DataW H := .agg [.lit (.int .i64 x.a), .lit (.int .i64 x.b), .lit (.int .i64 x.c), .lit (.int .i64 x.d), .lit (.int .i64 x.k)]
def wfI (n : Int) : Bool := (Lit.int .i64 n).wf
def wfN (x : N) : Bool := wfI x.a && wfI x.b && wfI x.c && wfI x.d && wfI x.k
theorem shutN {H : Type} {enc : TypeId × Value → H} {W : World} {b : Nat} {sp : Nat → Bool} {hd : Bool} (x : N) (hx : wfN x = true) : DataW.Trod enc Tryd.prog W b sp hd 23 (N.v x) (dN x) [] := by
  simp only [wfN, Bool.and_eq_true] at hx
  obtain ⟨⟨⟨⟨h0, h1⟩, h2⟩, h3⟩, h4⟩ := hx
  refine ⟨2, ?_⟩
  have i := fun (n : Int) (hn : wfI n = true) => trod_int_mk (enc := enc) (w := W) (base := b) (spare := sp) (held := hd) (k := .i64) (n := n) 0 Tryd.underlying3 hn
  have := trod_struct_mk (enc := enc) (w := W) (base := b) (spare := sp) (held := hd) (n := 1) (cs := (N.v x).cells.toList) (xs := [(.lit (.int .i64 x.a), []), (.lit (.int .i64 x.b), []), (.lit (.int .i64 x.c), []), (.lit (.int .i64 x.d), []), (.lit (.int .i64 x.k), [])])
    Tryd.underlying23 (by kernel_rfl) (by
      have hc : Tryd.prog.cellsOf 3 = 1 := by kernel_rfl
      simp [N.v, Value.cells, hc, i x.a h0, i x.b h1, i x.c h2, i x.d h3, i x.k h4])
  simpa [dN] using this
theorem openN {H : Type} {enc : TypeId × Value → H} {W : World} {r : Reach} {b b2 : Nat} {sp : Nat → Bool} {hd : Bool} {v : Value} {d : DataW H} {p : List MemPlace} (hv : Value.okWide Tryd.prog W r b 23 v) (h : DataW.Trod enc Tryd.prog W b2 sp hd 23 v d p) :
    ∃ x : N, v = N.v x ∧ d = dN x ∧ p = [] ∧ wfN x = true := by
  obtain ⟨cs, rfl, hsz⟩ := okWide_struct Tryd.underlying23 hv
  obtain ⟨fuel, hf⟩ := h
  obtain ⟨xs, n, _, hx, _, hlen, hg⟩ := DataW.trod_struct Tryd.underlying23 hf
  obtain ⟨l⟩ := cs
  have hs5 : l.length = 5 := hsz.trans (by kernel_rfl)
  match l, hs5, xs, hlen with
  | [c0, c1, c2, c3, c4], _, [y0, y1, y2, y3, y4], _ =>
    have g0 := hg 0 _ rfl; have g1 := hg 1 _ rfl; have g2 := hg 2 _ rfl; have g3 := hg 3 _ rfl; have g4 := hg 4 _ rfl
    simp only [Value.cells, List.getElem?_cons_zero, List.getElem?_cons_succ] at g0 g1 g2 g3 g4
    obtain ⟨z0, a0, e0, w0⟩ := DataW.trod_int Tryd.underlying3 g0
    obtain ⟨z1, a1, e1, w1⟩ := DataW.trod_int Tryd.underlying3 g1
    obtain ⟨z2, a2, e2, w2⟩ := DataW.trod_int Tryd.underlying3 g2
    obtain ⟨z3, a3, e3, w3⟩ := DataW.trod_int Tryd.underlying3 g3
    obtain ⟨z4, a4, e4, w4⟩ := DataW.trod_int Tryd.underlying3 g4
    subst e0 e1 e2 e3 e4
    cases a0; cases a1; cases a2; cases a3; cases a4
    simp only [Prod.mk.injEq] at hx
    exact ⟨⟨z0, z1, z2, z3, z4⟩, rfl, hx.1, hx.2, by simp only [wfN, wfI, w0, w1, w2, w3, w4, Bool.and_self]⟩
/-- Nothing that there was has turned, and the input holds no memory. -/
theorem post_num {H : Type} {enc : TypeId × Value → H} {P : Program} {f : Func} {s : ChangeSpec} {apart fresh handsOn again : Bool} {W W' : World} {args : Array Value} {v : Value} {ds gs : List (DataW H)}
    (hW : DataW.Whole enc P f.params.toList s.vars apart W args.toList ds gs [])
    (hres : ∀ (b : Nat) (sp : Nat → Bool) (hd : Bool), DataW.TrodAll enc P W' b sp hd f.resultTypes.toList (v.resultList f.resultTypes.size) (s.fn H (ds ++ gs)).results [])
    (hargs : ∀ sp : Nat → Bool, DataW.TrodAll enc P W' 0 sp true f.params.toList args.toList (s.fn H (ds ++ gs)).args [])
    (hvars : ∀ sp : Nat → Bool, DataW.TrodVars enc P W' sp s.vars (s.fn H (ds ++ gs)).vars [])
    (hb : Below W.heap.size W W')
    (hok : ∀ (j : Nat) (t : TypeId) (r : Value), f.resultTypes[j]? = some t → (v.resultList f.resultTypes.size)[j]? = some r → Value.okWide P W' .any 0 t r) :
    s.post enc P f apart fresh handsOn again W args v W' := by
  refine ⟨ds, gs, [], [], [], [], hW, hres _ _ _, hargs _, hvars _, World.keptBut_mono (fun p hp => by cases hp) (hb.frame (· ∈ ([] : List MemPlace))), fun _ => ?_⟩
  refine ⟨hok, _, _, [], ⟨[], [], trodAll_append (hargs _) (hres _ _ _), hvars _, rfl, fun b off hp => (by cases hp), fun _ => List.nodup_nil⟩, fun p hp _ => (by cases hp)⟩
/-- The variables' cells, as the row's list has them. -/
theorem laidCells {W : World} (h : laidMetH Tryd.prog laids W) : W.var? Tryd.prog "internal/strconv.uint64pow10" = some pow.cells.toArray ∧ W.var? Tryd.prog "spoondrift/ring.units" = some uni.cells.toArray := by
  obtain ⟨ps, hl, -⟩ := h
  obtain ⟨g1, t1, cs1, f1, p1, q1, a1, b1, c1, d1, hl, e1⟩ := hl
  obtain ⟨g2, t2, cs2, f2, p2, q2, a2, b2, c2, d2, hl, e2⟩ := hl
  obtain ⟨g3, t3, cs3, f3, p3, q3, a3, b3, c3, d3, hl, e3⟩ := hl
  obtain ⟨g4, t4, cs4, f4, p4, q4, a4, b4, c4, d4, hl, e4⟩ := hl
  obtain rfl : g3 = 1 := Option.some.inj (a3.symm.trans (by kernel_rfl))
  obtain rfl : t3 = 145 := Option.some.inj (b3.symm.trans (by kernel_rfl))
  obtain rfl : g4 = 0 := Option.some.inj (a4.symm.trans (by kernel_rfl))
  obtain rfl : t4 = 116 := Option.some.inj (b4.symm.trans (by kernel_rfl))
  have hc8 : Tryd.prog.cellsOf 135 = 1 := by kernel_rfl
  have hc9 : Tryd.prog.cellsOf 9 = 1 := by kernel_rfl
  have k3 := Lib.cells_of_tab (zs := Lib.pow10Tab) (k := .u64) Tryd.underlying145 Tryd.underlying135 hc8 (by kernel_rfl) (d3.trans (by rfl))
  refine ⟨c3.trans (congrArg some (Array.ext' (k3.trans (by rfl)))), c4.trans (congrArg some (Array.ext' ?_))⟩
  obtain ⟨l4⟩ := cs4
  obtain ⟨xs, n, _, hx, hl4, hlen, hg⟩ := DataW.trod_array Tryd.underlying116 d4
  have hs4 : l4.length = 4 := hl4.trans (by kernel_rfl)
  rw [hc9] at hg
  match l4, hs4, xs, hlen with
  | [k0, k1, k2, k3], _, [y0, y1, y2, y3], _ =>
    have g0 := hg 0 (by omega); have g1 := hg 1 (by omega); have g2 := hg 2 (by omega); have g3 := hg 3 (by omega)
    simp only [List.getElem?_cons_zero, List.getElem?_cons_succ] at g0 g1 g2 g3
    obtain ⟨z0, m0, n0, _⟩ := DataW.trod_string Tryd.underlying9 g0
    obtain ⟨z1, m1, n1, _⟩ := DataW.trod_string Tryd.underlying9 g1
    obtain ⟨z2, m2, n2, _⟩ := DataW.trod_string Tryd.underlying9 g2
    obtain ⟨z3, m3, n3, _⟩ := DataW.trod_string Tryd.underlying9 g3
    subst n0 n1 n2 n3
    cases m0; cases m1; cases m2; cases m3
    simp only [Rows.laid_spoondrift_ring_units, Prod.mk.injEq, DataW.agg.injEq, List.map_cons, List.map_nil, List.cons.injEq, DataW.lit.injEq, Lit.string.injEq, and_true] at hx
    obtain ⟨⟨x0, x1, x2, x3⟩, -⟩ := hx
    have mk : ∀ (z : ByteArray) (l : List UInt8), l = z.data.toList → Value.string z = str l := fun z l e => by subst e; rfl
    show [Value.string z0, Value.string z1, Value.string z2, Value.string z3] = [str [], str [119], str [119, 50], str [119, 51]]
    rw [mk z0 _ x0, mk z1 _ x1, mk z2 _ x2, mk z3 _ x3]
theorem invOf {W : World} (h : laidMetH Tryd.prog laids W) (sh : W.ShapedOpen Tryd.prog) : ∃ M : Int, Inv (Sg1 M) (baseRen (Sg1 M).length) (Sg1 M) W := by
  obtain ⟨h1, h0⟩ := laidCells h
  obtain ⟨c0, e0, _, _⟩ := rowSize sh 0 116 4 (by decide +kernel) (by kernel_rfl) (by kernel_rfl)
  obtain ⟨c1, e1, _, _⟩ := rowSize sh 1 145 20 (by decide +kernel) (by kernel_rfl) (by kernel_rfl)
  obtain ⟨c2, e2, s2, o2⟩ := rowSize sh 2 3 1 (by decide +kernel) (by kernel_rfl) (by kernel_rfl)
  have v0 : c0 = uni.cells.toArray := by
    unfold World.var? at h0
    rw [show Tryd.prog.globalNamed "spoondrift/ring.units" = some 0 by kernel_rfl] at h0
    simp only [Option.bind_some, e0] at h0
    exact Option.some.inj h0
  have v1 : c1 = pow.cells.toArray := by
    unfold World.var? at h1
    rw [show Tryd.prog.globalNamed "internal/strconv.uint64pow10" = some 1 by kernel_rfl] at h1
    simp only [Option.bind_some, e1] at h1
    exact Option.some.inj h1
  have v2 : ∃ M : Int, c2 = #[.int .i64 M] := by
    obtain ⟨ts, t1, _, t2⟩ := o2
    obtain rfl : ts = [3] := Option.some.inj (t1.symm.trans (by kernel_rfl))
    obtain ⟨l⟩ := c2
    match l, s2 with
    | [v], _ =>
      obtain ⟨u, u1, u2⟩ := t2 0 v rfl
      obtain rfl : 3 = u := Option.some.inj u1
      simp only [Cell.ok, Tryd.underlying3] at u2
      cases v <;> simp at u2
      obtain ⟨rfl, _⟩ := u2
      exact ⟨_, rfl⟩
  obtain ⟨M, v2⟩ := v2
  subst v0 v1 v2
  refine ⟨M, ⟨⟨fun b k r hb hr => ?_, fun b r hb => ?_, fun b c r hb hc => ?_⟩, fun g hg => ?_⟩, fun g _ => rfl, Nat.le_refl _⟩
  · have hb3 : b < 3 := (List.getElem?_eq_some_iff.1 hb).1
    have : r = b := by unfold baseRen at hr; rw [if_pos (by simpa using hb3)] at hr; exact (Option.some.inj hr).symm
    subst this
    have rel : ∀ cs : List Value, cs.all plain = true → LRel (baseRen (Sg1 M).length) cs (cs.toArray.toList.take cs.length) := fun cs hcs => by simpa using plains_refl hcs
    match r, hb3 with
    | 0, _ => cases hb; exact ⟨_, e0, _, _, rfl, rel _ (by decide), fun h => (by cases h), fun _ => rfl⟩
    | 1, _ => cases hb; exact ⟨_, e1, _, _, rfl, rel _ (by decide), fun h => (by cases h), fun _ => rfl⟩
    | 2, _ => cases hb; exact ⟨_, e2, _, _, rfl, rel _ (by rfl), fun h => (by cases h), fun _ => rfl⟩
  · unfold baseRen at hb
    split at hb
    · rename_i hlt
      cases hb
      have : b = 0 ∨ b = 1 ∨ b = 2 := by simp at hlt; omega
      rcases this with rfl | rfl | rfl
      · exact (Array.getElem?_eq_some_iff.1 e0).1
      · exact (Array.getElem?_eq_some_iff.1 e1).1
      · exact (Array.getElem?_eq_some_iff.1 e2).1
    · cases hb
  · unfold baseRen at hb hc
    split at hb
    · split at hc
      · cases hb; cases hc; rfl
      · cases hc
    · cases hb
  · unfold baseRen; rw [if_pos hg]
/-- A world for the witnesses: the variables hold what their initialisers lay. -/
def litV : DataW Unit → Value
  | .lit (.int k n) => .int k n
  | .lit (.string l) => .string ⟨l.toArray⟩
  | _ => undef
def cellsOfD : DataW Unit → Array Value
  | .agg l => (l.map litV).toArray
  | _ => #[]
def layAt (g : Nat) (d : DataW Unit) (h : Array Obj) : Array Obj := h.modify g fun
  | .cells _ t frozen => .cells (cellsOfD d) t frozen
  | o => o
noncomputable def laidWorld (os : Os) : World :=
  { World.holding Tryd.prog os ⟨#[], #[], []⟩ with heap := layAt 0 Rows.laid_spoondrift_ring_units (layAt 1 Rows.laid_internal_strconv_uint64pow10
      (layAt 3 Rows.laid_math_bits_deBruijn32tab (layAt 4 Rows.laid_math_bits_deBruijn64tab (World.holding Tryd.prog os ⟨#[], #[], []⟩).heap))) }
end Go.Proofs.YtihccnfaibiiiaaDoor
