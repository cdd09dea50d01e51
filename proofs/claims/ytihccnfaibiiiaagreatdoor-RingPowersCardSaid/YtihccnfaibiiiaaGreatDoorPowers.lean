/- Ring: RingPowers: the call returns true for every number, two integers and list of numbers, and changes nothing. No condition. -/
import Derived.Test.YtihccnfaibiiiaaGreatDoorK0
import Derived.Test.YtihccnfaibiiiaaGreatDoorW4
import Derived.Test.YtihccnfaibiiiaaGreatDoorMd
import Derived.ChangeSlices
import Derived.WideKeyArgs
/- Ring: RingPowers holds for lists without numbers. -/
namespace Go.Proofs.YtihccnfaibiiiaaGreatDoor.R
open Go Go.Proofs.XX.Vm Go.Proofs.XX.Rm Go.RowKit
set_option maxRecDepth 100000

def shortP (x : N) (n h : Int) : Option Value := bif (rootS h).2 == (rootS h).2 then (bif (pwrS x n).2 == (pwrS x n).2 then (bif eqN (rootS h).1 (rootS h).1 then (bif eqN (pwrS x n).1 (pwrS x n).1 then (bif eqN (xo n) (trns (omN n).toNat om1) then some (.bool true) else some (.bool false)) else some (.bool false)) else some (.bool false)) else some (.bool false)) else some (.bool false)
theorem nilTrW (M : Int) (x : N) (n h : Int) : callInK Tryz.prog (evCodeK Tryz.prog orW (Sg1 M) 300) 3 5 [N.v x, .int .i64 n, .int .i64 h, .slice none 0 0] (Sg1 M) (fun u _ => some u) = shortP x n h := by kernel_rfl
theorem empTrW (M : Int) (c : Nat) (x : N) (n h : Int) : callInK Tryz.prog (evCodeK Tryz.prog orW (Sg1 M) 300) 3 5 [N.v x, .int .i64 n, .int .i64 h, .slice (some ⟨1, 0, none⟩) 0 c] (Sg1 M) (fun u _ => some u) = shortP x n h := by kernel_rfl
theorem shortP_true (x : N) (n h : Int) : shortP x n h = some (.bool true) := by
  unfold shortP
  rw [xo_eq]
  simp only [beq_self_eq_true, (eqN_iff _ _).2 rfl, cond_true]
theorem nilPw (M : Int) (x : N) (n h : Int) : callInK Tryz.prog (evCodeK Tryz.prog orW (Sg1 M) 300) 3 5 [N.v x, .int .i64 n, .int .i64 h, .slice none 0 0] (Sg1 M) (fun u _ => some u) = some (.bool true) :=
  (nilTrW M x n h).trans (shortP_true x n h)
theorem empPw (M : Int) (c : Nat) (x : N) (n h : Int) : callInK Tryz.prog (evCodeK Tryz.prog orW (Sg1 M) 300) 3 5 [N.v x, .int .i64 n, .int .i64 h, .slice (some ⟨1, 0, none⟩) 0 c] (Sg1 M) (fun u _ => some u) = some (.bool true) :=
  (empTrW M c x n h).trans (shortP_true x n h)
end Go.Proofs.YtihccnfaibiiiaaGreatDoor.R
/- What RingPowers' card asks: a list of numbers as argument, and that it reads as it did. -/
namespace Go.Proofs.YtihccnfaibiiiaaGreatDoor
open Go Go.Proofs.XX.Vm Go.Proofs.XX.Rm Go.RowKit Go.ChangeShapes Go.WideShapes Go.ChangeAt Go.Joins Go.Deep Go.Proofs.YtihccnfaibiiiaaGreatDoor.R
set_option maxRecDepth 100000

theorem below_of_all {φ ψ : Ren} {S S' : List Blk} {w w' : World} (h : Step S.length φ S w ψ S' w') : Below w.heap.size w w' :=
  ⟨h.os, h.tape, h.output, h.size, fun r hr => h.frame r hr fun b h1 h2 => by omega⟩
theorem calls_of {M : Int} {f : FuncId} {args args' : List Value} {S S' : List Blk} {φ : Ren} {W : World} (h : CallAt Tryz.prog (Sg1 M) S.length f args S (.bool true) S') (inv : Inv (Sg1 M) φ S W) (hr : LRel φ args args') (hf : ∀ b, S.length ≤ b → φ b = none) :
    Calls Tryz.prog f args'.toArray W fun e w' => e = .returned (.bool true) ∧ Below W.heap.size W w' := by
  refine Calls.mono (h.2 φ W args' inv hr fun b h1 _ => hf b h1) ?_
  rintro e w' ⟨v', ψ, rfl, hv, _, hs⟩
  cases hv
  exact ⟨rfl, below_of_all hs⟩
def noI64 (l : List Value) : Bool := l.all fun | .int .i64 _ => false | _ => true
theorem base_none {M : Int} {b : Nat} (h : (Sg1 M).length ≤ b) : baseRen (Sg1 M).length b = none := by unfold baseRen; rw [if_neg (by omega)]
theorem heap_of_cell {W : World} {b o : Nat} {v : Value} (h : W.cell? ⟨b, o, none⟩ = some v) : ∃ c t fz, W.heap[b]? = some (.cells c t fz) := by
  unfold World.cell? at h
  split at h
  · rename_i c t fz hb; exact ⟨c, t, fz, hb⟩
  · cases h
/-- How a list of numbers lies in the world. -/
def NumsIn (W : World) (v : Value) : Prop := v = .slice none 0 0 ∨ ∃ (a : Addr) (len cap : Nat) (zs : List Int), v = .slice (some a) len cap ∧ len ≤ cap ∧ zs.length = len * 5 ∧ ∀ i, i < zs.length → W.cell? (a.add i) = some (.int .i64 (zs.getD i 0))
/-- A law of plain values and a list of numbers behind them in the world. -/
theorem calls_nums {M : Int} {f : FuncId} {orc : Orc} (horc : OrcOk Tryz.prog (Sg1 M) (orcOf orc)) {pre : List Value} (hpl : pre.all plain = true) {W : World} (inv : Inv (Sg1 M) (baseRen (Sg1 M).length) (Sg1 M) W)
    (hN : ∃ m, callInK Tryz.prog (evCodeK Tryz.prog orc (Sg1 M) m) 3 f (pre ++ [.slice none 0 0]) (Sg1 M) (fun u _ => some u) = some (.bool true))
    (hE : ∀ c : Nat, ∃ m, callInK Tryz.prog (evCodeK Tryz.prog orc (Sg1 M) m) 3 f (pre ++ [.slice (some ⟨1, 0, none⟩) 0 c]) (Sg1 M) (fun u _ => some u) = some (.bool true))
    (hA : ∀ (et off m c : Nat) (L : List Int), insideI off L off ((m + 1) * 5) = true → ∃ s, callInK Tryz.prog (evCodeK Tryz.prog orc (Sg1 M) s) 4 f (pre ++ [slV off (m + 1) c]) [uni, pow, mxl M, kB et true off L] (fun u _ => some u) = some (.bool true))
    {v : Value} (hv : NumsIn W v) :
    Calls Tryz.prog f (pre ++ [v]).toArray W fun e w' => e = .returned (.bool true) ∧ Below W.heap.size W w' := by
  rcases hv with rfl | ⟨a, len, cap, zs, rfl, hl, hz, hcell⟩
  · obtain ⟨m, e⟩ := hN
    obtain ⟨S', h⟩ := callInK_world (sg1 M) horc e (Nat.le_refl 3) (Nat.le_refl 3)
    exact calls_of h inv ((plains_refl hpl).append (LRel.cons (.nilSlice 0 0) (LRel.nil _))) fun b hb => base_none hb
  · cases len with
    | zero =>
      obtain ⟨m, e⟩ := hE cap
      obtain ⟨S', h⟩ := callInK_world (sg1 M) horc e (Nat.le_refl 3) (Nat.le_refl 3)
      exact calls_of h inv ((plains_refl hpl).append (LRel.cons (.empty _ _ _) (LRel.nil _))) fun b hb => base_none hb
    | succ n =>
      obtain ⟨b, off, rfl, hc⟩ := ints_at hcell (by omega)
      have hc0 := hc 0 (by omega)
      obtain ⟨c, t, fz, hb⟩ := heap_of_cell hc0
      have hcc : ∀ j, j < zs.length → c[off + j]? = some (.int .i64 (zs.getD j 0)) := by
        intro j hj
        have := hc j hj
        simpa [World.cell?, hb] using this
      have no : ∀ (g : Nat) (cs : List Value) (tt : TypeId), g < 3 → (Sg1 M)[g]? = some ⟨cs, tt, true, none⟩ → cs.all plain = true → (noI64 cs = true ∨ cs.length ≤ 1) → b ≠ g := by
        intro g cs tt hg hs hp hn e
        subst e
        obtain ⟨fz2, h2⟩ := globalCells inv hg hs hp
        rw [hb] at h2
        cases h2
        rcases hn with hn | hn
        · have h3 := hcc 0 (by omega)
          have h4 : (Value.int .i64 (zs.getD 0 0)) ∈ cs := by
            have : cs[off + 0]? = some (.int .i64 (zs.getD 0 0)) := by simpa using h3
            exact List.mem_of_getElem? this
          have := (List.all_eq_true.1 hn) _ h4
          cases this
        · have h3 := hcc 1 (by omega)
          have h4 : cs[off + 1]? = some (.int .i64 (zs.getD 1 0)) := by simpa using h3
          have := (List.getElem?_eq_some_iff.1 h4).1
          omega
      have n0 : b ≠ 0 := no 0 _ _ (by omega) rfl (by decide) (.inl (by decide))
      have n1 : b ≠ 1 := no 1 _ _ (by omega) rfl (by decide) (.inl (by decide))
      have n2 : b ≠ 2 := no 2 _ _ (by omega) rfl (by rfl) (.inr (Nat.le_refl _))
      obtain ⟨m, e⟩ := hA t off n cap zs (by simp [insideI, Nat.ble_eq]; omega)
      obtain ⟨S', h⟩ := callInK_world (sg1 M) horc e (show 3 ≤ 4 by decide) (show 3 ≤ 4 by decide)
      have hbs : b < W.heap.size := (Array.getElem?_eq_some_iff.1 hb).1
      let φ : Ren := fun i => if i = 3 then some b else baseRen 3 i
      have hφ : ∀ i r, φ i = some r → (i = 3 ∧ r = b) ∨ (i < 3 ∧ r = i ∧ baseRen 3 i = some r) := by
        intro i r hi
        by_cases h3 : i = 3
        · simp only [φ, h3, if_true] at hi; cases hi; exact .inl ⟨h3, rfl⟩
        · simp only [φ, h3, if_false] at hi
          have := hi
          unfold baseRen at this
          split at this
          · rename_i hlt; cases this; exact .inr ⟨hlt, rfl, hi⟩
          · cases this
      have hlt4 : ∀ (i : Nat) k, ([uni, pow, mxl M, kB t true off zs] : List Blk)[i]? = some k → i < 3 → (Sg1 M)[i]? = some k := by
        intro i k hk hi
        match i, hi with
        | 0, _ => exact hk
        | 1, _ => exact hk
        | 2, _ => exact hk
      refine calls_of h (φ := φ) ⟨⟨⟨fun i k r hk hr => ?_, fun i r hr => ?_, fun i j r hi hj => ?_⟩, fun g hg => ?_⟩, fun g hg => ?_, show 3 ≤ 4 by decide⟩ ((plains_refl hpl).append (LRel.cons (.slice (by simp [φ]) (.inl rfl) hl) (LRel.nil _))) fun i hi => ?_
      · rcases hφ i r hr with ⟨rfl, rfl⟩ | ⟨h1, rfl, h2⟩
        · cases hk
          refine ⟨_, hb, c, fz, rfl, fun i n hi => ?_, fun h => by cases h⟩
          have h5 := hcc i (List.getElem?_eq_some_iff.1 hi).1
          rw [List.getD, hi] at h5
          simpa using h5
        · obtain ⟨o, o1, o2⟩ := inv.ok.good.blk r k r (hlt4 r k hk h1) h2
          refine ⟨o, o1, o2.mono fun i r2 e => ?_⟩
          have : i < 3 := by
            unfold baseRen at e
            split at e
            · rename_i hh; exact hh
            · cases e
          simp only [φ, show ¬ i = 3 by omega, if_false]
          exact e
      · rcases hφ i r hr with ⟨_, rfl⟩ | ⟨_, _, h2⟩
        · exact hbs
        · exact inv.ok.good.low i r h2
      · rcases hφ i r hi with ⟨rfl, rfl⟩ | ⟨h1, rfl, _⟩ <;> rcases hφ j _ hj with ⟨rfl, h3⟩ | ⟨h2, h3, _⟩
        · rfl
        · omega
        · omega
        · omega
      · have hg3 : g < 3 := hg
        simp only [φ, show ¬ g = 3 by omega, if_false]
        unfold baseRen; rw [if_pos hg3]
      · have hg3 : g < 3 := hg
        match g, hg3 with
        | 0, _ => rfl
        | 1, _ => rfl
        | 2, _ => rfl
      · have hi4 : 4 ≤ i := hi
        simp only [φ, show ¬ i = 3 by omega, if_false]
        unfold baseRen; rw [if_neg (by omega)]
/-- Nothing that there was has turned. -/
theorem post_mem {H : Type} {enc : TypeId × Value → H} {P : Program} {f : Func} {s : ChangeSpec} {apart fresh handsOn again : Bool} {W W' : World} {args : Array Value} {v : Value} {ds gs : List (DataW H)} {before : List MemPlace}
    (hW : DataW.Whole enc P f.params.toList s.vars apart W args.toList ds gs before)
    (hres : ∀ (b : Nat) (sp : Nat → Bool) (hd : Bool), DataW.TrodAll enc P W' b sp hd f.resultTypes.toList (v.resultList f.resultTypes.size) (s.fn H (ds ++ gs)).results [])
    (hargs : ∀ sp : Nat → Bool, (∀ p ∈ before, sp p.block = true) → DataW.TrodAll enc P W' 0 sp true f.params.toList args.toList (s.fn H (ds ++ gs)).args before)
    (hvars : ∀ sp : Nat → Bool, DataW.TrodVars enc P W' sp s.vars (s.fn H (ds ++ gs)).vars [])
    (hb : Below W.heap.size W W')
    (hok : ∀ (j : Nat) (t : TypeId) (r : Value), f.resultTypes[j]? = some t → (v.resultList f.resultTypes.size)[j]? = some r → Value.okWide P W' .any 0 t r) :
    s.post enc P f apart fresh handsOn again W args v W' := by
  have hold : ∀ p ∈ before, (fun b => decide (b < W.heap.size)) p.block = true := fun p hp => by simpa using hW.lt p hp
  refine ⟨ds, gs, before, [], before, [], hW, hres _ _ _, hargs _ hold, hvars _, World.keptBut_mono (fun p hp => ⟨hp, .inr (.inl hp)⟩) (hb.frame (· ∈ before)), fun _ => ?_⟩
  have hlt := hW.lt
  obtain ⟨_, _, _, _, _, hz, hn⟩ := hW
  refine ⟨hok, _, _, ([] ++ before) ++ [], ⟨[] ++ before, [], trodAll_append (hargs _ (fun _ _ => rfl)) (hres _ _ _), hvars _, rfl, ?_, ?_⟩, ?_⟩
  · intro b off hp
    have hp' : MemPlace.cell b off ∈ before := by simpa using hp
    have h1 := hz b off hp'
    have h2 : W'.heap[b]? = W.heap[b]? := hb.block b (hlt _ hp')
    unfold World.frozen? at h1 ⊢
    simp only [h2]
    exact h1
  · intro ha
    simpa using hn ha
  · intro p hp _
    simpa using hp
/-- A number's cells. -/
theorem num_cells {H : Type} {enc : TypeId × Value → H} {W : World} {b2 n : Nat} {sp : Nat → Bool} {hd : Bool} {l : List Value} {y : DataW H × List MemPlace} (hf : DataW.trod enc Tryz.prog W b2 sp hd n 23 l = some y) :
    ∀ j, j < 5 → ∃ z, l[j]? = some (.int .i64 z) := by
  obtain ⟨xs, n, _, hx, hs, hlen, hg⟩ := DataW.trod_struct Tryz.underlying23 hf
  have hs5 : l.length = 5 := hs.trans (by kernel_rfl)
  match l, hs5, xs, hlen with
  | [c0, c1, c2, c3, c4], _, [y0, y1, y2, y3, y4], _ =>
    have g0 := hg 0 _ rfl; have g1 := hg 1 _ rfl; have g2 := hg 2 _ rfl; have g3 := hg 3 _ rfl; have g4 := hg 4 _ rfl
    simp only [List.getElem?_cons_zero, List.getElem?_cons_succ] at g0 g1 g2 g3 g4
    obtain ⟨z0, a0, e0, w0⟩ := DataW.trod_int Tryz.underlying3 g0
    obtain ⟨z1, a1, e1, w1⟩ := DataW.trod_int Tryz.underlying3 g1
    obtain ⟨z2, a2, e2, w2⟩ := DataW.trod_int Tryz.underlying3 g2
    obtain ⟨z3, a3, e3, w3⟩ := DataW.trod_int Tryz.underlying3 g3
    obtain ⟨z4, a4, e4, w4⟩ := DataW.trod_int Tryz.underlying3 g4
    cases a0; cases a1; cases a2; cases a3; cases a4
    intro j hj
    match j, hj with
    | 0, _ => exact ⟨z0, rfl⟩
    | 1, _ => exact ⟨z1, rfl⟩
    | 2, _ => exact ⟨z2, rfl⟩
    | 3, _ => exact ⟨z3, rfl⟩
    | 4, _ => exact ⟨z4, rfl⟩
theorem add_add (a : Addr) (m n : Nat) : (a.add m).add n = a.add (m + n) := by
  unfold Addr.add
  by_cases hm : m = 0 <;> by_cases hn : n = 0 <;> simp [hm, hn, Nat.add_assoc]
def i64Of : Option Value → Int | some (.int .i64 z) => z | _ => 0
/-- The argument's cells. -/
theorem nums_in {H : Type} {enc : TypeId × Value → H} {W : World} {v : Value} {d : DataW H} {p : List MemPlace} (h : DataW.Trod enc Tryz.prog W 0 (fun _ => true) true 31 v d p) (hv : ∃ a n c, v = .slice a n c) : NumsIn W v := by
  obtain ⟨fuel, hf⟩ := h
  have hc : Tryz.prog.cellsOf 23 = 5 := by kernel_rfl
  obtain ⟨a0, n0, c0, rfl⟩ := hv
  rcases DataW.trod_slice Tryz.underlying31 hf with ⟨h1, _⟩ | ⟨a, len, cap, elems, rest, n, _, h1, _, _, hl, _, hlen, hel, _⟩
  · simp only [Value.cells, List.cons.injEq, and_true] at h1
    exact .inl h1
  · simp only [Value.cells, List.cons.injEq, and_true] at h1
    rw [h1, hc] at *
    have key : ∀ q, q < len * 5 → ∃ z, W.cell? (a.add q) = some (.int .i64 z) := by
      intro q hq
      have hi : q / 5 < len := by omega
      have hE := hel (q / 5) hi
      rw [List.getElem?_eq_getElem (by omega)] at hE
      simp only [Option.bind_eq_some_iff] at hE
      obtain ⟨cs, k1, k2⟩ := hE
      obtain ⟨_, _, k3⟩ := World.cells?_some k1
      obtain ⟨z, hz⟩ := num_cells k2 (q % 5) (by omega)
      refine ⟨z, ?_⟩
      have k4 := k3 (q % 5) (by omega)
      rw [hz] at k4
      rw [add_add, show q / 5 * 5 + q % 5 = q by omega] at k4
      exact k4
    refine .inr ⟨a, len, cap, (List.range (len * 5)).map fun q => i64Of (W.cell? (a.add q)), rfl, hl, by simp, fun i hi => ?_⟩
    have hi2 : i < len * 5 := by simpa using hi
    obtain ⟨z, hz⟩ := key i hi2
    rw [hz]
    simp [List.getD, hi2, hz, i64Of]
/-- The argument reads as it did. -/
theorem nums_again {H : Type} {enc : TypeId × Value → H} {W W' : World} (hb : Below W.heap.size W W') {v : Value} {d : DataW H} {p : List MemPlace} (h : DataW.Trod enc Tryz.prog W 0 (fun _ => true) true 31 v d p) (hlt : ∀ q ∈ p, q.block < W.heap.size)
    (sp : Nat → Bool) (hsp : ∀ q ∈ p, sp q.block = true) : DataW.Trod enc Tryz.prog W' 0 sp true 31 v d p :=
  WideElems.Trod_stays (by kernel_rfl) (by kernel_rfl) (of_decide_eq_true (by kernel_rfl)) h (fun x hx => hb.same (hlt x hx)) hsp
end Go.Proofs.YtihccnfaibiiiaaGreatDoor
namespace Go.Proofs.YtihccnfaibiiiaaGreatDoor
open Go Go.Proofs.XX.Vm Go.Proofs.XX.Rm Go.RowKit Go.ChangeShapes Go.WideShapes Go.ChangeAt Go.Joins Go.Deep Go.Proofs.YtihccnfaibiiiaaGreatDoor.R
set_option maxRecDepth 100000
namespace ringPowers
/-- What the row's list gives: the variables' cells. -/
theorem inv_of {W : World} (h : laidMetH Tryz.prog Rows.ringPowersRow.laid W) (sh : W.ShapedOpen Tryz.prog) : ∃ M : Int, Inv (Sg1 M) (baseRen (Sg1 M).length) (Sg1 M) W :=
  invOf h sh
theorem contract (H : Type) (enc : TypeId × Value → H) (W : World) (base : Nat) (args : Array Value) (ds gs : List (DataW H)) (before : List MemPlace)
    (hval : ∀ (j : Nat) t v, Tryz.f5.params[j]? = some t → args[j]? = some v → Value.okWide Tryz.prog W .any base t v)
    (hW : DataW.Whole enc Tryz.prog Tryz.f5.params.toList Rows.ringPowersSpec.vars false W args.toList ds gs before) (hL : laidMetH Tryz.prog Rows.ringPowersRow.laid W) (sh : W.ShapedOpen Tryz.prog) :
    Calls Tryz.prog 5 args W fun e W' => ∃ v, e = .returned v ∧ Rows.ringPowersSpec.post enc Tryz.prog Tryz.f5 false true false false W args v W' := by
  have hW' := hW
  obtain ⟨p, q, hA0, hV, rfl, hfz, hnd⟩ := hW
  have hA : DataW.TrodAll enc Tryz.prog W 0 (fun _ => true) true Tryz.f5.params.toList args.toList ds p := hA0
  rw [Tryz.params5] at hA hval
  obtain ⟨v0, vs0, d0, ds0, p0, q0, hargs, rfl, rfl, h0, r0⟩ := trodAll_cons hA
  obtain ⟨v1, vs1, d1, ds1, p1, q1, e1, rfl, rfl, h1, r1⟩ := trodAll_cons r0
  obtain ⟨v2, vs2, d2, ds2, p2, q2, e2, rfl, rfl, h2, r2⟩ := trodAll_cons r1
  obtain ⟨v3, vs3, d3, ds3, p3, q3, e3, rfl, rfl, h3, r3⟩ := trodAll_cons r2
  obtain ⟨e9, rfl, rfl⟩ := trodAll_nil r3
  obtain rfl : args = #[v0, v1, v2, v3] := by cases args; simp_all
  obtain ⟨rfl, rfl⟩ := trodVars_none hV
  have hs := okWide_slice Tryz.underlying31 (hval 3 31 v3 rfl rfl)
  obtain ⟨x, rfl, rfl, rfl, w0⟩ := openN (hval 0 23 v0 rfl rfl) h0
  obtain ⟨n, rfl⟩ := okWide_int Tryz.underlying3 (hval 1 3 v1 rfl rfl)
  obtain ⟨f1, hf1⟩ := h1
  obtain ⟨n1, a1, b1, w1⟩ := DataW.trod_int Tryz.underlying3 hf1
  simp only [Value.cells, List.cons.injEq, and_true, Value.int.injEq, true_and] at a1
  subst a1
  simp only [Prod.mk.injEq] at b1
  obtain ⟨rfl, rfl⟩ := b1
  obtain ⟨h, rfl⟩ := okWide_int Tryz.underlying3 (hval 2 3 v2 rfl rfl)
  obtain ⟨f2, hf2⟩ := h2
  obtain ⟨h1, a2, b2, w2⟩ := DataW.trod_int Tryz.underlying3 hf2
  simp only [Value.cells, List.cons.injEq, and_true, Value.int.injEq, true_and] at a2
  subst a2
  simp only [Prod.mk.injEq] at b2
  obtain ⟨rfl, rfl⟩ := b2
  clear hA0
  simp only [List.append_nil, List.nil_append] at hW'
  have hlt : ∀ q ∈ p3, q.block < W.heap.size := fun q hq => by simpa using hW'.lt q hq
  obtain ⟨M, inv⟩ := inv_of hL sh
  refine (calls_nums (orW_ok M) (pre := [N.v x, .int .i64 n, .int .i64 h]) rfl inv ⟨_, nilPw M x n h⟩ (fun c => ⟨_, empPw M c x n h⟩) (fun et off m c L hi => lawPw M et off m c x n h L hi) (nums_in h3 hs)).mono fun e W' ⟨he, hg⟩ => ?_
  subst he
  have hr := nums_again hg h3 hlt
  refine ⟨_, rfl, post_mem hW' (fun _ _ _ => trodAll_cons_mk (shut_bool Tryz.underlying4 _) trodAll_mk0) (fun sp hsp => ?_) (fun _ => rfl) hg (ok_one (by kernel_rfl) rfl (okWide_bool_mk Tryz.underlying4 _))⟩
  have ri : ∀ z : Int, (Lit.int .i64 z).wf = true → DataW.Trod enc Tryz.prog W' 0 sp true 3 (.int .i64 z) (.lit (.int .i64 z)) [] := fun z hz => ⟨1, trod_int_mk 0 Tryz.underlying3 hz⟩
  have := trodAll_cons_mk (shutN (enc := enc) (W := W') (b := 0) (sp := sp) (hd := true) x w0) (trodAll_cons_mk (ri n w1) (trodAll_cons_mk (ri h w2) (trodAll_cons_mk (hr sp hsp) (trodAll_mk0 (enc := enc) (P := Tryz.prog) (w := W') (base := 0) (spare := sp) (held := true)))))
  simp only [List.append_nil, List.nil_append] at this
  exact this
theorem laid_met (os : Os) : laidMet Tryz.prog Rows.ringPowersRow.laid ((laidWorld os).forCall (fun _ _ => 0) ⟨#[], #[N.v O, .int .i64 0, .int .i64 0, .slice none 0 0], []⟩).memory :=
  laidMet_of_run' 8 (by kernel_rfl) (by kernel_rfl)
theorem reads (os : Os) {H : Type} (enc : TypeId × Value → H) : ∃ places, DataW.whole enc Tryz.prog ((laidWorld os).forCall (fun _ _ => 0) ⟨#[], #[N.v O, .int .i64 0, .int .i64 0, .slice none 0 0], []⟩).memory Tryz.f5.params.toList Rows.ringPowersSpec.vars false #[N.v O, .int .i64 0, .int .i64 0, .slice none 0 0].toList 8 = some ([.agg [.lit (.int .i64 0), .lit (.int .i64 0), .lit (.int .i64 0), .lit (.int .i64 0), .lit (.int .i64 0)], .lit (.int .i64 0), .lit (.int .i64 0), .nil], [], places) :=
  ⟨[], by kernel_rfl⟩
theorem lifted (os : Os) (started : os.Started) (H : Type) (enc : TypeId × Value → H) (F : Stop.Interp) :
    ReturnsInHanded {} Tryz.checked os 5 .any ((OpenSpec.ofChange Rows.ringPowersSpec).preRow enc Tryz.prog Tryz.f5 Rows.ringPowersRow.domain false Rows.ringPowersRow.laid) (((OpenSpec.ofChange Rows.ringPowersSpec).at F).post enc Tryz.prog Tryz.f5 false true false false) := by
  obtain ⟨places, hx⟩ := reads os enc
  refine returnsInHanded_of_row (C := Tryz.checked) (s := OpenSpec.ofChange Rows.ringPowersSpec) own started (by kernel_rfl) Tryz.func5
    (witness_row_at (enc := enc) (C := Tryz.checked) false (laidWorld os) #[N.v O, .int .i64 0, .int .i64 0, .slice none 0 0] rfl (by kernel_rfl) (by kernel_rfl) (by kernel_rfl)
      (OpenSpec.preRow_of_cond 8 hx (by kernel_rfl) (fun k hk => by cases hk) (by kernel_rfl) (laid_met os))) ?_
  intro W base args ds gs before hval hW _ _ _ hL sh _
  exact contract H enc W base args ds gs before hval hW hL sh
theorem said : Rows.RingPowersSaid :=
  OpenClaim.holds_of_cond 5 Tryz.f5 rfl rfl rfl rfl rfl rfl rfl ⟨rfl, rfl, rfl, rfl, rfl⟩ rfl rfl rfl rfl rfl (by kernel_rfl) Tryz.func5 (by kernel_rfl)
    (of_decide_eq_true (by kernel_rfl)) (by unfold Func.isWrapper; first | (rw [if_pos (by decide +kernel)]; kernel_rfl) | (rw [if_neg (by decide +kernel)]; exact ⟨rfl, rfl⟩))
    (fun os started H enc _ F => by rw [OpenClaim.pre_eq_preRow]; exact lifted os started H enc F)
theorem plain (f : FuncId) (fn : Func) (hf : Tryz.pinned.checked.prog.funcNamed "spoondrift/spoondriftlaw01.RingPowers" = some f) (hfn : Tryz.pinned.checked.prog.funcs[f]? = some fn) :
    false = Tryz.pinned.checked.prog.looks [] ∧ ∀ (j : Nat) t, fn.params[j]? = some t → Tryz.pinned.checked.prog.wantsStandIn t = false := by
  obtain rfl : f = 5 := Option.some.inj ((show Tryz.prog.funcNamed "spoondrift/spoondriftlaw01.RingPowers" = some 5 by kernel_rfl).symm.trans hf) |>.symm
  obtain rfl : fn = Tryz.f5 := (Option.some.inj (Tryz.func5.symm.trans hfn)).symm
  refine ⟨by kernel_rfl, fun j t ht => ?_⟩
  rw [Tryz.params5] at ht
  have ht2 : t = 23 ∨ t = 3 ∨ t = 3 ∨ t = 31 := by simpa using Array.mem_of_getElem? ht
  rcases ht2 with rfl | rfl | rfl | rfl
  · exact (show Tryz.prog.wantsStandIn 23 = false by kernel_rfl)
  · exact (show Tryz.prog.wantsStandIn 3 = false by kernel_rfl)
  · exact (show Tryz.prog.wantsStandIn 3 = false by kernel_rfl)
  · exact (show Tryz.prog.wantsStandIn 31 = false by kernel_rfl)
/-- The card. -/
theorem card : Rows.RingPowersCardSaid :=
  Claim7.holds_tied_plain_at .later [] _ _ _ _ said (fun _ h => by cases h) (by kernel_rfl) (fun _ h => by cases h) ringPowers_row_tie rfl ⟨rfl, rfl⟩ (by kernel_rfl) rfl plain (by kernel_rfl)
end ringPowers
end Go.Proofs.YtihccnfaibiiiaaGreatDoor
