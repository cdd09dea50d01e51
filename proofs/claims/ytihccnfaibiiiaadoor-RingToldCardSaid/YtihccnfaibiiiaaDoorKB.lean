/- What the cards of laws of bytes ask: the argument's block, and that it reads as it did. -/
import Derived.Test.YtihccnfaibiiiaaDoorK0
import Derived.Test.YtihccnfaibiiiaaDoorW4
import Derived.ChangeSlices
namespace Go.Proofs.YtihccnfaibiiiaaDoor
open Go Go.Proofs.XX.Vm Go.Proofs.XX.Rm Go.RowKit Go.ChangeShapes Go.WideShapes Go.ChangeAt Go.Joins Go.Deep Go.Proofs.YtihccnfaibiiiaaDoor.R
set_option maxRecDepth 100000

theorem below_of_all {φ ψ : Ren} {S S' : List Blk} {w w' : World} (h : Step S.length φ S w ψ S' w') : Below w.heap.size w w' :=
  ⟨h.os, h.tape, h.output, h.size, fun r hr => h.frame r hr fun b h1 h2 => by omega⟩
theorem calls_of {M : Int} {f : FuncId} {args args' : List Value} {S S' : List Blk} {φ : Ren} {W : World} (h : CallAt Tryd.prog (Sg1 M) S.length f args S (.bool true) S') (inv : Inv (Sg1 M) φ S W) (hr : LRel φ args args') (hf : ∀ b, S.length ≤ b → φ b = none) :
    Calls Tryd.prog f args'.toArray W fun e w' => e = .returned (.bool true) ∧ Below W.heap.size W w' := by
  refine Calls.mono (h.2 φ W args' inv hr fun b h1 _ => hf b h1) ?_
  rintro e w' ⟨v', ψ, rfl, hv, _, hs⟩
  cases hv
  exact ⟨rfl, below_of_all hs⟩
def noU8 (l : List Value) : Bool := l.all fun | .int .u8 _ => false | _ => true
theorem base_none {M : Int} {b : Nat} (h : (Sg1 M).length ≤ b) : baseRen (Sg1 M).length b = none := by unfold baseRen; rw [if_neg (by omega)]
theorem heap_of_cell {W : World} {b o : Nat} {v : Value} (h : W.cell? ⟨b, o, none⟩ = some v) : ∃ c t fz, W.heap[b]? = some (.cells c t fz) := by
  unfold World.cell? at h
  split at h
  · rename_i c t fz hb; exact ⟨c, t, fz, hb⟩
  · cases h
/-- A law of bytes (and of plain values beside them) in the world. -/
theorem calls_bytes {M : Int} {f : FuncId} {orc : Orc} (horc : OrcOk Tryd.prog (Sg1 M) (orcOf orc)) {rest : List Value} (hpl : rest.all plain = true) {W : World} (inv : Inv (Sg1 M) (baseRen (Sg1 M).length) (Sg1 M) W)
    (hN : ∃ m, callInK Tryd.prog (evCodeK Tryd.prog orc (Sg1 M) m) 3 f (.slice none 0 0 :: rest) (Sg1 M) (fun u _ => some u) = some (.bool true))
    (hE : ∀ c : Nat, ∃ m, callInK Tryd.prog (evCodeK Tryd.prog orc (Sg1 M) m) 3 f (.slice (some ⟨1, 0, none⟩) 0 c :: rest) (Sg1 M) (fun u _ => some u) = some (.bool true))
    (hA : ∀ (et off n c : Nat) (L : List Int), n = L.length → 0 < n → ∃ m, callInK Tryd.prog (evCodeK Tryd.prog orc (Sg1 M) m) 4 f (.slice (some ⟨3, off, none⟩) n c :: rest) [uni, pow, mxl M, ⟨[], et, true, some (.ints .u8 off L)⟩] (fun u _ => some u) = some (.bool true))
    {v : Value} (hv : v = .slice none 0 0 ∨ ∃ (a : Addr) (len cap : Nat) (zs : List Int), v = .slice (some a) len cap ∧ len ≤ cap ∧ zs.length = cap ∧ ∀ i, i < zs.length → W.cell? (a.add i) = some (.int .u8 (zs.getD i 0))) :
    Calls Tryd.prog f (v :: rest).toArray W fun e w' => e = .returned (.bool true) ∧ Below W.heap.size W w' := by
  rcases hv with rfl | ⟨a, len, cap, zs, rfl, hl, hz, hcell⟩
  · obtain ⟨m, e⟩ := hN
    obtain ⟨S', h⟩ := callInK_world (sg1 M) horc e (Nat.le_refl 3) (Nat.le_refl 3)
    exact calls_of h inv (LRel.cons (.nilSlice 0 0) (plains_refl hpl)) fun b hb => base_none hb
  · by_cases h0 : len = 0
    · subst h0
      obtain ⟨m, e⟩ := hE cap
      obtain ⟨S', h⟩ := callInK_world (sg1 M) horc e (Nat.le_refl 3) (Nat.le_refl 3)
      exact calls_of h inv (LRel.cons (.empty _ _ _) (plains_refl hpl)) fun b hb => base_none hb
    · obtain ⟨b, off, rfl, hc⟩ := ints_at hcell (by omega)
      have hc0 := hc 0 (by omega)
      obtain ⟨c, t, fz, hb⟩ := heap_of_cell hc0
      have hcc : ∀ j, j < zs.length → c[off + j]? = some (.int .u8 (zs.getD j 0)) := by
        intro j hj
        have := hc j hj
        simpa [World.cell?, hb] using this
      have no : ∀ (g : Nat) (cs : List Value) (tt : TypeId), g < 3 → (Sg1 M)[g]? = some ⟨cs, tt, true, none⟩ → cs.all plain = true → noU8 cs = true → b ≠ g := by
        intro g cs tt hg hs hp hn e
        subst e
        obtain ⟨fz2, h2⟩ := globalCells inv hg hs hp
        rw [hb] at h2
        cases h2
        have h3 := hcc 0 (by omega)
        have h4 : (Value.int .u8 (zs.getD 0 0)) ∈ cs := by
          have : cs[off + 0]? = some (.int .u8 (zs.getD 0 0)) := by simpa using h3
          exact List.mem_of_getElem? this
        have := (List.all_eq_true.1 hn) _ h4
        cases this
      have n0 : b ≠ 0 := no 0 _ _ (by omega) rfl (by decide) (by decide)
      have n1 : b ≠ 1 := no 1 _ _ (by omega) rfl (by decide) (by decide)
      have n2 : b ≠ 2 := no 2 _ _ (by omega) rfl (by rfl) (by rfl)
      obtain ⟨m, e⟩ := hA t off len cap (zs.take len) (by simp; omega) (by omega)
      obtain ⟨S', h⟩ := callInK_world (sg1 M) horc e (show 3 ≤ 4 by decide) (show 3 ≤ 4 by decide)
      have hbs : b < W.heap.size := (Array.getElem?_eq_some_iff.1 hb).1
      let φ : Ren := fun i => if i = 3 then some b else baseRen 3 i
      have hφ : ∀ i r, φ i = some r → (i = 3 ∧ r = b) ∨ (i < 3 ∧ r = i ∧ baseRen 3 i = some r) := by
        intro i r hi
        by_cases h3 : i = 3
        · simp only [φ, h3, if_true] at hi; cases hi; exact .inl ⟨h3, rfl⟩
        · simp only [φ, h3, if_false] at hi
          have := hi
          unfold baseRen at this
          split at this
          · rename_i hlt; cases this; exact .inr ⟨hlt, rfl, hi⟩
          · cases this
      have hlt4 : ∀ (i : Nat) k, ([uni, pow, mxl M, ⟨[], t, true, some (.ints .u8 off (zs.take len))⟩] : List Blk)[i]? = some k → i < 3 → (Sg1 M)[i]? = some k := by
        intro i k hk hi
        match i, hi with
        | 0, _ => exact hk
        | 1, _ => exact hk
        | 2, _ => exact hk
      refine calls_of h (φ := φ) ⟨⟨⟨fun i k r hk hr => ?_, fun i r hr => ?_, fun i j r hi hj => ?_⟩, fun g hg => ?_⟩, fun g hg => ?_, show 3 ≤ 4 by decide⟩ (LRel.cons (.slice (by simp [φ]) (.inl rfl) hl) (plains_refl hpl)) fun i hi => ?_
      · rcases hφ i r hr with ⟨rfl, rfl⟩ | ⟨h1, rfl, h2⟩
        · cases hk
          refine ⟨_, hb, c, fz, rfl, fun i n hi => ?_, fun h => by cases h⟩
          rw [List.getElem?_take] at hi
          split at hi
          · rename_i hil
            have h5 := hcc i (by omega)
            rw [List.getD, hi] at h5
            simpa using h5
          · cases hi
        · obtain ⟨o, o1, o2⟩ := inv.ok.good.blk r k r (hlt4 r k hk h1) h2
          refine ⟨o, o1, o2.mono fun i r2 e => ?_⟩
          have : i < 3 := by
            unfold baseRen at e
            split at e
            · rename_i hh; exact hh
            · cases e
          simp only [φ, show ¬ i = 3 by omega, if_false]
          exact e
      · rcases hφ i r hr with ⟨_, rfl⟩ | ⟨_, _, h2⟩
        · exact hbs
        · exact inv.ok.good.low i r h2
      · rcases hφ i r hi with ⟨rfl, rfl⟩ | ⟨h1, rfl, _⟩ <;> rcases hφ j _ hj with ⟨rfl, h3⟩ | ⟨h2, h3, _⟩
        · rfl
        · omega
        · omega
        · omega
      · have hg3 : g < 3 := hg
        simp only [φ, show ¬ g = 3 by omega, if_false]
        unfold baseRen; rw [if_pos hg3]
      · have hg3 : g < 3 := hg
        match g, hg3 with
        | 0, _ => rfl
        | 1, _ => rfl
        | 2, _ => rfl
      · have hi4 : 4 ≤ i := hi
        simp only [φ, show ¬ i = 3 by omega, if_false]
        unfold baseRen; rw [if_neg (by omega)]
/-- Nothing that there was has turned. -/
theorem post_mem {H : Type} {enc : TypeId × Value → H} {P : Program} {f : Func} {s : ChangeSpec} {apart fresh handsOn again : Bool} {W W' : World} {args : Array Value} {v : Value} {ds gs : List (DataW H)} {before : List MemPlace}
    (hW : DataW.Whole enc P f.params.toList s.vars apart W args.toList ds gs before)
    (hres : ∀ (b : Nat) (sp : Nat → Bool) (hd : Bool), DataW.TrodAll enc P W' b sp hd f.resultTypes.toList (v.resultList f.resultTypes.size) (s.fn H (ds ++ gs)).results [])
    (hargs : ∀ sp : Nat → Bool, (∀ p ∈ before, sp p.block = true) → DataW.TrodAll enc P W' 0 sp true f.params.toList args.toList (s.fn H (ds ++ gs)).args before)
    (hvars : ∀ sp : Nat → Bool, DataW.TrodVars enc P W' sp s.vars (s.fn H (ds ++ gs)).vars [])
    (hb : Below W.heap.size W W')
    (hok : ∀ (j : Nat) (t : TypeId) (r : Value), f.resultTypes[j]? = some t → (v.resultList f.resultTypes.size)[j]? = some r → Value.okWide P W' .any 0 t r) :
    s.post enc P f apart fresh handsOn again W args v W' := by
  have hold : ∀ p ∈ before, (fun b => decide (b < W.heap.size)) p.block = true := fun p hp => by simpa using hW.lt p hp
  refine ⟨ds, gs, before, [], before, [], hW, hres _ _ _, hargs _ hold, hvars _, World.keptBut_mono (fun p hp => ⟨hp, .inr (.inl hp)⟩) (hb.frame (· ∈ before)), fun _ => ?_⟩
  have hlt := hW.lt
  obtain ⟨_, _, _, _, _, hz, hn⟩ := hW
  refine ⟨hok, _, _, ([] ++ before) ++ [], ⟨[] ++ before, [], trodAll_append (hargs _ (fun _ _ => rfl)) (hres _ _ _), hvars _, rfl, ?_, ?_⟩, ?_⟩
  · intro b off hp
    have hp' : MemPlace.cell b off ∈ before := by simpa using hp
    have h1 := hz b off hp'
    have h2 : W'.heap[b]? = W.heap[b]? := hb.block b (hlt _ hp')
    unfold World.frozen? at h1 ⊢
    simp only [h2]
    exact h1
  · intro ha
    simpa using hn ha
  · intro p hp _
    simpa using hp
/-- The argument reads as it did. -/
theorem bytes_again {H : Type} {enc : TypeId × Value → H} {W W' : World} (hb : Below W.heap.size W W') {v : Value} {d : DataW H} {p : List MemPlace} (h : DataW.Trod enc Tryd.prog W 0 (fun _ => true) true 37 v d p) (hv : ∃ a n c, v = .slice a n c) :
    (v = .slice none 0 0 ∨ ∃ (a : Addr) (len cap : Nat) (zs : List Int), v = .slice (some a) len cap ∧ len ≤ cap ∧ zs.length = cap ∧ ∀ i, i < zs.length → W.cell? (a.add i) = some (.int .u8 (zs.getD i 0))) ∧
    ∀ sp : Nat → Bool, (∀ q ∈ p, sp q.block = true) → DataW.Trod enc Tryd.prog W' 0 sp true 37 v d p := by
  obtain ⟨fuel, hf⟩ := h
  have hc : Tryd.prog.cellsOf 5 = 1 := by kernel_rfl
  obtain ⟨a0, n0, c0, rfl⟩ := hv
  rcases open_ints Tryd.underlying37 Tryd.underlying5 hc hf with ⟨h1, h2⟩ | ⟨a, len, cap, zs, h1, h2, h3, h4, h5, h6, h7, h8⟩
  · simp only [Value.cells, List.cons.injEq, and_true] at h1
    rw [h1]
    simp only [Prod.mk.injEq] at h2
    obtain ⟨rfl, rfl⟩ := h2
    exact ⟨.inl rfl, fun sp _ => ⟨1, by simp [DataW.trod, Value.cells, Tryd.underlying37]⟩⟩
  · simp only [Value.cells, List.cons.injEq, and_true] at h1
    rw [h1]
    simp only [if_true] at h5
    simp only [Prod.mk.injEq] at h6
    obtain ⟨rfl, rfl⟩ := h6
    refine ⟨.inr ⟨a, len, cap, zs, rfl, h3, h5, h7⟩, fun sp hsp => ⟨2, ?_⟩⟩
    refine shut_ints (w := W') 0 Tryd.underlying37 Tryd.underlying5 hc h2 h3 h4 ?_ (fun i hi => ?_) h8
    · by_cases hz : zs.length = 0
      · split <;> omega
      · have : sp a.block = true := hsp (.cell a.block (a.off + 0)) (by
          simp only [MemPlace.row, List.mem_map, List.mem_range]
          exact ⟨0, by omega, rfl⟩)
        rw [this, if_pos rfl]; exact h5
    · have h9 := h7 i hi
      have hblk : (a.add i).block < W.heap.size := by
        unfold World.cell? at h9
        split at h9
        · rename_i c t fz hh; exact (Array.getElem?_eq_some_iff.1 hh).1
        · cases h9
      unfold World.cell? at h9 ⊢
      rw [hb.block _ hblk]
      exact h9
end Go.Proofs.YtihccnfaibiiiaaDoor
