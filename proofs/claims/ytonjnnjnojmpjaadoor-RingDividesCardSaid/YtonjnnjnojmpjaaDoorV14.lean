/- A small evaluator over a shadow heap, part 14: what is evaluated is what the program does. -/
import Derived.Test.YtonjnnjnojmpjaaDoorV13
namespace Go.Proofs.XX.Vm
open Go Go.RowKit

section
variable {P : Program}

def markOf (r : Nat) : Deferred := { target := .collected r, args := #[] }
/-- What has come to an activation's deferred calls: the marks of loops over functions, and nothing else. -/
def Defs (m : Nat) (d d' : List Deferred) (ψ : Ren) (w' : World) : Prop :=
  ∃ rs : List Nat, d' = rs.map markOf ++ d ∧ rs.Nodup ∧ ∀ r ∈ rs, m ≤ r ∧ w'.heap[r]? = some (.deferred (some [])) ∧ ∀ b, ψ b ≠ some r
theorem Defs.refl (m : Nat) (d : List Deferred) (ψ : Ren) (w : World) : Defs m d d ψ w := ⟨[], rfl, List.nodup_nil, by simp⟩
theorem Defs.trans {m : Nat} {d d1 d2 : List Deferred} {fl : Nat} {ψ χ : Ren} {S1 S2 : List Blk} {w1 w2 : World} (h : Defs m d d1 ψ w1) (s : Step fl ψ S1 w1 χ S2 w2) (hm : m ≤ w1.heap.size) (k : Defs w1.heap.size d1 d2 χ w2) :
    Defs m d d2 χ w2 := by
  obtain ⟨rs, rfl, n1, h1⟩ := h
  obtain ⟨qs, rfl, n2, k1⟩ := k
  have lt : ∀ r ∈ rs, r < w1.heap.size := fun r hr => (Array.getElem?_eq_some_iff.1 (h1 r hr).2.1).1
  refine ⟨qs ++ rs, by simp, ?_, ?_⟩
  · rw [List.nodup_append]
    refine ⟨n2, n1, fun a ha b hb e => ?_⟩
    subst e
    have := lt a hb
    have := (k1 a ha).1
    omega
  · intro r hr
    rcases List.mem_append.1 hr with hr | hr
    · obtain ⟨a1, a2, a3⟩ := k1 r hr; exact ⟨Nat.le_trans hm a1, a2, a3⟩
    · obtain ⟨a1, a2, a3⟩ := h1 r hr
      refine ⟨a1, by rw [s.frame r (lt r hr) fun b _ _ => a3 b]; exact a2, fun b hb => ?_⟩
      rcases s.dom b r hb with h | ⟨_, _, h⟩
      · exact a3 b h
      · have := lt r hr; omega

/-- What is to follow where code has been evaluated. -/
def Then (fl : Nat) (φ : Ren) (S : List Blk) (w : World) (d : List Deferred) (x : Ex) (T' : List Value) (S' : List Blk) (Q : Exit → Act → World → Prop) : Prop :=
  ∀ (ψ : Ren) (a' : Act) (w' : World), Good ψ S' w' → LRel ψ T' a'.tmps.toList → Defs w.heap.size d a'.defers ψ w' → Step fl φ S w ψ S' w' → Q x.to a' w'

abbrev RecT := Bool → Nat → Code → List Value → List Blk → Option (Ex × List Value × List Blk)

def CodeOk (P : Program) (Sg : List Blk) (rec : RecT) : Prop :=
  ∀ (b : Bool) (fl : Nat) (c : Code) (T : List Value) (S : List Blk) (x : Ex) (T' : List Value) (S' : List Blk), rec b fl c T S = some (x, T', S') → Sg.length ≤ fl → Sg.length ≤ S.length →
    Ext fl S S' ∧
    (∀ (ro : Option Nat), ro.isSome = b → ∀ (Q : Exit → Act → World → Prop) (φ : Ren) (a : Act) (w : World), Inv Sg φ S w → LRel φ T a.tmps.toList → Fresh φ S.length S'.length → Then fl φ S w a.defers x T' S' Q →
      c.wpIn (wideAt ro) 0 P Q a w)

theorem leaves_marks {F : Fence} {fn : Func} {tmps : Array Value} {R : Ending → World → Prop} : ∀ (rs : List Nat) (w : World), rs.Nodup → (∀ r ∈ rs, w.heap[r]? = some (.deferred (some []))) →
    (∀ w' : World, (∀ s, s ∉ rs → w'.heap[s]? = w.heap[s]?) → w'.heap.size = w.heap.size → w'.os = w.os → w'.tape = w.tape → w'.output = w.output → ∃ v, (results fn tmps).run P w' = .ok v w' ∧ R (.returned v) w') →
    LeavesInM F 0 P fn tmps R (rs.map markOf ++ []) .returning w := by
  intro rs
  induction rs with
  | nil =>
    intro w _ _ h
    obtain ⟨v, h1, h2⟩ := h w (fun _ _ => rfl) rfl rfl rfl rfl
    exact ⟨v, h1, h2⟩
  | cons r rs ih =>
    intro w hn hr h
    rw [List.nodup_cons] at hn
    refine ⟨by simp, .inl ⟨r, _, rfl, run_takeDeferred (hr r (List.mem_cons_self ..)), ?_⟩⟩
    have hheap : ∀ s, s ≠ r → (w.putObj r (.deferred none)).heap[s]? = w.heap[s]? := by
      intro s hs
      simp only [World.putObj]
      rw [Array.getElem?_setIfInBounds_ne (fun e => hs e.symm)]
    refine ih _ hn.2 (fun s hs => ?_) fun w' g1 g2 g3 g4 g5 => ?_
    · rw [hheap s (fun e => hn.1 (e ▸ hs))]; exact hr s (List.mem_cons_of_mem _ hs)
    · refine h w' (fun s hs => ?_) (by rw [g2]; simp [World.putObj]) g3 g4 g5
      rw [g1 s (fun e => hs (List.mem_cons_of_mem _ e)), hheap s (fun e => hs (e ▸ List.mem_cons_self ..))]

theorem callIn_ok {Sg : List Blk} {rec : RecT} (hcode : CodeOk P Sg rec) {fl : Nat} {f : FuncId} {args : List Value} {S S' : List Blk} {v : Value}
    (h : callIn P rec fl f args S = some (v, S')) (hfl : Sg.length ≤ fl) (hS : Sg.length ≤ S.length) : Ext fl S S' ∧ ∀ (φ : Ren) (w : World) (args' : List Value), Inv Sg φ S w → LRel φ args args' → Fresh φ S.length S'.length →
      Calls P f args'.toArray w fun e w' => ∃ v' ψ, e = .returned v' ∧ VRel ψ v v' ∧ Good ψ S' w' ∧ Step fl φ S w ψ S' w' := by
  unfold callIn at h
  simp only [forceK_eq] at h
  split at h
  · rename_i fn hfn
    split at h
    · rename_i c hbody
      split at h
      · cases h
      · rename_i x T' S1 hne hev
        split at h
        · rename_i vs hvs
          cases h
          obtain ⟨x1, k1⟩ := hcode _ _ _ _ _ _ _ _ hev hfl hS
          refine ⟨x1, fun φ w args' inv hargs hf => (callsIn_wide (n := 0)).1 ?_⟩
          refine callsIn_of_wp_marks (n := 0) hfn hbody trivial (show c.wpIn (wideAt none) 0 P _ _ w from k1 none rfl _ φ _ w inv ?_ hf ?_)
          · have hl : args'.toArray.size = args.length := by simpa using hargs.1.symm
            rw [hl]
            simp only [Array.toList_append, Array.toList_replicate]
            exact hargs.append (list_refl plain (fun _ => plain_refl) (by simp [undef, plain]))
          · intro ψ a' w' g1 g2 g3 g4
            obtain ⟨rs, hd, hnd, hrs⟩ := g3
            have key : LeavesInM (wideAt none) 0 P fn a'.tmps (fun e w' => ∃ v' ψ, e = .returned v' ∧ VRel ψ (oneVal vs) v' ∧ Good ψ S' w' ∧ Step fl φ S w ψ S' w') a'.defers .returning w' := by
              rw [hd]
              refine leaves_marks rs w' hnd (fun r hr => (hrs r hr).2.1) fun w2 f1 f2 f3 f4 f5 => ?_
              have g1' : Good ψ S' w2 := ⟨fun b k r hk hr => by
                obtain ⟨o, h1, h2⟩ := g1.blk b k r hk hr
                exact ⟨o, by rw [f1 r (fun e => (hrs r e).2.2 b hr)]; exact h1, h2⟩, fun b r hb => by rw [f2]; exact g1.low b r hb, g1.inj⟩
              obtain ⟨v2, r3, r4⟩ := run_results (P := P) g1' g2 hvs
              refine ⟨v2, r3, v2, ψ, rfl, r4, g1', ⟨g4.ext, g4.dom, g4.len, g4.keep, fun r hr hn => ?_, by rw [f2]; exact g4.size, f3.trans g4.os, f4.trans g4.tape, f5.trans g4.output⟩⟩
              rw [f1 r (fun e => by have := (hrs r e).1; omega), g4.frame r hr hn]
            cases x with
            | normal => exact key
            | ret => exact key
            | exit id => exact (hne id rfl).elim
        · cases h
      · cases h
    · cases h
  · cases h
end
end Go.Proofs.XX.Vm
