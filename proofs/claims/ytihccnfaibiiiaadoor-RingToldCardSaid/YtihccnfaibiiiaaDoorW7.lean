/- Walks in the world of which some temporaries alone are looked at; calls of plain values out of them. -/
import Derived.Test.YtihccnfaibiiiaaDoorW5
namespace Go.Proofs.XX.Vm
open Go Go.RowKit

noncomputable section
variable {P : Program} {orc : Orc} {Sg : List Blk}
theorem WpW.of_k {β : Type} (hsg : SgOk Sg) (horc : OrcOk P Sg (orcOf orc)) {nb fl : Nat} (hfl : Sg.length ≤ fl) {n : Nat} {c : Code} {T : List Value} {S : List Blk} {k : Ex → List Value → List Blk → Option β} {y : β}
    (h : evCodeK P orc Sg n fl c T S k = some y) : WpW P Sg nb fl c T S fun x T' S' => k x T' S' = some y := by
  obtain ⟨x, T', S', h1, h2⟩ := evCodeK_ok (P := P) (orc := orc) (Sg := Sg) n fl c T S k y h
  exact WpW.of_code hsg horc hfl h1 h2
theorem WpL.of_k {β : Type} (hsg : SgOk Sg) (horc : OrcOk P Sg (orcOf orc)) {nb fl : Nat} (hfl : Sg.length ≤ fl) {fs : Nat → Nat} {k : Ex → List Value → List Blk → Option β} {y : β} : ∀ (l : List Code) (i : Nat) (T : List Value) (S : List Blk),
    evP P orc Sg fl fs i l T S k = some y → WpL P Sg nb fl l T S fun x T' S' => k x T' S' = some y := by
  intro l
  induction l with
  | nil => intro i T S h; exact h
  | cons c l ih =>
    intro i T S h
    refine WpL.step (WpW.mono (WpW.of_k hsg horc hfl h) fun x T' S' h2 => ?_)
    cases x with
    | normal => exact ih _ _ _ h2
    | exit id => exact h2
    | ret => exact h2
theorem WpW.scope {nb fl : Nat} {b : Code} {T : List Value} {S : List Blk} {Q : Ex → List Value → List Blk → Prop} (h : WpW P Sg nb fl b T S Q) : WpW P Sg nb fl (.scope b) T S Q := by
  intro R S0 φ0 w0 d0 φ a w hn hb A hR
  refine wpIn_scopeV (h _ S0 φ0 w0 d0 φ a w hn hb A ?_)
  intro x T' S' ψ a' w' q A'
  have := hR x T' S' ψ a' w' q A'
  cases x <;> exact this
/-- What stands in a scope. -/
def unS : Code → Code
  | .scope c => c
  | c => c
theorem WpW.of_unS {nb fl : Nat} {c : Code} {T : List Value} {S : List Blk} {Q : Ex → List Value → List Blk → Prop} (h : WpW P Sg nb fl (unS c) T S Q) : WpW P Sg nb fl c T S Q := by
  unfold unS at h
  split at h
  · exact WpW.scope h
  · exact h
/-- The pieces of a body that is a head and a scope. -/
def scp (P : Program) (f : FuncId) (i : Nat) : List Code := flatC (unS (nthC (pcs P f) i))
/-- The end, how many temporaries there are, some of them, and the heap. -/
def lenR {α : Type} (l : List α) : Nat := List.rec 0 (fun _ _ ih => ih + 1) l
theorem lenR_eq {α : Type} (l : List α) : lenR l = l.length := by
  induction l with
  | nil => rfl
  | cons a l ih => simp only [List.length_cons, ← ih]; rfl
def picks (T : List Value) : List Nat → List Value
  | [] => []
  | t :: l => nthD T t :: picks T l
def sees (ts : List Nat) : Ex → List Value → List Blk → Option (Ex × Nat × List Value × List Blk) := fun x T S => some (x, lenR T, picks T ts, S)
theorem sees_eq {ts : List Nat} {x y : Ex} {T : List Value} {S S' : List Blk} {n : Nat} {l : List Value} (h : sees ts x T S = some (y, n, l, S')) : x = y ∧ T.length = n ∧ picks T ts = l ∧ S = S' := by
  unfold sees at h
  rw [lenR_eq] at h
  simp only [Option.some.injEq, Prod.mk.injEq] at h
  exact h
theorem WpL.see (hsg : SgOk Sg) (horc : OrcOk P Sg (orcOf orc)) {nb fl : Nat} (hfl : Sg.length ≤ fl) {l m : List Code} {i : Nat} {ts : List Nat} {T : List Value} {S S' : List Blk} {n : Nat} {r : List Value} {Q : Ex → List Value → List Blk → Prop}
    (e : evP P orc Sg fl (fun _ => 1000) i l T S (sees ts) = some (.normal, n, r, S')) (h : ∀ T', T'.length = n → picks T' ts = r → WpL P Sg nb fl m T' S' Q) : WpL P Sg nb fl (l ++ m) T S Q := by
  refine WpL.append (WpL.mono (WpL.of_k hsg horc hfl l i T S e) fun x T' U hk => ?_)
  obtain ⟨rfl, h1, h2, rfl⟩ := sees_eq hk
  exact h T' h1 h2
theorem WpL.seeEnd (hsg : SgOk Sg) (horc : OrcOk P Sg (orcOf orc)) {nb fl : Nat} (hfl : Sg.length ≤ fl) {l : List Code} {i : Nat} {x : Ex} {ts : List Nat} {T : List Value} {S S' : List Blk} {n : Nat} {r : List Value} {Q : Ex → List Value → List Blk → Prop}
    (e : evP P orc Sg fl (fun _ => 1000) i l T S (sees ts) = some (x, n, r, S')) (h : ∀ T', T'.length = n → picks T' ts = r → Q x T' S') : WpL P Sg nb fl l T S Q := by
  refine WpL.mono (WpL.of_k hsg horc hfl l i T S e) fun y T' U hk => ?_
  obtain ⟨rfl, h1, h2, rfl⟩ := sees_eq hk
  exact h T' h1 h2
theorem WpW.see (hsg : SgOk Sg) (horc : OrcOk P Sg (orcOf orc)) {nb fl : Nat} (hfl : Sg.length ≤ fl) {k : Nat} {c : Code} {x : Ex} {ts : List Nat} {T : List Value} {S S' : List Blk} {n : Nat} {r : List Value} {Q : Ex → List Value → List Blk → Prop}
    (e : evCodeK P orc Sg k fl c T S (sees ts) = some (x, n, r, S')) (h : ∀ T', T'.length = n → picks T' ts = r → Q x T' S') : WpW P Sg nb fl c T S Q := by
  refine WpW.mono (WpW.of_k hsg horc hfl e) fun y T' U hk => ?_
  obtain ⟨rfl, h1, h2, rfl⟩ := sees_eq hk
  exact h T' h1 h2
/-- A list by its places: so it need not be taken apart. -/
def spr (T : List Value) : Nat → Nat → List Value
  | _, 0 => []
  | i, m + 1 => nthD T i :: spr T (i + 1) m
theorem spr_cons (v : Value) (T : List Value) : ∀ m i, spr (v :: T) (i + 1) m = spr T i m
  | 0, _ => rfl
  | m + 1, i => by
    show nthD T i :: spr (v :: T) (i + 1 + 1) m = nthD T i :: spr T (i + 1) m
    rw [spr_cons v T m (i + 1)]
theorem spread : ∀ {T : List Value} {n : Nat}, T.length = n → T = spr T 0 n
  | [], n, h => by subst h; rfl
  | v :: T, n, h => by
    subst h
    show v :: T = v :: spr (v :: T) 1 T.length
    rw [spr_cons, ← spread (T := T) rfl]
/-- The end of a body: what the call gives back. -/
def outs (P : Program) (f : FuncId) : Ex → List Value → List Blk → Option (Value × List Blk) := fun x T S => match x with
  | .exit _ => none
  | _ => match outOf P f T S with
    | some v => some (v, S)
    | none => none
theorem outs_eq {f : FuncId} {x : Ex} {T : List Value} {S S' : List Blk} {v : Value} (h : outs P f x T S = some (v, S')) : (match x with | .exit _ => False | _ => True) ∧ S = S' ∧ outOf P f T S = some v := by
  unfold outs at h
  cases x with
  | exit id => cases h
  | normal =>
    simp only at h
    split at h
    · cases h; exact ⟨trivial, rfl, by assumption⟩
    · cases h
  | ret =>
    simp only at h
    split at h
    · cases h; exact ⟨trivial, rfl, by assumption⟩
    · cases h
theorem plain_sh3 {v : Value} (h : plain v = true) (n : Nat) : sh3 n v = true := by
  have hs : ∀ {v : Value}, scalar v = true → sh1 n v = true := fun h => scalar_sh h n
  have hf : ∀ {v : Value}, flat v = true → sh2 n v = true := by
    intro v h
    unfold flat at h
    split at h
    · rename_i x
      show x.toList.all (sh1 n) = true
      simp only [List.all_eq_true] at h ⊢
      exact fun u hu => hs (h u (by simpa using hu))
    · rw [sh2_of (fun x e => by subst e; exact absurd h (by simp [scalar]))]; exact hs h
  unfold plain at h
  split at h
  · rename_i x
    show x.toList.all (sh2 n) = true
    simp only [List.all_eq_true] at h ⊢
    exact fun u hu => hf (h u (by simpa using hu))
  · rw [sh3_of (fun x e => by subst e; exact absurd h (by simp [flat, scalar]))]; exact hf h
theorem calls_of_W (hsg : SgOk Sg) {f : FuncId} {args : List Value} {v : Value} (hb : (P.funcs[f]?).bind (·.body) ≠ none) (hv : plain v = true) (ha : args.all plain = true) (ha2 : args.all (sh2 Sg.length) = true)
    (h : WpW P Sg Sg.length Sg.length (bodyOf P f) (tmps0Of P f args) Sg fun x T' U => (match x with | .exit _ => False | _ => True) ∧ (∃ N, U = Sg ++ N) ∧ outOf P f T' U = some v) {w : World} (inv : Inv Sg (baseRen Sg.length) Sg w) :
    Calls P f args.toArray w fun e w' => e = .returned v ∧ Below w.heap.size w w' := by
  have hs : ∀ k ∈ Sg, shB Sg.length k = true := by
    intro k hk
    have := List.all_eq_true.1 hsg k hk
    simp only [Bool.and_eq_true] at this
    unfold shB
    simp only [Bool.and_eq_true, List.all_eq_true]
    refine ⟨fun c hc => scalar_sh (List.all_eq_true.1 this.1 c hc) _, ?_⟩
    have ho : k.obj = none := by simpa using this.2
    rw [ho]
  have hc := CallAt.of_W (fl := Sg.length) hb (Nat.le_refl _) ⟨Nat.le_refl _, fun _ _ _ => rfl⟩ ha2 hs hs (plain_sh3 hv _) h
  refine Calls.mono (hc.2 (baseRen Sg.length) w args inv (list_refl plain (fun _ => plain_refl) ha) fun b h1 _ => by simp [baseRen]; omega) ?_
  rintro e w' ⟨v', ψ, rfl, hv', _, hs⟩
  exact ⟨by rw [plain_eq hv hv'], below_of_step hs⟩
end
end Go.Proofs.XX.Vm
