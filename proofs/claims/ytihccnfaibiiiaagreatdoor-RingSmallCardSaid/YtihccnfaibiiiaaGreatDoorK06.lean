/- Ring: Least and Same, both sides. -/
import Derived.Test.YtihccnfaibiiiaaGreatDoorK05
import Derived.Test.YtihccnfaibiiiaaGreatDoorCards
import Derived.Test.YtihccnfaibiiiaaGreatDoorTie
import Derived.WalkKit
import Derived.ProofKit
import Derived.OpenShut
import Derived.Deep.DeepHandedRow
import Derived.Lib.LaidTab
import Derived.Lib.SmallJoins
import Derived.Laws.IdiomArrays
import Derived.Test.YtihccnfaibiiiaaGreatDoorK04
namespace Go.Proofs.YtihccnfaibiiiaaGreatDoor.R
open Go Go.Proofs.XX.Vm Go.Proofs.XX.Rm Go.RowKit
set_option maxRecDepth 100000

theorem rem2_eq {a c : Int} (h1 : -9223372036854775808 ≤ a - c) (h2 : a - c ≤ 9223372036854775807) : (rem2 a c != 0) = !(decide ((a - c) % 2 = 0)) := by
  unfold rem2
  rw [w_eq _ h1 h2, Bool.eq_iff_iff]
  simp only [bne_iff_ne, ne_eq, Bool.not_eq_true', decide_eq_false_iff_not]
  have := Int.emod_two_eq (a - c)
  have h3 : (a - c).tmod 2 = 0 ↔ (a - c) % 2 = 0 := by
    rw [← Int.dvd_iff_tmod_eq_zero, ← Int.dvd_iff_emod_eq_zero]
  rw [h3]
theorem tdiv2 {n : Int} (h : n % 2 = 0) : n.tdiv 2 = n / 2 := by
  rw [Int.tdiv_eq_ediv_of_dvd (Int.dvd_of_emod_eq_zero h)]
theorem goesW_eq {x : N} (h : x.Fit) : N.goesW x = x.goes := by
  obtain ⟨⟨a1, a2, b1, b2, c1, c2, d1, d2⟩, ⟨e1, e2, f1, f2, g1, g2, k1, k2⟩⟩ := h
  simp only [N.up] at *
  unfold N.goesW
  rw [rem2_eq (by omega) (by omega), rem2_eq (by omega) (by omega)]
  simp only [N.goes, N.even, Bool.not_not]
  congr 1
  rw [Bool.eq_iff_iff]; simp
theorem dnW_eq {x : N} (h : x.Fit) (he : x.even = true) (h1 : -9223372036854775807 ≤ x.k) (h2 : x.k ≤ 9223372036854775807) : N.dnW x = x.dn := by
  rw [N.even_iff] at he
  obtain ⟨⟨a1, a2, b1, b2, c1, c2, d1, d2⟩, ⟨e1, e2, f1, f2, g1, g2, k1, k2⟩⟩ := h
  simp only [N.up] at *
  have r1 : w ((w (x.b - x.d)).tdiv 2) = (x.b - x.d) / 2 := by rw [w_eq (x.b - x.d) (by omega) (by omega), tdiv2 he.2, w_eq _ (by omega) (by omega)]
  have r2 : w ((w (x.a + x.c)).tdiv 2) = (x.a + x.c) / 2 := by rw [w_eq (x.a + x.c) (by omega) (by omega), tdiv2 (by omega), w_eq _ (by omega) (by omega)]
  have r3 : w ((w (x.b + x.d)).tdiv 2) = (x.b + x.d) / 2 := by rw [w_eq (x.b + x.d) (by omega) (by omega), tdiv2 (by omega), w_eq _ (by omega) (by omega)]
  have r4 : w ((w (x.c - x.a)).tdiv 2) = (x.c - x.a) / 2 := by rw [w_eq (x.c - x.a) (by omega) (by omega), tdiv2 (by omega), w_eq _ (by omega) (by omega)]
  have r5 : w (x.k - 1) = x.k - 1 := w_eq _ (by omega) (by omega)
  ext
  · exact r1
  · exact r2
  · exact r3
  · exact r4
  · exact r5
theorem dnWL_eq : ∀ (n : Nat) (x : N), x.Fit → x.k ≤ 9223372036854775807 → N.dnWL n x = x.nfL n
  | 0, _, _, _ => rfl
  | n + 1, x, h, hk => by
    simp only [N.dnWL, N.nfL, goesW_eq h]
    cases hg : x.goes with
    | false => rfl
    | true =>
      rw [N.goes_iff] at hg
      simp only [cond_true]
      rw [dnW_eq h hg.2 (by omega) hk, dnWL_eq n x.dn (h.dn hg.2) (by simp only [N.dn]; omega)]
theorem z0_eq (x : N) : z0 x = x.zero := by
  unfold z0 N.zero
  cases x.a == 0 <;> cases x.b == 0 <;> cases x.c == 0 <;> cases x.d == 0 <;> rfl
/-- Right numbers. -/
def okB (x : N) : Bool := rgB x && inB x
theorem rgB_iff (x : N) : rgB x = true ↔ 0 ≤ x.k ∧ x.k ≤ 60 := by
  simp only [rgB, Bool.and_eq_true, Bool.not_eq_true', decide_eq_false_iff_not]; omega
theorem inB_iff (x : N) : inB x = true ↔ x.In 1073741824 := by
  unfold inB
  rw [within_iff _ _ _ _ _ (by omega) (by omega)]
  exact ⟨fun ⟨h1, h2, h3, h4, h5, h6, h7, h8⟩ => ⟨h1, h2, h3, h4, h5, h6, h7, h8⟩, fun h => ⟨h.a1, h.a2, h.b1, h.b2, h.c1, h.c2, h.d1, h.d2⟩⟩
theorem okB_iff (x : N) : okB x = true ↔ 0 ≤ x.k ∧ x.k ≤ 60 ∧ x.In 1073741824 := by
  simp only [okB, Bool.and_eq_true, rgB_iff, inB_iff, and_assoc]
theorem okB_O : okB O = true := by decide
theorem okB_nf {x : N} (h : okB x = true) : okB x.nf = true := by
  rw [okB_iff] at *
  have := N.nf_k h.1
  exact ⟨this.1, by omega, h.2.2.nf⟩
theorem okB_parts {x : N} (h : okB x = true) : rgB x = true ∧ inB x = true := by simpa [okB] using h
/-- A value, or that it is too large. -/
def fitS (y : N) : N × Int := bif okB y then (y, 0) else (O, 8)
theorem fitS_of {y : N} (h : okB y = true) : fitS y = (y, 0) := by unfold fitS; rw [h]; rfl
theorem leastW_eq {x : N} (h : x.Fit) (h0 : 0 ≤ x.k) (hk : x.k ≤ 9223372036854775807) : leastW x = fitS x.nf := by
  have hm : midW x = x := by unfold midW; rw [show (-x.k).toNat = 0 by omega]; rfl
  unfold leastW endW
  rw [hm, z0_eq, dnWL_eq _ x h hk]
  cases hz : x.zero with
  | true => rw [N.nf_of_zero hz]; unfold fitS; rw [okB_O]; rfl
  | false =>
    have e : x.nf = x.nfL x.k.toNat := by unfold N.nf; rw [hz]; rfl
    rw [e]; unfold fitS okB
    cases rgB (x.nfL x.k.toNat) <;> cases inB (x.nfL x.k.toNat) <;> rfl
theorem symN_of {x : N} (h : okB x = true) : symN x = true := by
  obtain ⟨h0, h1, ⟨a1, a2, b1, b2, c1, c2, d1, d2⟩⟩ := (okB_iff x).1 h
  simp only [symN, symB, Bool.and_eq_true, decide_eq_true_eq]
  omega
/-- Three ends: a right number, one with a wrong power, one with too large a coefficient. -/
def okT (x : N) (ok : OT) (bad : Int → OT) : OT := .ite (rgB x) (.ite (inB x) ok (bad 8)) (bad 3)
def bif3 {α : Type} (x : N) (ok : α) (bad : Int → α) : α := bif rgB x then (bif inB x then ok else bad 8) else bad 3
theorem okT_get {x : N} {ok : OT} {bad : Int → OT} : (okT x ok bad).get = bif3 x ok.get fun n => (bad n).get := rfl
theorem bif3_ok {α : Type} {x : N} {ok : α} {bad : Int → α} (h : okB x = true) : bif3 x ok bad = ok := by
  obtain ⟨h1, h2⟩ := okB_parts h
  unfold bif3; rw [h1, h2]; rfl
/-- Least. -/
def badN (n : Int) : OT := .val (resV (O, n))
def leaT (x : N) : OT := okT x (.val (resV (x.nf, 0))) badN
abbrev LB : List Con := [cChk, cLst]
theorem LB_ok (M : Int) : ∀ c ∈ LB, ConOk M c := mem_cons_ok (cChk_ok M) (mem_cons_ok (cLst_ok M) nil_ok)
theorem t15 (M : Int) (m : Nat) (x : N) : runK Tryz.prog (orcL LB) (Sg1 M) (m + 60) 54 [N.v x] =
    bif3 x (bif i64B x.k then (bif z0 x then some (resV (O, 0)) else bif rgB (endW x) then (bif inB (endW x) then some (resV (endW x, 0)) else some (resV (O, 8))) else some (resV (O, 8))) else none) fun n => some (resV (O, n)) := by kernel_rfl
theorem least_some {x : N} (h : x.Fit) (h0 : 0 ≤ x.k) (hk : x.k ≤ 9223372036854775807) : (bif i64B x.k then (bif z0 x then some (resV (O, 0)) else bif rgB (endW x) then (bif inB (endW x) then some (resV (endW x, 0)) else some (resV (O, 8))) else some (resV (O, 8))) else none) = some (resV (fitS x.nf)) := by
  have hi : i64B x.k = true := by simp only [i64B, Bool.and_eq_true, decide_eq_true_eq]; omega
  rw [← leastW_eq h h0 hk, hi]
  unfold leastW
  cases z0 x <;> cases rgB (endW x) <;> cases inB (endW x) <;> rfl
theorem bif3_ext {α : Type} {x : N} {a b : α} {f g : Int → α} (h : okB x = true → a = b) (hf : ∀ n, f n = g n) : bif3 x a f = bif3 x b g := by
  unfold bif3
  cases h1 : rgB x
  · exact hf 3
  · cases h2 : inB x
    · exact hf 8
    · exact h (by unfold okB; rw [h1, h2]; rfl)
theorem get_some {t : OT} {v : Value} {o : Option Value} (h : t.get = some v) (e : o = t.get) : o = some v := e.trans h
theorem cLea_ok (M : Int) : ConOk M (con1 54 leaT) := con1_ok (LB_ok M) fun x v h => by
  refine EvF.of_eq 60 fun m => get_some h ?_
  rw [t15]
  unfold leaT
  rw [okT_get]
  refine bif3_ext (fun ho => ?_) fun n => rfl
  obtain ⟨h0, h1, h2⟩ := (okB_iff x).1 ho
  rw [least_some (N.Fit.of_in (h2.mono (by omega))) h0 (by omega), fitS_of (okB_nf ho)]; rfl
abbrev LBR : List Con := [cChkR, cFrm, cZer]
theorem LBR_ok (M : Int) : ∀ c ∈ LBR, ConOk M c := mem_cons_ok (cChkR_ok M) (mem_cons_ok (cFrm_ok M) (mem_cons_ok (cZer_ok M) nil_ok))
theorem t13 (M : Int) (m : Nat) (x : N) : runK Tryz.prog (orcL LBR) (Sg1 M) (m + 60) 94 [N.v x] =
    bif3 x (bif symN x then some (resV (x.nf, 0)) else none) fun n => some (resV (O, n)) := by kernel_rfl
theorem cLeaR_ok (M : Int) : ConOk M (con1 94 leaT) := con1_ok (LBR_ok M) fun x v h => by
  refine EvF.of_eq 60 fun m => get_some h ?_
  rw [t13]
  unfold leaT
  rw [okT_get]
  refine bif3_ext (fun ho => ?_) fun n => rfl
  rw [symN_of ho]; rfl

/-- Same. -/
def eqN (x y : N) : Bool := (x.a == y.a) && ((x.b == y.b) && ((x.c == y.c) && ((x.d == y.d) && ((x.k == y.k) && true))))
theorem eqN_iff (x y : N) : eqN x y = true ↔ x = y := by
  simp only [eqN, Bool.and_eq_true, beq_iff_eq, and_true]
  exact ⟨fun ⟨h1, h2, h3, h4, h5⟩ => N.ext h1 h2 h3 h4 h5, fun h => by subst h; exact ⟨rfl, rfl, rfl, rfl, rfl⟩⟩
def resB (r : Bool × Int) : Value := .tuple #[.bool r.1, .int .i64 r.2]
def samT (x y : N) : OT := okT x (okT y (.val (resB (eqN x.nf y.nf, 0))) fun n => .val (resB (false, n))) fun n => .val (resB (false, n))
/-- Least of a right number. -/
def okV (x : N) (v : Value) : OT := .ite (okB x) (.val v) .no
theorem okV_get {x : N} {v u : Value} (h : (okV x v).get = some u) : okB x = true ∧ u = v := OT.pre h
theorem leaOk_ok (M : Int) : ConOk M (con1 54 fun x => okV x (resV (x.nf, 0))) := con1_ok (LB_ok M) fun x v h => by
  obtain ⟨ho, rfl⟩ := okV_get h
  obtain ⟨h0, h1, h2⟩ := (okB_iff x).1 ho
  refine EvF.of_eq 60 fun m => ?_
  rw [t15, bif3_ok ho, least_some (N.Fit.of_in (h2.mono (by omega))) h0 (by omega), fitS_of (okB_nf ho)]
abbrev LC : List Con := [cChk, con1 54 fun x => okV x (resV (x.nf, 0))]
theorem LC_ok (M : Int) : ∀ c ∈ LC, ConOk M c := mem_cons_ok (cChk_ok M) (mem_cons_ok (leaOk_ok M) nil_ok)
theorem t16 (M : Int) (m : Nat) (x y : N) : runK Tryz.prog (orcL LC) (Sg1 M) (m + 60) 96 [N.v x, N.v y] =
    bif3 x (bif3 y (bif okB x then (bif okB y then some (resB (eqN x.nf y.nf, 0)) else none) else none) fun n => some (resB (false, n))) fun n => some (resB (false, n)) := by kernel_rfl
theorem cSam_ok (M : Int) : ConOk M (con2 96 samT) := con2_ok (LC_ok M) fun x y v h => by
  refine EvF.of_eq 60 fun m => get_some h ?_
  rw [t16]
  unfold samT
  rw [okT_get]
  refine bif3_ext (fun ho => ?_) fun n => rfl
  rw [okT_get]
  refine bif3_ext (fun hp => ?_) fun n => rfl
  rw [ho, hp]; rfl
abbrev LCR : List Con := [cChkR, con1 42 fun x => .ite (symN x) (.val (N.v x.nf)) .no]
theorem LCR_ok (M : Int) : ∀ c ∈ LCR, ConOk M c := mem_cons_ok (cChkR_ok M) (mem_cons_ok (cFrm_ok M) nil_ok)
theorem t14 (M : Int) (m : Nat) (x y : N) : runK Tryz.prog (orcL LCR) (Sg1 M) (m + 60) 95 [N.v x, N.v y] =
    bif3 x (bif3 y (bif symN x then (bif symN y then some (resB (eqN x.nf y.nf, 0)) else none) else none) fun n => some (resB (false, n))) fun n => some (resB (false, n)) := by kernel_rfl
theorem cSamR_ok (M : Int) : ConOk M (con2 95 samT) := con2_ok (LCR_ok M) fun x y v h => by
  refine EvF.of_eq 60 fun m => get_some h ?_
  rw [t14]
  unfold samT
  rw [okT_get]
  refine bif3_ext (fun ho => ?_) fun n => rfl
  rw [okT_get]
  refine bif3_ext (fun hp => ?_) fun n => rfl
  rw [symN_of ho, symN_of hp]; rfl
end Go.Proofs.YtihccnfaibiiiaaGreatDoor.R
/- Ring: the law RingLeast. -/
namespace Go.Proofs.YtihccnfaibiiiaaGreatDoor.R
open Go Go.Proofs.XX.Vm Go.Proofs.XX.Rm Go.RowKit
set_option maxRecDepth 100000

theorem con1_val {M : Int} {f : FuncId} {g : N → OT} {h : N → Value} (hc : ConOk M (con1 f g)) (e : ∀ x, (g x).get = some (h x)) : ConOk M (con1 f fun x => .val (h x)) := by
  intro args t v ht hv w inv
  simp only [con1] at ht
  split at ht
  · rename_i u
    split at ht
    · rename_i x hx
      cases ht; cases hv
      exact hc [u] (g x) (h x) (by simp only [con1, hx]) (e x) w inv
    · cases ht
  · cases ht
theorem con2_val {M : Int} {f : FuncId} {g : N → N → OT} {h : N → N → Value} (hc : ConOk M (con2 f g)) (e : ∀ x y, (g x y).get = some (h x y)) : ConOk M (con2 f fun x y => .val (h x y)) := by
  intro args t v ht hv w inv
  simp only [con2] at ht
  split at ht
  · rename_i u t2
    split at ht
    · rename_i x y hx hy
      cases ht; cases hv
      exact hc [u, t2] (g x y) (h x y) (by simp only [con2, hx, hy]) (e x y) w inv
    · cases ht
  · cases ht
def chkS (x : N) : Int := bif3 x 0 id
def leaS (x : N) : N × Int := bif3 x (x.nf, 0) fun n => (O, n)
def samS (x y : N) : Bool × Int := bif3 x (bif3 y (eqN x.nf y.nf, 0) fun n => (false, n)) fun n => (false, n)
def chkT (x : N) : OT := okT x (.val (.int .i64 0)) fun n => .val (.int .i64 n)
theorem chkS_get (x : N) : (chkT x).get = some (.int .i64 (chkS x)) := by unfold chkT chkS; rw [okT_get]; unfold bif3; cases rgB x <;> cases inB x <;> rfl
theorem leaS_get (x : N) : (leaT x).get = some (resV (leaS x)) := by unfold leaT leaS badN; rw [okT_get]; unfold bif3; cases rgB x <;> cases inB x <;> rfl
theorem samS_get (x y : N) : (samT x y).get = some (resB (samS x y)) := by
  unfold samT samS; simp only [okT_get]; unfold bif3
  cases rgB x <;> cases inB x <;> cases rgB y <;> cases inB y <;> rfl
abbrev LLeast : List Con := [con1 62 fun x => .val (.int .i64 (chkS x)), con1 57 fun x => .val (.int .i64 (chkS x)), con1 54 fun x => .val (resV (leaS x)), con1 94 fun x => .val (resV (leaS x)),
  con2 96 fun x y => .val (resB (samS x y)), con2 95 fun x y => .val (resB (samS x y)), cAwk]
theorem LLeast_ok (M : Int) : ∀ c ∈ LLeast, ConOk M c :=
  mem_cons_ok (con1_val (g := chkT) (cChk_ok M) chkS_get) (mem_cons_ok (con1_val (g := chkT) (cChkR_ok M) chkS_get) (mem_cons_ok (con1_val (cLea_ok M) leaS_get) (mem_cons_ok (con1_val (cLeaR_ok M) leaS_get)
    (mem_cons_ok (con2_val (cSam_ok M) samS_get) (mem_cons_ok (con2_val (cSamR_ok M) samS_get) (mem_cons_ok (cAwk_ok M) nil_ok))))))
end Go.Proofs.YtihccnfaibiiiaaGreatDoor.R
/- Ring: what every card asks: the variables' cells, numbers opened and shut, a world for the witness. -/
namespace Go.Proofs.YtihccnfaibiiiaaGreatDoor
open Go Go.Proofs.XX.Vm Go.Proofs.XX.Rm Go.RowKit Go.ChangeShapes Go.WideShapes Go.ChangeAt Go.Joins Go.Deep Go.Proofs.YtihccnfaibiiiaaGreatDoor.R
set_option maxRecDepth 100000

theorem own : ownKnob Tryz.prog.godebug = none := by kernel_rfl
abbrev laids : List (String × DataW Unit) := [("math/bits.deBruijn32tab", Rows.laid_math_bits_deBruijn32tab), ("math/bits.deBruijn64tab", Rows.laid_math_bits_deBruijn64tab), ("internal/strconv.uint64pow10", Rows.laid_internal_strconv_uint64pow10), ("spoondrift/ring.units", Rows.laid_spoondrift_ring_units)]
theorem rowSize {W : World} (sh : W.ShapedOpen Tryz.prog) (g : Nat) (t : TypeId) (n : Nat) (hg : g < Tryz.prog.globals.size) (h : ((((begin Tryz.prog (fun _ _ => 0) default).world.heap[g]?).bind Obj.row?).map fun p => (p.2, p.1.size)) = some (t, n)) (hbu : Tryz.prog.buildable t = true) : ∃ cs, W.heap[g]? = some (.cells cs t) ∧ cs.size = n ∧ Row.ok Tryz.prog W .any 0 t cs := by
  cases hr : ((begin Tryz.prog (fun _ _ => 0) default).world.heap[g]?).bind Obj.row? with
  | none => rw [hr] at h; cases h
  | some p =>
    rw [hr] at h
    obtain ⟨z, t'⟩ := p
    simp only [Option.map_some, Option.some.injEq, Prod.mk.injEq] at h
    obtain ⟨rfl, rfl⟩ := h
    obtain ⟨cs, h1, h2, h3⟩ := sh.1 g z _ hg hr
    exact ⟨cs, h1, h2, h3 hbu⟩
/-- The datum of a number. -/
def dN {H : Type} (x : N) : DataW H := .agg [.lit (.int .i64 x.a), .lit (.int .i64 x.b), .lit (.int .i64 x.c), .lit (.int .i64 x.d), .lit (.int .i64 x.k)]
def wfI (n : Int) : Bool := (Lit.int .i64 n).wf
def wfN (x : N) : Bool := wfI x.a && wfI x.b && wfI x.c && wfI x.d && wfI x.k
theorem shutN {H : Type} {enc : TypeId × Value → H} {W : World} {b : Nat} {sp : Nat → Bool} {hd : Bool} (x : N) (hx : wfN x = true) : DataW.Trod enc Tryz.prog W b sp hd 23 (N.v x) (dN x) [] := by
  simp only [wfN, Bool.and_eq_true] at hx
  obtain ⟨⟨⟨⟨h0, h1⟩, h2⟩, h3⟩, h4⟩ := hx
  refine ⟨2, ?_⟩
  have i := fun (n : Int) (hn : wfI n = true) => trod_int_mk (enc := enc) (w := W) (base := b) (spare := sp) (held := hd) (k := .i64) (n := n) 0 Tryz.underlying3 hn
  have := trod_struct_mk (enc := enc) (w := W) (base := b) (spare := sp) (held := hd) (n := 1) (cs := (N.v x).cells.toList) (xs := [(.lit (.int .i64 x.a), []), (.lit (.int .i64 x.b), []), (.lit (.int .i64 x.c), []), (.lit (.int .i64 x.d), []), (.lit (.int .i64 x.k), [])])
    Tryz.underlying23 (by kernel_rfl) (by
      have hc : Tryz.prog.cellsOf 3 = 1 := by kernel_rfl
      simp [N.v, Value.cells, hc, i x.a h0, i x.b h1, i x.c h2, i x.d h3, i x.k h4])
  simpa [dN] using this
theorem openN {H : Type} {enc : TypeId × Value → H} {W : World} {r : Reach} {b b2 : Nat} {sp : Nat → Bool} {hd : Bool} {v : Value} {d : DataW H} {p : List MemPlace} (hv : Value.okWide Tryz.prog W r b 23 v) (h : DataW.Trod enc Tryz.prog W b2 sp hd 23 v d p) :
    ∃ x : N, v = N.v x ∧ d = dN x ∧ p = [] ∧ wfN x = true := by
  obtain ⟨cs, rfl, hsz⟩ := okWide_struct Tryz.underlying23 hv
  obtain ⟨fuel, hf⟩ := h
  obtain ⟨xs, n, _, hx, _, hlen, hg⟩ := DataW.trod_struct Tryz.underlying23 hf
  obtain ⟨l⟩ := cs
  have hs5 : l.length = 5 := hsz.trans (by kernel_rfl)
  match l, hs5, xs, hlen with
  | [c0, c1, c2, c3, c4], _, [y0, y1, y2, y3, y4], _ =>
    have g0 := hg 0 _ rfl; have g1 := hg 1 _ rfl; have g2 := hg 2 _ rfl; have g3 := hg 3 _ rfl; have g4 := hg 4 _ rfl
    simp only [Value.cells, List.getElem?_cons_zero, List.getElem?_cons_succ] at g0 g1 g2 g3 g4
    obtain ⟨z0, a0, e0, w0⟩ := DataW.trod_int Tryz.underlying3 g0
    obtain ⟨z1, a1, e1, w1⟩ := DataW.trod_int Tryz.underlying3 g1
    obtain ⟨z2, a2, e2, w2⟩ := DataW.trod_int Tryz.underlying3 g2
    obtain ⟨z3, a3, e3, w3⟩ := DataW.trod_int Tryz.underlying3 g3
    obtain ⟨z4, a4, e4, w4⟩ := DataW.trod_int Tryz.underlying3 g4
    subst e0 e1 e2 e3 e4
    cases a0; cases a1; cases a2; cases a3; cases a4
    simp only [Prod.mk.injEq] at hx
    exact ⟨⟨z0, z1, z2, z3, z4⟩, rfl, hx.1, hx.2, by simp only [wfN, wfI, w0, w1, w2, w3, w4, Bool.and_self]⟩
/-- Nothing that there was has turned, and the input holds no memory. -/
theorem post_num {H : Type} {enc : TypeId × Value → H} {P : Program} {f : Func} {s : ChangeSpec} {apart fresh handsOn again : Bool} {W W' : World} {args : Array Value} {v : Value} {ds gs : List (DataW H)}
    (hW : DataW.Whole enc P f.params.toList s.vars apart W args.toList ds gs [])
    (hres : ∀ (b : Nat) (sp : Nat → Bool) (hd : Bool), DataW.TrodAll enc P W' b sp hd f.resultTypes.toList (v.resultList f.resultTypes.size) (s.fn H (ds ++ gs)).results [])
    (hargs : ∀ sp : Nat → Bool, DataW.TrodAll enc P W' 0 sp true f.params.toList args.toList (s.fn H (ds ++ gs)).args [])
    (hvars : ∀ sp : Nat → Bool, DataW.TrodVars enc P W' sp s.vars (s.fn H (ds ++ gs)).vars [])
    (hb : Below W.heap.size W W')
    (hok : ∀ (j : Nat) (t : TypeId) (r : Value), f.resultTypes[j]? = some t → (v.resultList f.resultTypes.size)[j]? = some r → Value.okWide P W' .any 0 t r) :
    s.post enc P f apart fresh handsOn again W args v W' := by
  refine ⟨ds, gs, [], [], [], [], hW, hres _ _ _, hargs _, hvars _, World.keptBut_mono (fun p hp => by cases hp) (hb.frame (· ∈ ([] : List MemPlace))), fun _ => ?_⟩
  refine ⟨hok, _, _, [], ⟨[], [], trodAll_append (hargs _) (hres _ _ _), hvars _, rfl, fun b off hp => (by cases hp), fun _ => List.nodup_nil⟩, fun p hp _ => (by cases hp)⟩
/-- The variables' cells, as the row's list has them. -/
theorem laidCells {W : World} (h : laidMetH Tryz.prog laids W) : W.var? Tryz.prog "internal/strconv.uint64pow10" = some pow.cells.toArray ∧ W.var? Tryz.prog "spoondrift/ring.units" = some uni.cells.toArray := by
  obtain ⟨ps, hl, -⟩ := h
  obtain ⟨g1, t1, cs1, f1, p1, q1, a1, b1, c1, d1, hl, e1⟩ := hl
  obtain ⟨g2, t2, cs2, f2, p2, q2, a2, b2, c2, d2, hl, e2⟩ := hl
  obtain ⟨g3, t3, cs3, f3, p3, q3, a3, b3, c3, d3, hl, e3⟩ := hl
  obtain ⟨g4, t4, cs4, f4, p4, q4, a4, b4, c4, d4, hl, e4⟩ := hl
  obtain rfl : g3 = 1 := Option.some.inj (a3.symm.trans (by kernel_rfl))
  obtain rfl : t3 = 136 := Option.some.inj (b3.symm.trans (by kernel_rfl))
  obtain rfl : g4 = 0 := Option.some.inj (a4.symm.trans (by kernel_rfl))
  obtain rfl : t4 = 97 := Option.some.inj (b4.symm.trans (by kernel_rfl))
  have hc8 : Tryz.prog.cellsOf 126 = 1 := by kernel_rfl
  have hc9 : Tryz.prog.cellsOf 9 = 1 := by kernel_rfl
  have k3 := Lib.cells_of_tab (zs := Lib.pow10Tab) (k := .u64) Tryz.underlying136 Tryz.underlying126 hc8 (by kernel_rfl) (d3.trans (by rfl))
  refine ⟨c3.trans (congrArg some (Array.ext' (k3.trans (by rfl)))), c4.trans (congrArg some (Array.ext' ?_))⟩
  obtain ⟨l4⟩ := cs4
  obtain ⟨xs, n, _, hx, hl4, hlen, hg⟩ := DataW.trod_array Tryz.underlying97 d4
  have hs4 : l4.length = 4 := hl4.trans (by kernel_rfl)
  rw [hc9] at hg
  match l4, hs4, xs, hlen with
  | [k0, k1, k2, k3], _, [y0, y1, y2, y3], _ =>
    have g0 := hg 0 (by omega); have g1 := hg 1 (by omega); have g2 := hg 2 (by omega); have g3 := hg 3 (by omega)
    simp only [List.getElem?_cons_zero, List.getElem?_cons_succ] at g0 g1 g2 g3
    obtain ⟨z0, m0, n0, _⟩ := DataW.trod_string Tryz.underlying9 g0
    obtain ⟨z1, m1, n1, _⟩ := DataW.trod_string Tryz.underlying9 g1
    obtain ⟨z2, m2, n2, _⟩ := DataW.trod_string Tryz.underlying9 g2
    obtain ⟨z3, m3, n3, _⟩ := DataW.trod_string Tryz.underlying9 g3
    subst n0 n1 n2 n3
    cases m0; cases m1; cases m2; cases m3
    simp only [Rows.laid_spoondrift_ring_units, Prod.mk.injEq, DataW.agg.injEq, List.map_cons, List.map_nil, List.cons.injEq, DataW.lit.injEq, Lit.string.injEq, and_true] at hx
    obtain ⟨⟨x0, x1, x2, x3⟩, -⟩ := hx
    have mk : ∀ (z : ByteArray) (l : List UInt8), l = z.data.toList → Value.string z = str l := fun z l e => by subst e; rfl
    show [Value.string z0, Value.string z1, Value.string z2, Value.string z3] = [str [], str [119], str [119, 50], str [119, 51]]
    rw [mk z0 _ x0, mk z1 _ x1, mk z2 _ x2, mk z3 _ x3]
theorem invOf {W : World} (h : laidMetH Tryz.prog laids W) (sh : W.ShapedOpen Tryz.prog) : ∃ M : Int, Inv (Sg1 M) (baseRen (Sg1 M).length) (Sg1 M) W := by
  obtain ⟨h1, h0⟩ := laidCells h
  obtain ⟨c0, e0, _, _⟩ := rowSize sh 0 97 4 (by decide +kernel) (by kernel_rfl) (by kernel_rfl)
  obtain ⟨c1, e1, _, _⟩ := rowSize sh 1 136 20 (by decide +kernel) (by kernel_rfl) (by kernel_rfl)
  obtain ⟨c2, e2, s2, o2⟩ := rowSize sh 2 3 1 (by decide +kernel) (by kernel_rfl) (by kernel_rfl)
  have v0 : c0 = uni.cells.toArray := by
    unfold World.var? at h0
    rw [show Tryz.prog.globalNamed "spoondrift/ring.units" = some 0 by kernel_rfl] at h0
    simp only [Option.bind_some, e0] at h0
    exact Option.some.inj h0
  have v1 : c1 = pow.cells.toArray := by
    unfold World.var? at h1
    rw [show Tryz.prog.globalNamed "internal/strconv.uint64pow10" = some 1 by kernel_rfl] at h1
    simp only [Option.bind_some, e1] at h1
    exact Option.some.inj h1
  have v2 : ∃ M : Int, c2 = #[.int .i64 M] := by
    obtain ⟨ts, t1, _, t2⟩ := o2
    obtain rfl : ts = [3] := Option.some.inj (t1.symm.trans (by kernel_rfl))
    obtain ⟨l⟩ := c2
    match l, s2 with
    | [v], _ =>
      obtain ⟨u, u1, u2⟩ := t2 0 v rfl
      obtain rfl : 3 = u := Option.some.inj u1
      simp only [Cell.ok, Tryz.underlying3] at u2
      cases v <;> simp at u2
      obtain ⟨rfl, _⟩ := u2
      exact ⟨_, rfl⟩
  obtain ⟨M, v2⟩ := v2
  subst v0 v1 v2
  refine ⟨M, ⟨⟨fun b k r hb hr => ?_, fun b r hb => ?_, fun b c r hb hc => ?_⟩, fun g hg => ?_⟩, fun g _ => rfl, Nat.le_refl _⟩
  · have hb3 : b < 3 := (List.getElem?_eq_some_iff.1 hb).1
    have : r = b := by unfold baseRen at hr; rw [if_pos (by simpa using hb3)] at hr; exact (Option.some.inj hr).symm
    subst this
    have rel : ∀ cs : List Value, cs.all plain = true → LRel (baseRen (Sg1 M).length) cs (cs.toArray.toList.take cs.length) := fun cs hcs => by simpa using plains_refl hcs
    match r, hb3 with
    | 0, _ => cases hb; exact ⟨_, e0, _, _, rfl, rel _ (by decide), fun h => (by cases h), fun _ => rfl⟩
    | 1, _ => cases hb; exact ⟨_, e1, _, _, rfl, rel _ (by decide), fun h => (by cases h), fun _ => rfl⟩
    | 2, _ => cases hb; exact ⟨_, e2, _, _, rfl, rel _ (by rfl), fun h => (by cases h), fun _ => rfl⟩
  · unfold baseRen at hb
    split at hb
    · rename_i hlt
      cases hb
      have : b = 0 ∨ b = 1 ∨ b = 2 := by simp at hlt; omega
      rcases this with rfl | rfl | rfl
      · exact (Array.getElem?_eq_some_iff.1 e0).1
      · exact (Array.getElem?_eq_some_iff.1 e1).1
      · exact (Array.getElem?_eq_some_iff.1 e2).1
    · cases hb
  · unfold baseRen at hb hc
    split at hb
    · split at hc
      · cases hb; cases hc; rfl
      · cases hc
    · cases hb
  · unfold baseRen; rw [if_pos hg]
/-- A world for the witnesses: the variables hold what their initialisers lay. -/
def litV : DataW Unit → Value
  | .lit (.int k n) => .int k n
  | .lit (.string l) => .string ⟨l.toArray⟩
  | _ => undef
def cellsOfD : DataW Unit → Array Value
  | .agg l => (l.map litV).toArray
  | _ => #[]
def layAt (g : Nat) (d : DataW Unit) (h : Array Obj) : Array Obj := h.modify g fun
  | .cells _ t frozen => .cells (cellsOfD d) t frozen
  | o => o
noncomputable def laidWorld (os : Os) : World :=
  { World.holding Tryz.prog os ⟨#[], #[], []⟩ with heap := layAt 0 Rows.laid_spoondrift_ring_units (layAt 1 Rows.laid_internal_strconv_uint64pow10
      (layAt 3 Rows.laid_math_bits_deBruijn32tab (layAt 4 Rows.laid_math_bits_deBruijn64tab (World.holding Tryz.prog os ⟨#[], #[], []⟩).heap))) }
end Go.Proofs.YtihccnfaibiiiaaGreatDoor
/- Ring, plain mathematics: bounds of sums and products. -/
namespace Go.Proofs.XX.Rm
open Go

theorem mul_bd {a p : Int} (h1 : -1073741824 ≤ a) (h2 : a ≤ 1073741824) : (0 ≤ p ∧ -(1073741824 * p) ≤ a * p ∧ a * p ≤ 1073741824 * p) ∨ (p ≤ 0 ∧ 1073741824 * p ≤ a * p ∧ a * p ≤ -(1073741824 * p)) := by
  by_cases hp : 0 ≤ p
  · left
    have e1 := Int.mul_le_mul_of_nonneg_right h2 hp
    have e2 := Int.mul_le_mul_of_nonneg_right h1 hp
    rw [Int.neg_mul] at e2
    exact ⟨hp, e2, e1⟩
  · right
    have hq : p ≤ 0 := by omega
    have e1 := Int.mul_le_mul_of_nonpos_right h2 hq
    have e2 := Int.mul_le_mul_of_nonpos_right h1 hq
    rw [Int.neg_mul] at e2
    exact ⟨hq, e1, e2⟩
theorem N.mul_In {x y : N} (hx : x.In 1073741824) {P Q R S : Int} (e : y.a = P ∧ y.b = Q ∧ y.c = R ∧ y.d = S)
    (h : ∀ p q r s : Int, (p = P ∨ p = -P) → (q = Q ∨ q = -Q) → (r = R ∨ r = -R) → (s = S ∨ s = -S) → p + q + r + s ≤ 4294967296) : (x.mul y).In (2 ^ 62) := by
  obtain ⟨rfl, rfl, rfl, rfl⟩ := e
  obtain ⟨a1, a2, b1, b2, c1, c2, d1, d2⟩ := hx
  have one : ∀ (p q r s k1 k2 k3 k4 : Int), -1073741824 ≤ k1 → k1 ≤ 1073741824 → -1073741824 ≤ k2 → k2 ≤ 1073741824 → -1073741824 ≤ k3 → k3 ≤ 1073741824 → -1073741824 ≤ k4 → k4 ≤ 1073741824 →
      (∀ p' q' r' s' : Int, (p' = p ∨ p' = -p) → (q' = q ∨ q' = -q) → (r' = r ∨ r' = -r) → (s' = s ∨ s' = -s) → p' + q' + r' + s' ≤ 4294967296) →
      ∀ s1 s2 s3 s4 : Int, (s1 = k1 * p ∨ s1 = -(k1 * p)) → (s2 = k2 * q ∨ s2 = -(k2 * q)) → (s3 = k3 * r ∨ s3 = -(k3 * r)) → (s4 = k4 * s ∨ s4 = -(k4 * s)) → s1 + s2 + s3 + s4 ≤ 4611686018427387904 := by
    intro p q r s k1 k2 k3 k4 h1 h2 h3 h4 h5 h6 h7 h8 h s1 s2 s3 s4 e1 e2 e3 e4
    have up : ∀ (k p t : Int), -1073741824 ≤ k → k ≤ 1073741824 → (t = k * p ∨ t = -(k * p)) → ∃ p', (p' = p ∨ p' = -p) ∧ t ≤ 1073741824 * p' := by
      intro k p t g1 g2 g3
      rcases mul_bd (p := p) g1 g2 with ⟨m0, m1, m2⟩ | ⟨m0, m1, m2⟩
      · exact ⟨p, .inl rfl, by rcases g3 with rfl | rfl <;> omega⟩
      · exact ⟨-p, .inr rfl, by rcases g3 with rfl | rfl <;> omega⟩
    obtain ⟨p', hp, u1⟩ := up k1 p s1 h1 h2 e1
    obtain ⟨q', hq, u2⟩ := up k2 q s2 h3 h4 e2
    obtain ⟨r', hr, u3⟩ := up k3 r s3 h5 h6 e3
    obtain ⟨s', hs, u4⟩ := up k4 s s4 h7 h8 e4
    have := h p' q' r' s' hp hq hr hs
    omega
  have hp := h
  have ca := one y.a y.d y.c y.b x.a x.b x.c x.d a1 a2 b1 b2 c1 c2 d1 d2 (fun p q r s e1 e2 e3 e4 => by have := h p s r q e1 e4 e3 e2; omega)
  have cb := one y.b y.a y.d y.c x.a x.b x.c x.d a1 a2 b1 b2 c1 c2 d1 d2 (fun p q r s e1 e2 e3 e4 => by have := h q p s r e2 e1 e4 e3; omega)
  have cc := one y.c y.b y.a y.d x.a x.b x.c x.d a1 a2 b1 b2 c1 c2 d1 d2 (fun p q r s e1 e2 e3 e4 => by have := h r q p s e3 e2 e1 e4; omega)
  have cd := one y.d y.c y.b y.a x.a x.b x.c x.d a1 a2 b1 b2 c1 c2 d1 d2 (fun p q r s e1 e2 e3 e4 => by have := h s r q p e4 e3 e2 e1; omega)
  constructor
  · have := ca _ _ _ _ (.inr rfl) (.inl rfl) (.inl rfl) (.inl rfl); simp only [N.mul]; omega
  · have := ca _ _ _ _ (.inl rfl) (.inr rfl) (.inr rfl) (.inr rfl); simp only [N.mul]; omega
  · have := cb _ _ _ _ (.inr rfl) (.inr rfl) (.inl rfl) (.inl rfl); simp only [N.mul]; omega
  · have := cb _ _ _ _ (.inl rfl) (.inl rfl) (.inr rfl) (.inr rfl); simp only [N.mul]; omega
  · have := cc _ _ _ _ (.inr rfl) (.inr rfl) (.inr rfl) (.inl rfl); simp only [N.mul]; omega
  · have := cc _ _ _ _ (.inl rfl) (.inl rfl) (.inl rfl) (.inr rfl); simp only [N.mul]; omega
  · have := cd _ _ _ _ (.inr rfl) (.inr rfl) (.inr rfl) (.inr rfl); simp only [N.mul]; omega
  · have := cd _ _ _ _ (.inl rfl) (.inl rfl) (.inl rfl) (.inl rfl); simp only [N.mul]; omega
theorem N.mul_fit {x y : N} (hx : x.In 1073741824) (hy : y.In 1073741824) : (x.mul y).Fit := by
  refine ⟨N.mul_In hx ⟨rfl, rfl, rfl, rfl⟩ ?_, ?_⟩
  · obtain ⟨h1, h2, h3, h4, h5, h6, h7, h8⟩ := hy
    intro p q r s e1 e2 e3 e4
    omega
  · rw [← N.mul_up, N.mul_comm, N.mul_comm] 
    rw [show x.up.mul y = x.mul y.up by rw [N.mul_up, N.mul_comm x y, ← N.mul_up, N.mul_comm]]
    refine N.mul_In hx ⟨rfl, rfl, rfl, rfl⟩ ?_
    obtain ⟨h1, h2, h3, h4, h5, h6, h7, h8⟩ := hy
    simp only [N.up]
    intro p q r s e1 e2 e3 e4
    omega
/-- Sums of raised numbers. -/
def N.sum (x y : N) : N := (x.lift (max x.k y.k)).add (y.lift (max x.k y.k))
theorem N.lift_in {x : N} (h : x.In 1073741824) {K : Int} (h0 : 0 ≤ x.k) (hK : K ≤ 60) : (x.lift K).In (2 ^ 60) :=
  N.In.ups60 (h.mono (by omega)) (by omega)
theorem N.sum_fit {x y : N} (hx : x.In 1073741824) (hy : y.In 1073741824) (h0 : 0 ≤ x.k) (h1 : x.k ≤ 60) (h2 : 0 ≤ y.k) (h3 : y.k ≤ 60) : (x.sum y).Fit := by
  have a := N.lift_in hx (K := max x.k y.k) h0 (by omega)
  have b := N.lift_in hy (K := max x.k y.k) h2 (by omega)
  refine N.Fit.of_in ?_
  obtain ⟨a1, a2, a3, a4, a5, a6, a7, a8⟩ := a
  obtain ⟨b1, b2, b3, b4, b5, b6, b7, b8⟩ := b
  constructor <;> simp only [N.sum, N.add] <;> omega
theorem N.sum_k {x y : N} : (x.sum y).k = max x.k y.k := by
  show (x.lift _).k = _
  rw [N.lift_k (by omega)]
end Go.Proofs.XX.Rm
/- Ring: sums and products of numbers at work. -/
namespace Go.Proofs.YtihccnfaibiiiaaGreatDoor.R
open Go Go.Proofs.XX.Vm Go.Proofs.XX.Rm Go.RowKit
set_option maxRecDepth 100000

def p3 : Value := .pointer (some ⟨5, 0, none⟩)
def p24 : Value := .pointer (some ⟨4, 4, none⟩)
def addW (x y : N) (K : Int) : N := ⟨w (x.a + y.a), w (x.b + y.b), w (x.c + y.c), w (x.d + y.d), K⟩
noncomputable abbrev qS (i : Nat) : Code := nthC (pcs Tryz.prog 47) i
noncomputable abbrev BS (i : Nat) : Code := loopOf Tryz.prog 47 i
theorem LS_eq : pcs Tryz.prog 47 = [qS 0, qS 1, .block 0 (.loop (BS 0)), .block 2 (.loop (BS 1)), qS 4, qS 5] := by kernel_rfl
theorem headS {α : Type} (M : Int) (fs : Nat → Nat) (x0 y0 : N) (l : List Code) (k : Kont α) :
    evP Tryz.prog (orcL []) (Sg1 M) 3 fs 0 (qS 0 :: qS 1 :: l) (N.v x0 :: N.v y0 :: List.replicate 33 undef) (Sg1 M) k =
    evP Tryz.prog (orcL []) (Sg1 M) 3 fs 2 l [N.v x0, N.v y0, p1, p2, p3, .int .i64 (mx x0.k y0.k), p1, p14, (.int .i64 x0.k), p2, p24, (.int .i64 y0.k), (.int .i64 (mx x0.k y0.k)), undef, undef, undef, undef, undef, undef, undef, undef, undef, undef, undef, undef, undef, undef, undef, undef, undef, undef, undef, undef, undef, undef] [uni, pow, mxl M, wb x0, wb y0, wb O] k := by kernel_rfl
theorem roundS1 {α : Type} (M : Int) (n : Nat) (x0 y0 x y : N) (K : Int) (v6 v7 v8 v9 v10 v11 v12 v13 v14 v15 v16 v17 v18 v19 v20 v21 v22 v23 v24 v25 v26 v27 v28 v29 v30 v31 v32 v33 v34 : Value) (k : Kont α) :
    evCodeK Tryz.prog (orcL []) (Sg1 M) (n + 60) 3 (BS 0) [N.v x0, N.v y0, p1, p2, p3, .int .i64 K, v6, v7, v8, v9, v10, v11, v12, v13, v14, v15, v16, v17, v18, v19, v20, v21, v22, v23, v24, v25, v26, v27, v28, v29, v30, v31, v32, v33, v34] [uni, pow, mxl M, wb x, wb y, wb O] k =
    bif decide (x.k < K) then k .normal [N.v x0, N.v y0, p1, p2, p3, .int .i64 K, v6, v7, v8, v9, v10, v11, v12, p1, p14, (.int .i64 x.k), (.int .i64 K), (.bool true), undef, v19, v20, v21, v22, v23, v24, v25, v26, v27, v28, v29, v30, v31, v32, v33, v34] [uni, pow, mxl M, wb (N.upW x), wb y, wb O] else k (.exit 0) [N.v x0, N.v y0, p1, p2, p3, .int .i64 K, v6, v7, v8, v9, v10, v11, v12, p1, p14, (.int .i64 x.k), (.int .i64 K), (.bool false), v18, v19, v20, v21, v22, v23, v24, v25, v26, v27, v28, v29, v30, v31, v32, v33, v34] [uni, pow, mxl M, wb x, wb y, wb O] := by kernel_rfl
theorem roundS2 {α : Type} (M : Int) (n : Nat) (x0 y0 x y : N) (K : Int) (v6 v7 v8 v9 v10 v11 v12 v13 v14 v15 v16 v17 v18 v19 v20 v21 v22 v23 v24 v25 v26 v27 v28 v29 v30 v31 v32 v33 v34 : Value) (k : Kont α) :
    evCodeK Tryz.prog (orcL []) (Sg1 M) (n + 60) 3 (BS 1) [N.v x0, N.v y0, p1, p2, p3, .int .i64 K, v6, v7, v8, v9, v10, v11, v12, v13, v14, v15, v16, v17, v18, v19, v20, v21, v22, v23, v24, v25, v26, v27, v28, v29, v30, v31, v32, v33, v34] [uni, pow, mxl M, wb x, wb y, wb O] k =
    bif decide (y.k < K) then k .normal [N.v x0, N.v y0, p1, p2, p3, .int .i64 K, v6, v7, v8, v9, v10, v11, v12, v13, v14, v15, v16, v17, v18, p2, p24, (.int .i64 y.k), (.int .i64 K), (.bool true), undef, v25, v26, v27, v28, v29, v30, v31, v32, v33, v34] [uni, pow, mxl M, wb x, wb (N.upW y), wb O] else k (.exit 2) [N.v x0, N.v y0, p1, p2, p3, .int .i64 K, v6, v7, v8, v9, v10, v11, v12, v13, v14, v15, v16, v17, v18, p2, p24, (.int .i64 y.k), (.int .i64 K), (.bool false), v24, v25, v26, v27, v28, v29, v30, v31, v32, v33, v34] [uni, pow, mxl M, wb x, wb y, wb O] := by kernel_rfl
theorem tailS {α : Type} (M : Int) (fs : Nat → Nat) (x0 y0 x y : N) (K : Int) (v6 v7 v8 v9 v10 v11 v12 v13 v14 v15 v16 v17 v18 v19 v20 v21 v22 v23 v24 v25 v26 v27 v28 v29 v30 v31 v32 v33 v34 : Value) (k : Kont α) :
    evP Tryz.prog (orcL []) (Sg1 M) 3 fs 4 [qS 4, qS 5] [N.v x0, N.v y0, p1, p2, p3, .int .i64 K, v6, v7, v8, v9, v10, v11, v12, v13, v14, v15, v16, v17, v18, v19, v20, v21, v22, v23, v24, v25, v26, v27, v28, v29, v30, v31, v32, v33, v34] [uni, pow, mxl M, wb x, wb y, wb O] k =
    k .ret [N.v x0, N.v y0, p1, p2, p3, .int .i64 K, v6, v7, v8, v9, v10, v11, v12, v13, v14, v15, v16, v17, v18, v19, v20, v21, v22, v23, v24, p1, (N.v x), (N.cv x), p2, (N.v y), (N.cv y), (N.cv (addW x y K)), (.int .i64 K), (N.v (addW x y K)), (N.v (addW x y K))] [uni, pow, mxl M, wb x, wb y, wb (addW x y K)] := by kernel_rfl

theorem upW_eq {x : N} (h : x.In (2 ^ 60)) (h0 : 0 ≤ x.k) (h1 : x.k ≤ 60) : N.upW x = x.up := by
  obtain ⟨a1, a2, b1, b2, c1, c2, d1, d2⟩ := h
  have e1 : w (x.b - x.d) = x.b - x.d := w_eq _ (by omega) (by omega)
  have e2 : w (x.a + x.c) = x.a + x.c := w_eq _ (by omega) (by omega)
  have e3 : w (x.b + x.d) = x.b + x.d := w_eq _ (by omega) (by omega)
  have e4 : w (x.c - x.a) = x.c - x.a := w_eq _ (by omega) (by omega)
  have e5 : w (x.k + 1) = x.k + 1 := w_eq _ (by omega) (by omega)
  ext
  · exact e1
  · exact e2
  · exact e3
  · exact e4
  · exact e5
theorem loopS1 (M : Int) (x0 y0 x y : N) (K : Int) (h : x.In 1073741824) (h0 : 0 ≤ x.k) (h1 : x.k ≤ K) (h2 : K ≤ 60) (L : List Value) (hL : L.length = 29) :
    Ev Tryz.prog (orcL []) (Sg1 M) Value 3 (.loop (BS 0)) (N.v x0 :: N.v y0 :: p1 :: p2 :: p3 :: .int .i64 K :: L) [uni, pow, mxl M, wb x, wb y, wb O] fun e T S => e = .exit 0 ∧ (∃ L : List Value, L.length = 29 ∧ T = N.v x0 :: N.v y0 :: p1 :: p2 :: p3 :: .int .i64 K :: L) ∧ S = [uni, pow, mxl M, wb (x.lift K), wb y, wb O] := by
  refine Ev.loop (fun m T S => ∃ (L : List Value) (j : Nat), L.length = 29 ∧ T = N.v x0 :: N.v y0 :: p1 :: p2 :: p3 :: .int .i64 K :: L ∧ S = [uni, pow, mxl M, wb (x.ups j), wb y, wb O] ∧ x.k + j + m = K) ?_ (K - x.k).toNat _ _ ⟨L, 0, hL, rfl, rfl, by omega⟩
  rintro m T S ⟨L, j, hL, rfl, rfl, hm⟩
  match L, hL with
  | [v6, v7, v8, v9, v10, v11, v12, v13, v14, v15, v16, v17, v18, v19, v20, v21, v22, v23, v24, v25, v26, v27, v28, v29, v30, v31, v32, v33, v34], _ =>
  have hk : (x.ups j).k = x.k + j := N.ups_k x j
  cases m with
  | zero =>
    refine Ev.of_eq 60 (fun n k => (roundS1 M n x0 y0 (x.ups j) y K v6 v7 v8 v9 v10 v11 v12 v13 v14 v15 v16 v17 v18 v19 v20 v21 v22 v23 v24 v25 v26 v27 v28 v29 v30 v31 v32 v33 v34 k).trans (condF (decide_eq_false (by omega)))) ?_
    exact ⟨rfl, ⟨_, rfl, rfl⟩, by unfold N.lift; rw [show (K - x.k).toNat = j by omega]⟩
  | succ m =>
    refine Ev.of_eq 60 (fun n k => (roundS1 M n x0 y0 (x.ups j) y K v6 v7 v8 v9 v10 v11 v12 v13 v14 v15 v16 v17 v18 v19 v20 v21 v22 v23 v24 v25 v26 v27 v28 v29 v30 v31 v32 v33 v34 k).trans (condT (decide_eq_true (by omega)))) ?_
    refine ⟨m, Nat.lt_succ_self m, _, j + 1, rfl, rfl, ?_, by omega⟩
    rw [upW_eq (N.In.ups60 (h.mono (by omega)) (by omega)) (by omega) (by omega)]; rfl
theorem loopS2 (M : Int) (x0 y0 x y : N) (K : Int) (h : y.In 1073741824) (h0 : 0 ≤ y.k) (h1 : y.k ≤ K) (h2 : K ≤ 60) (L : List Value) (hL : L.length = 29) :
    Ev Tryz.prog (orcL []) (Sg1 M) Value 3 (.loop (BS 1)) (N.v x0 :: N.v y0 :: p1 :: p2 :: p3 :: .int .i64 K :: L) [uni, pow, mxl M, wb x, wb y, wb O] fun e T S => e = .exit 2 ∧ (∃ L : List Value, L.length = 29 ∧ T = N.v x0 :: N.v y0 :: p1 :: p2 :: p3 :: .int .i64 K :: L) ∧ S = [uni, pow, mxl M, wb x, wb (y.lift K), wb O] := by
  refine Ev.loop (fun m T S => ∃ (L : List Value) (j : Nat), L.length = 29 ∧ T = N.v x0 :: N.v y0 :: p1 :: p2 :: p3 :: .int .i64 K :: L ∧ S = [uni, pow, mxl M, wb x, wb (y.ups j), wb O] ∧ y.k + j + m = K) ?_ (K - y.k).toNat _ _ ⟨L, 0, hL, rfl, rfl, by omega⟩
  rintro m T S ⟨L, j, hL, rfl, rfl, hm⟩
  match L, hL with
  | [v6, v7, v8, v9, v10, v11, v12, v13, v14, v15, v16, v17, v18, v19, v20, v21, v22, v23, v24, v25, v26, v27, v28, v29, v30, v31, v32, v33, v34], _ =>
  have hk : (y.ups j).k = y.k + j := N.ups_k y j
  cases m with
  | zero =>
    refine Ev.of_eq 60 (fun n k => (roundS2 M n x0 y0 x (y.ups j) K v6 v7 v8 v9 v10 v11 v12 v13 v14 v15 v16 v17 v18 v19 v20 v21 v22 v23 v24 v25 v26 v27 v28 v29 v30 v31 v32 v33 v34 k).trans (condF (decide_eq_false (by omega)))) ?_
    exact ⟨rfl, ⟨_, rfl, rfl⟩, by unfold N.lift; rw [show (K - y.k).toNat = j by omega]⟩
  | succ m =>
    refine Ev.of_eq 60 (fun n k => (roundS2 M n x0 y0 x (y.ups j) K v6 v7 v8 v9 v10 v11 v12 v13 v14 v15 v16 v17 v18 v19 v20 v21 v22 v23 v24 v25 v26 v27 v28 v29 v30 v31 v32 v33 v34 k).trans (condT (decide_eq_true (by omega)))) ?_
    refine ⟨m, Nat.lt_succ_self m, _, j + 1, rfl, rfl, ?_, by omega⟩
    rw [upW_eq (N.In.ups60 (h.mono (by omega)) (by omega)) (by omega) (by omega)]; rfl
theorem tmpsS (x y : N) : tmps0Of Tryz.prog 47 [N.v x, N.v y] = N.v x :: N.v y :: List.replicate 33 undef := by kernel_rfl
theorem outS (x y z : N) (L : List Value) (b0 b1 b2 b3 b4 : Blk) : outOf Tryz.prog 47 (N.v x :: N.v y :: p1 :: p2 :: p3 :: L) [b0, b1, b2, b3, b4, wb z] = some (N.v z) := by kernel_rfl
theorem mx_eq (a b : Int) : mx a b = max a b := by unfold mx; split <;> omega
theorem addW_eq {x y : N} {K : Int} (hx : x.In (2 ^ 60)) (hy : y.In (2 ^ 60)) (hk : x.k = K) : addW x y K = x.add y := by
  obtain ⟨a1, a2, a3, a4, a5, a6, a7, a8⟩ := hx
  obtain ⟨b1, b2, b3, b4, b5, b6, b7, b8⟩ := hy
  have e1 : w (x.a + y.a) = x.a + y.a := w_eq _ (by omega) (by omega)
  have e2 : w (x.b + y.b) = x.b + y.b := w_eq _ (by omega) (by omega)
  have e3 : w (x.c + y.c) = x.c + y.c := w_eq _ (by omega) (by omega)
  have e4 : w (x.d + y.d) = x.d + y.d := w_eq _ (by omega) (by omega)
  ext
  · exact e1
  · exact e2
  · exact e3
  · exact e4
  · exact hk.symm
theorem eS (M : Int) (x y : N) (hx : okB x = true) (hy : okB y = true) : EvF Tryz.prog (orcL []) (Sg1 M) 47 [N.v x, N.v y] (N.v (x.sum y)) := by
  obtain ⟨x0, x1, x2⟩ := (okB_iff x).1 hx
  obtain ⟨y0, y1, y2⟩ := (okB_iff y).1 hy
  refine EvF.of_body rfl ?_
  rw [tmpsS]
  show Ev Tryz.prog (orcL []) (Sg1 M) Value 3 _ _ _ _
  refine Ev.of_pieces ?_
  rw [show flatC (bodyOf Tryz.prog 47) = _ from LS_eq]
  refine EvP.run (fun fs k => headS M fs x y _ k) ?_
  rw [mx_eq]
  refine EvP.step (Ev.block ((loopS1 M x y x y (max x.k y.k) x2 x0 (by omega) (by omega) _ rfl).mono ?_))
  rintro e T S ⟨rfl, ⟨L, hL, rfl⟩, rfl⟩
  refine EvP.step (Ev.block ((loopS2 M x y _ y (max x.k y.k) y2 y0 (by omega) (by omega) L hL).mono ?_))
  rintro e T S ⟨rfl, ⟨L, hL, rfl⟩, rfl⟩
  match L, hL with
  | [v6, v7, v8, v9, v10, v11, v12, v13, v14, v15, v16, v17, v18, v19, v20, v21, v22, v23, v24, v25, v26, v27, v28, v29, v30, v31, v32, v33, v34], _ =>
  refine EvP.stop (fun fs k => tailS M fs x y _ _ _ v6 v7 v8 v9 v10 v11 v12 v13 v14 v15 v16 v17 v18 v19 v20 v21 v22 v23 v24 v25 v26 v27 v28 v29 v30 v31 v32 v33 v34 k) ⟨trivial, ?_⟩
  have e : addW (x.lift (max x.k y.k)) (y.lift (max x.k y.k)) (max x.k y.k) = x.sum y := addW_eq (N.lift_in x2 x0 (by omega)) (N.lift_in y2 y0 (by omega)) (N.lift_k (by omega))
  rw [e]
  exact outS x y _ _ _ _ _ _ _
def okB2 (x y : N) : Bool := okB x && okB y
theorem okB2_iff {x y : N} (h : okB2 x y = true) : okB x = true ∧ okB y = true := by simpa [okB2] using h
theorem cSum_ok (M : Int) : ConOk M (con2 47 fun x y => .ite (okB2 x y) (.val (N.v (x.sum y))) .no) := con2_ok nil_ok fun x y v h => by
  obtain ⟨h0, rfl⟩ := OT.pre h
  obtain ⟨h1, h2⟩ := okB2_iff h0
  exact eS M x y h1 h2
/-- The least form of a number at work that is not too large. -/
noncomputable def fitB (x : N) : Bool := @decide (x.Fit ∧ 0 ≤ x.k ∧ x.k ≤ 4611686018427387904) (Classical.propDecidable _)
theorem fitB_iff {x : N} : fitB x = true ↔ x.Fit ∧ 0 ≤ x.k ∧ x.k ≤ 4611686018427387904 := by unfold fitB; simp
def fitT (y : N) : OT := .ite (okB y) (.val (resV (y, 0))) (.val (resV (O, 8)))
theorem fitT_get (y : N) : (fitT y).get = some (resV (fitS y)) := by unfold fitT fitS; simp only [OT.get]; cases okB y <;> rfl
noncomputable def cLsF : Con := con1 84 fun x => .ite (fitB x) (fitT x.nf) .no
theorem cLsF_ok (M : Int) : ConOk M cLsF := con1_ok (L1_ok M) fun x v h => by
  simp only [OT.get] at h
  cases hf : fitB x with
  | false => rw [hf] at h; cases h
  | true =>
    obtain ⟨h1, h2, h3⟩ := fitB_iff.1 hf
    rw [hf, cond_true, fitT_get, ← leastW_eq h1 h2 (by omega)] at h
    cases h
    exact e46 M x (by omega) (by omega)
end Go.Proofs.YtihccnfaibiiiaaGreatDoor.R
/- Ring: products, and the calculating functions. -/
namespace Go.Proofs.YtihccnfaibiiiaaGreatDoor.R
open Go Go.Proofs.XX.Vm Go.Proofs.XX.Rm Go.RowKit
set_option maxRecDepth 100000

/-- A product as the program takes it. -/
def mulW (x y : N) : N :=
  ⟨w (w (w (w (0 + w (x.a * y.a)) - w (x.b * y.d)) - w (x.c * y.c)) - w (x.d * y.b)), w (w (w (w (0 + w (x.a * y.b)) + w (x.b * y.a)) - w (x.c * y.d)) - w (x.d * y.c)),
   w (w (w (w (0 + w (x.a * y.c)) + w (x.b * y.b)) + w (x.c * y.a)) - w (x.d * y.d)), w (w (w (w (0 + w (x.a * y.d)) + w (x.b * y.c)) + w (x.c * y.b)) + w (x.d * y.a)), w (x.k + y.k)⟩
theorem tP (M : Int) (m : Nat) (x y : N) : runK Tryz.prog (orcL []) (Sg1 M) (m + 60) 53 [N.v x, N.v y] = some (N.v (mulW x y)) := by kernel_rfl
theorem w_mod (a : Int) : ∃ q : Int, w a = a + 18446744073709551616 * q := ⟨-((a + 9223372036854775808) / 18446744073709551616), by show IntKind.i64.wrap a = _; rw [IntKind.wrap_i64]; omega⟩
theorem w_of {a b : Int} (h1 : -9223372036854775808 ≤ b) (h2 : b ≤ 9223372036854775807) (h : ∃ q : Int, a = b + 18446744073709551616 * q) : w a = b := by
  obtain ⟨q, rfl⟩ := h
  show IntKind.i64.wrap _ = _
  rw [IntKind.wrap_i64]; omega
theorem mulW_eq {x y : N} (hx : okB x = true) (hy : okB y = true) : mulW x y = x.mul y := by
  obtain ⟨x0, x1, x2⟩ := (okB_iff x).1 hx
  obtain ⟨y0, y1, y2⟩ := (okB_iff y).1 hy
  obtain ⟨⟨a1, a2, b1, b2, c1, c2, d1, d2⟩, -⟩ := N.mul_fit x2 y2
  simp only [N.mul] at a1 a2 b1 b2 c1 c2 d1 d2
  have sum4 : ∀ (p q r s P Q R S g1 g2 g3 : Int), (∃ k, P = p + 18446744073709551616 * k) → (∃ k, Q = q + 18446744073709551616 * k) → (∃ k, R = r + 18446744073709551616 * k) → (∃ k, S = s + 18446744073709551616 * k) →
      (∃ k, g1 = 0 + P + 18446744073709551616 * k) → (∃ k, g2 = g1 + Q + 18446744073709551616 * k) → (∃ k, g3 = g2 + R + 18446744073709551616 * k) → ∃ k, g3 + S = (p + q + r + s) + 18446744073709551616 * k := by
    rintro p q r s P Q R S g1 g2 g3 ⟨k1, h1⟩ ⟨k2, h2⟩ ⟨k3, h3⟩ ⟨k4, h4⟩ ⟨k5, h5⟩ ⟨k6, h6⟩ ⟨k7, h7⟩
    exact ⟨k1 + k2 + k3 + k4 + k5 + k6 + k7, by omega⟩
  have neg : ∀ a : Int, ∃ k, -(w a) = -a + 18446744073709551616 * k := fun a => by obtain ⟨q, hq⟩ := w_mod a; exact ⟨-q, by omega⟩
  have wm : ∀ a b : Int, ∃ k, w (a - w b) = a + -(w b) + 18446744073709551616 * k := fun a b => by obtain ⟨q, hq⟩ := w_mod (a - w b); exact ⟨q, by omega⟩
  have r1 : w (w (w (w (0 + w (x.a * y.a)) - w (x.b * y.d)) - w (x.c * y.c)) - w (x.d * y.b)) = x.a * y.a - x.b * y.d - x.c * y.c - x.d * y.b := w_of (by omega) (by omega) (by
    obtain ⟨k, h⟩ := sum4 _ _ _ _ _ _ _ _ _ _ _ (w_mod (x.a * y.a)) (neg (x.b * y.d)) (neg (x.c * y.c)) (neg (x.d * y.b)) (w_mod (0 + w (x.a * y.a))) (wm _ _) (wm _ _)
    exact ⟨k, by rw [Int.sub_eq_add_neg, h]; omega⟩)
  have r2 : w (w (w (w (0 + w (x.a * y.b)) + w (x.b * y.a)) - w (x.c * y.d)) - w (x.d * y.c)) = x.a * y.b + x.b * y.a - x.c * y.d - x.d * y.c := w_of (by omega) (by omega) (by
    obtain ⟨k, h⟩ := sum4 _ _ _ _ _ _ _ _ _ _ _ (w_mod (x.a * y.b)) (w_mod (x.b * y.a)) (neg (x.c * y.d)) (neg (x.d * y.c)) (w_mod (0 + w (x.a * y.b))) (w_mod (w (0 + w (x.a * y.b)) + w (x.b * y.a))) (wm _ _)
    exact ⟨k, by rw [Int.sub_eq_add_neg, h]; omega⟩)
  have r3 : w (w (w (w (0 + w (x.a * y.c)) + w (x.b * y.b)) + w (x.c * y.a)) - w (x.d * y.d)) = x.a * y.c + x.b * y.b + x.c * y.a - x.d * y.d := w_of (by omega) (by omega) (by
    obtain ⟨k, h⟩ := sum4 _ _ _ _ _ _ _ _ _ _ _ (w_mod (x.a * y.c)) (w_mod (x.b * y.b)) (w_mod (x.c * y.a)) (neg (x.d * y.d)) (w_mod (0 + w (x.a * y.c))) (w_mod (w (0 + w (x.a * y.c)) + w (x.b * y.b))) (w_mod (w (w (0 + w (x.a * y.c)) + w (x.b * y.b)) + w (x.c * y.a)))
    exact ⟨k, by rw [Int.sub_eq_add_neg, h]; omega⟩)
  have r4 : w (w (w (w (0 + w (x.a * y.d)) + w (x.b * y.c)) + w (x.c * y.b)) + w (x.d * y.a)) = x.a * y.d + x.b * y.c + x.c * y.b + x.d * y.a := w_of (by omega) (by omega) (by
    obtain ⟨k, h⟩ := sum4 _ _ _ _ _ _ _ _ _ _ _ (w_mod (x.a * y.d)) (w_mod (x.b * y.c)) (w_mod (x.c * y.b)) (w_mod (x.d * y.a)) (w_mod (0 + w (x.a * y.d))) (w_mod (w (0 + w (x.a * y.d)) + w (x.b * y.c))) (w_mod (w (w (0 + w (x.a * y.d)) + w (x.b * y.c)) + w (x.c * y.b)))
    exact ⟨k, by rw [h]⟩)
  ext
  · exact r1
  · exact r2
  · exact r3
  · exact r4
  · exact w_eq _ (by omega) (by omega)
theorem cPro_ok (M : Int) : ConOk M (con2 53 fun x y => .ite (okB2 x y) (.val (N.v (x.mul y))) .no) := con2_ok nil_ok fun x y v h => by
  obtain ⟨h0, rfl⟩ := OT.pre h
  obtain ⟨h1, h2⟩ := okB2_iff h0
  refine EvF.of_eq 60 fun m => ?_
  rw [tP, mulW_eq h1 h2]

/-- What two numbers make, as the chapter has it. -/
def twoT (x y : N) (z : N) : OT := okT x (okT y (fitT z.nf) badN) badN
noncomputable abbrev LD : List Con := [cChk, cLsF, con2 47 fun x y => .ite (okB2 x y) (.val (N.v (x.sum y))) .no, con2 53 fun x y => .ite (okB2 x y) (.val (N.v (x.mul y))) .no]
theorem LD_ok (M : Int) : ∀ c ∈ LD, ConOk M c := mem_cons_ok (cChk_ok M) (mem_cons_ok (cLsF_ok M) (mem_cons_ok (cSum_ok M) (mem_cons_ok (cPro_ok M) nil_ok)))
theorem tAdd (M : Int) (m : Nat) (x y : N) : runK Tryz.prog (orcL LD) (Sg1 M) (m + 60) 11 [N.v x, N.v y] =
    bif3 x (bif3 y (bif okB2 x y then bif fitB (x.sum y) then bif okB (x.sum y).nf then some (resV ((x.sum y).nf, 0)) else some (resV (O, 8)) else none else none) fun n => some (resV (O, n))) fun n => some (resV (O, n)) := by kernel_rfl
theorem tMul (M : Int) (m : Nat) (x y : N) : runK Tryz.prog (orcL LD) (Sg1 M) (m + 60) 13 [N.v x, N.v y] =
    bif3 x (bif3 y (bif okB2 x y then bif fitB (x.mul y) then bif okB (x.mul y).nf then some (resV ((x.mul y).nf, 0)) else some (resV (O, 8)) else none else none) fun n => some (resV (O, n))) fun n => some (resV (O, n)) := by kernel_rfl
theorem fit_sum {x y : N} (hx : okB x = true) (hy : okB y = true) : fitB (x.sum y) = true := by
  obtain ⟨x0, x1, x2⟩ := (okB_iff x).1 hx
  obtain ⟨y0, y1, y2⟩ := (okB_iff y).1 hy
  exact fitB_iff.2 ⟨N.sum_fit x2 y2 x0 x1 y0 y1, by rw [N.sum_k]; omega, by rw [N.sum_k]; omega⟩
theorem fit_mul {x y : N} (hx : okB x = true) (hy : okB y = true) : fitB (x.mul y) = true := by
  obtain ⟨x0, x1, x2⟩ := (okB_iff x).1 hx
  obtain ⟨y0, y1, y2⟩ := (okB_iff y).1 hy
  exact fitB_iff.2 ⟨N.mul_fit x2 y2, by show 0 ≤ x.k + y.k; omega, by show x.k + y.k ≤ _; omega⟩
theorem okB2_mk {x y : N} (hx : okB x = true) (hy : okB y = true) : okB2 x y = true := by unfold okB2; rw [hx, hy]; rfl
theorem cAdd_ok (M : Int) : ConOk M (con2 11 fun x y => twoT x y (x.sum y)) := con2_ok (LD_ok M) fun x y v h => by
  refine EvF.of_eq 60 fun m => get_some h ?_
  rw [tAdd]
  unfold twoT
  rw [okT_get]
  refine bif3_ext (fun hx => ?_) fun n => rfl
  rw [okT_get]
  refine bif3_ext (fun hy => ?_) fun n => rfl
  rw [okB2_mk hx hy, fit_sum hx hy]; rfl
theorem cMul_ok (M : Int) : ConOk M (con2 13 fun x y => twoT x y (x.mul y)) := con2_ok (LD_ok M) fun x y v h => by
  refine EvF.of_eq 60 fun m => get_some h ?_
  rw [tMul]
  unfold twoT
  rw [okT_get]
  refine bif3_ext (fun hx => ?_) fun n => rfl
  rw [okT_get]
  refine bif3_ext (fun hy => ?_) fun n => rfl
  rw [okB2_mk hx hy, fit_mul hx hy]; rfl
end Go.Proofs.YtihccnfaibiiiaaGreatDoor.R
/- Ring: differences, negatives, conjugates, dots and norms. -/
namespace Go.Proofs.YtihccnfaibiiiaaGreatDoor.R
open Go Go.Proofs.XX.Vm Go.Proofs.XX.Rm Go.RowKit
set_option maxRecDepth 100000

def negW (x : N) : N := ⟨w (0 - x.a), w (0 - x.b), w (0 - x.c), w (0 - x.d), x.k⟩
def conjW (x : N) : N := ⟨x.a, w (0 - x.d), w (0 - x.c), w (0 - x.b), x.k⟩
def altW (x : N) : N := ⟨x.a, w (0 - x.b), x.c, w (0 - x.d), x.k⟩
theorem w_neg {n : Int} (h1 : -1073741824 ≤ n) (h2 : n ≤ 1073741824) : w (0 - n) = -n := by rw [w_eq _ (by omega) (by omega)]; omega
theorem negW_eq {x : N} (h : okB x = true) : negW x = x.neg := by
  obtain ⟨-, -, ⟨a1, a2, b1, b2, c1, c2, d1, d2⟩⟩ := (okB_iff x).1 h
  unfold negW N.neg; rw [w_neg a1 a2, w_neg b1 b2, w_neg c1 c2, w_neg d1 d2]
theorem conjW_eq {x : N} (h : okB x = true) : conjW x = x.conj := by
  obtain ⟨-, -, ⟨a1, a2, b1, b2, c1, c2, d1, d2⟩⟩ := (okB_iff x).1 h
  unfold conjW N.conj; rw [w_neg b1 b2, w_neg c1 c2, w_neg d1 d2]
theorem altW_eq {x : N} (h : okB x = true) : altW x = x.alt := by
  obtain ⟨-, -, ⟨a1, a2, b1, b2, c1, c2, d1, d2⟩⟩ := (okB_iff x).1 h
  unfold altW N.alt; rw [w_neg b1 b2, w_neg d1 d2]
theorem okB_neg {x : N} (h : okB x = true) : okB x.neg = true := by
  obtain ⟨h0, h1, ⟨a1, a2, b1, b2, c1, c2, d1, d2⟩⟩ := (okB_iff x).1 h
  exact (okB_iff _).2 ⟨h0, h1, by constructor <;> simp only [N.neg] <;> omega⟩
theorem okB_conj {x : N} (h : okB x = true) : okB x.conj = true := by
  obtain ⟨h0, h1, ⟨a1, a2, b1, b2, c1, c2, d1, d2⟩⟩ := (okB_iff x).1 h
  exact (okB_iff _).2 ⟨h0, h1, by constructor <;> simp only [N.conj] <;> omega⟩
theorem okB_alt {x : N} (h : okB x = true) : okB x.alt = true := by
  obtain ⟨h0, h1, ⟨a1, a2, b1, b2, c1, c2, d1, d2⟩⟩ := (okB_iff x).1 h
  exact (okB_iff _).2 ⟨h0, h1, by constructor <;> simp only [N.alt] <;> omega⟩

theorem tSub (M : Int) (m : Nat) (x y : N) : runK Tryz.prog (orcL LD) (Sg1 M) (m + 60) 12 [N.v x, N.v y] =
    bif3 x (bif3 y (bif okB2 x (negW y) then bif fitB (x.sum (negW y)) then bif okB (x.sum (negW y)).nf then some (resV ((x.sum (negW y)).nf, 0)) else some (resV (O, 8)) else none else none) fun n => some (resV (O, n))) fun n => some (resV (O, n)) := by kernel_rfl
theorem cSub_ok (M : Int) : ConOk M (con2 12 fun x y => twoT x y (x.sum y.neg)) := con2_ok (LD_ok M) fun x y v h => by
  refine EvF.of_eq 60 fun m => get_some h ?_
  rw [tSub]
  unfold twoT
  rw [okT_get]
  refine bif3_ext (fun hx => ?_) fun n => rfl
  rw [okT_get]
  refine bif3_ext (fun hy => ?_) fun n => rfl
  rw [negW_eq hy, okB2_mk hx (okB_neg hy), fit_sum hx (okB_neg hy)]; rfl
/-- What one number makes. -/
def oneT (x : N) (z : N) : OT := okT x (.val (resV (z.nf, 0))) badN
theorem tNeg (M : Int) (m : Nat) (x : N) : runK Tryz.prog (orcL LC) (Sg1 M) (m + 60) 19 [N.v x] =
    bif3 x (bif okB (negW x) then some (resV ((negW x).nf, 0)) else none) fun n => some (resV (O, n)) := by kernel_rfl
theorem cNeg_ok (M : Int) : ConOk M (con1 19 fun x => oneT x x.neg) := con1_ok (LC_ok M) fun x v h => by
  refine EvF.of_eq 60 fun m => get_some h ?_
  rw [tNeg]
  unfold oneT
  rw [okT_get]
  refine bif3_ext (fun hx => ?_) fun n => rfl
  rw [negW_eq hx, okB_neg hx]; rfl
theorem tConj (M : Int) (m : Nat) (x : N) : runK Tryz.prog (orcL LC) (Sg1 M) (m + 60) 20 [N.v x] =
    bif3 x (bif okB (conjW x) then some (resV ((conjW x).nf, 0)) else none) fun n => some (resV (O, n)) := by kernel_rfl
theorem cConj_ok (M : Int) : ConOk M (con1 20 fun x => oneT x x.conj) := con1_ok (LC_ok M) fun x v h => by
  refine EvF.of_eq 60 fun m => get_some h ?_
  rw [tConj]
  unfold oneT
  rw [okT_get]
  refine bif3_ext (fun hx => ?_) fun n => rfl
  rw [conjW_eq hx, okB_conj hx]; rfl
/-- A tree for right numbers alone. -/
theorem okV_of {M : Int} {f : FuncId} {g : N → OT} {h : N → Value} (hc : ConOk M (con1 f g)) (e : ∀ x, okB x = true → (g x).get = some (h x)) : ConOk M (con1 f fun x => okV x (h x)) := by
  intro args t v ht hv w inv
  simp only [con1] at ht
  split at ht
  · rename_i u
    split at ht
    · rename_i x hx
      cases ht
      obtain ⟨ho, rfl⟩ := okV_get hv
      exact hc [u] (g x) (h x) (by simp only [con1, hx]) (e x ho) w inv
    · cases ht
  · cases ht
theorem oneT_ok {x z : N} (h : okB x = true) : (oneT x z).get = some (resV (z.nf, 0)) := by unfold oneT; rw [okT_get, bif3_ok h]; rfl
abbrev LE : List Con := [cChk, con1 54 fun x => okV x (resV (x.nf, 0)), con1 19 fun x => okV x (resV (x.neg.nf, 0))]
theorem LE_ok (M : Int) : ∀ c ∈ LE, ConOk M c := mem_cons_ok (cChk_ok M) (mem_cons_ok (leaOk_ok M) (mem_cons_ok (okV_of (cNeg_ok M) fun _ hx => oneT_ok hx) nil_ok))
/-- The dot. -/
def oddB (x : N) : Bool := x.k.tmod 2 != 0
def N.dot (x : N) : N := bif oddB x then x.alt.neg else x.alt
theorem tDot (M : Int) (m : Nat) (x : N) : runK Tryz.prog (orcL LE) (Sg1 M) (m + 60) 21 [N.v x] =
    bif3 x (bif okB (altW x) then bif oddB x then (bif okB (altW x).nf then some (resV ((altW x).nf.neg.nf, 0)) else none) else some (resV ((altW x).nf, 0)) else none) fun n => some (resV (O, n)) := by kernel_rfl
theorem cDot_ok (M : Int) : ConOk M (con1 21 fun x => oneT x (N.dot x)) := con1_ok (LE_ok M) fun x v h => by
  refine EvF.of_eq 60 fun m => get_some h ?_
  rw [tDot]
  unfold oneT
  rw [okT_get]
  refine bif3_ext (fun hx => ?_) fun n => rfl
  rw [altW_eq hx, okB_alt hx, okB_nf (okB_alt hx)]
  unfold N.dot
  cases oddB x
  · rfl
  · simp only [cond_true, OT.get, N.nf_neg, N.nf_nf]
/-- Products of right numbers. -/
def okV2 (x y : N) (t : OT) : OT := .ite (okB2 x y) t .no
theorem okV2_of {M : Int} {f : FuncId} {g h : N → N → OT} (hc : ConOk M (con2 f g)) (e : ∀ x y, okB x = true → okB y = true → (g x y).get = (h x y).get) : ConOk M (con2 f fun x y => okV2 x y (h x y)) := by
  intro args t v ht hv w inv
  simp only [con2] at ht
  split at ht
  · rename_i u t2
    split at ht
    · rename_i x y hx hy
      cases ht
      unfold okV2 at hv
      simp only [OT.get] at hv
      cases hb : okB2 x y with
      | false => rw [hb] at hv; cases hv
      | true =>
        rw [hb, cond_true] at hv
        obtain ⟨h1, h2⟩ := okB2_iff hb
        exact hc [u, t2] (g x y) v (by simp only [con2, hx, hy]) ((e x y h1 h2).trans hv) w inv
    · cases ht
  · cases ht
theorem twoT_ok {x y z : N} (hx : okB x = true) (hy : okB y = true) : (twoT x y z).get = (fitT z.nf).get := by unfold twoT; rw [okT_get, bif3_ok hx, okT_get, bif3_ok hy]
abbrev LN : List Con := [con1 20 fun x => oneT x x.conj, con2 13 fun x y => okV2 x y (fitT (x.mul y).nf)]
theorem LN_ok (M : Int) : ∀ c ∈ LN, ConOk M c := mem_cons_ok (cConj_ok M) (mem_cons_ok (okV2_of (cMul_ok M) fun _ _ hx hy => twoT_ok hx hy) nil_ok)
theorem tNorm (M : Int) (m : Nat) (x : N) : runK Tryz.prog (orcL LN) (Sg1 M) (m + 60) 22 [N.v x] =
    bif3 x (bif okB2 x x.conj.nf then bif okB (x.mul x.conj.nf).nf then some (resV ((x.mul x.conj.nf).nf, 0)) else some (resV (O, 8)) else none) fun n => some (resV (O, n)) := by kernel_rfl
def norT (x : N) : OT := okT x (fitT (x.mul x.conj).nf) badN
theorem cNorm_ok (M : Int) : ConOk M (con1 22 norT) := con1_ok (LN_ok M) fun x v h => by
  refine EvF.of_eq 60 fun m => get_some h ?_
  rw [tNorm]
  unfold norT
  rw [okT_get]
  refine bif3_ext (fun hx => ?_) fun n => rfl
  have h0 := ((okB_iff x).1 hx).1
  rw [okB2_mk hx (okB_nf (okB_conj hx)), N.nf_mul_right h0 (show 0 ≤ x.conj.k from h0)]; rfl
end Go.Proofs.YtihccnfaibiiiaaGreatDoor.R
