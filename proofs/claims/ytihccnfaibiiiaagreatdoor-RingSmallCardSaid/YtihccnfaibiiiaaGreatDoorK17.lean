/- Calls that only read some blocks, wherever these lie. -/
import Derived.Test.YtihccnfaibiiiaaGreatDoorK12
import Derived.Test.YtihccnfaibiiiaaGreatDoorK07
import Derived.Test.YtihccnfaibiiiaaGreatDoorK10
namespace Go.Proofs.XX.Vm
open Go Go.RowKit

section
variable {P : Program} {Sg : List Blk}
def sigN (g : Nat) (bs : List Nat) (n i : Nat) : Nat := if i < g then i else match bs[i - g]? with
  | some b => b
  | none => n + (i - (g + bs.length))
theorem sigN_low {g : Nat} {bs : List Nat} {n i : Nat} (h : i < g) : sigN g bs n i = i := by simp [sigN, h]
theorem sigN_at {g : Nat} {bs : List Nat} {n i b : Nat} (h : g ≤ i) (hb : bs[i - g]? = some b) : sigN g bs n i = b := by
  unfold sigN
  rw [if_neg (by omega), hb]
theorem callAtRn (hsg : SgOk Sg) {fl : Nat} {S K : List Blk} {bs : List Nat} {f : FuncId} {args0 : List Value} {v0 : Value} (hS : Sg.length ≤ S.length)
    (h : CallAt P Sg (Sg.length + K.length) f args0 (Sg ++ K) v0 (Sg ++ K)) (hl : bs.length = K.length)
    (hb : ∀ (i b : Nat) (k : Blk), bs[i]? = some b → K[i]? = some k → S[b]? = some (renB (sigN Sg.length bs S.length) k)) (hg : ∀ b ∈ bs, Sg.length ≤ b) (hnd : bs.Nodup)
    (hargs : args0.all (sh2 (Sg.length + K.length)) = true) (hv : sh3 (Sg.length + K.length) v0 = true) (hs : ∀ k ∈ K, shB (Sg.length + K.length) k = true) :
    CallAt P Sg fl f (args0.map (ren2 (sigN Sg.length bs S.length))) S (ren3 (sigN Sg.length bs S.length) v0) S := by
  have sgk : ∀ (g : Nat) k, Sg[g]? = some k → k.cells.all scalar = true ∧ k.obj = none := by
    intro g k hk
    have := (List.all_eq_true.1 hsg) k (List.mem_of_getElem? hk)
    simpa using this
  have l0 : (Sg ++ K).length = Sg.length + K.length := by simp
  have get : ∀ i, Sg.length ≤ i → i < Sg.length + K.length → ∃ b k, bs[i - Sg.length]? = some b ∧ K[i - Sg.length]? = some k ∧ sigN Sg.length bs S.length i = b := by
    intro i h1 h2
    have hk : i - Sg.length < K.length := by omega
    have hb' : i - Sg.length < bs.length := by omega
    exact ⟨bs[i - Sg.length], K[i - Sg.length], List.getElem?_eq_getElem hb', List.getElem?_eq_getElem hk, sigN_at h1 (List.getElem?_eq_getElem hb')⟩
  have at0 : ∀ (i : Nat) (y : Blk), (Sg ++ K)[i]? = some y → (i < Sg.length ∧ Sg[i]? = some y) ∨ (Sg.length ≤ i ∧ K[i - Sg.length]? = some y) := by
    intro i y hy
    by_cases h1 : i < Sg.length
    · rw [List.getElem?_append_left h1] at hy; exact .inl ⟨h1, hy⟩
    · rw [List.getElem?_append_right (by omega)] at hy
      exact .inr ⟨by omega, hy⟩
  have shg : ∀ (i : Nat) k, (Sg ++ K)[i]? = some k → shB (Sg.length + K.length) k = true := by
    intro i k hk
    rcases at0 i k hk with ⟨_, h3⟩ | ⟨_, h3⟩
    · obtain ⟨e1, e2⟩ := sgk i k h3
      simp only [shB, e2, Bool.and_true, List.all_eq_true] at e1 ⊢
      intro v hv
      exact scalar_sh (e1 v hv) _
    · exact hs k (List.mem_of_getElem? h3)
  refine callAt_of h ⟨fun g hg => sigN_low hg, fun g hg => by rw [List.getElem?_append_left hg], fun j => ?_, fun i hi => ?_, fun i j hi hj e => ?_, fun i h1 h2 => ?_, by omega, by simp, by simp, fun g k hk => ?_, fun i k h1 hk => ?_, fun i k hk => ?_, fun i k hk => ?_, Nat.le_refl _, by simp, fun i k h1 hk => ?_, fun x hx hno => rfl⟩ (by rw [l0]; exact hargs) (by rw [l0]; exact hv)
  · rw [l0]
    unfold sigN
    rw [if_neg (by omega), List.getElem?_eq_none (by omega)]
    simp only
    omega
  · rw [l0] at hi
    by_cases h1 : i < Sg.length
    · rw [sigN_low h1]; omega
    · obtain ⟨b, k, e1, e2, e3⟩ := get i (by omega) hi
      rw [e3]
      exact (List.getElem?_eq_some_iff.1 (hb _ b k e1 e2)).1
  · rw [l0] at hi hj
    by_cases h1 : i < Sg.length
    · rw [sigN_low h1] at e
      by_cases h2 : j < Sg.length
      · rw [sigN_low h2] at e; exact e
      · obtain ⟨b, k, e1, _, e3⟩ := get j (by omega) hj
        have := hg b (List.mem_of_getElem? e1)
        omega
    · obtain ⟨b, k, e1, _, e3⟩ := get i (by omega) hi
      by_cases h2 : j < Sg.length
      · rw [sigN_low h2] at e
        have := hg b (List.mem_of_getElem? e1)
        omega
      · obtain ⟨b2, k2, f1, _, f3⟩ := get j (by omega) hj
        have hbb : b = b2 := by rw [← e3, ← f3, e]
        subst hbb
        have hlt := (List.getElem?_eq_some_iff.1 e1).1
        have := (List.getElem?_inj hlt hnd).1 (e1.trans f1.symm)
        omega
  · rw [l0] at h2
    omega
  · obtain ⟨e1, e2⟩ := sgk g k hk
    obtain ⟨cs, e, ro, ob⟩ := k
    simp only [renB, Blk.mk.injEq, and_true]
    exact (List.map_congr_left fun v hv => scalar_ren ((List.all_eq_true.1 e1) v hv)).trans (List.map_id' _)
  · rcases at0 i k hk with ⟨h2, _⟩ | ⟨h2, h3⟩
    · omega
    · obtain ⟨b, k2, e1, e2, e3⟩ := get i h1 (by have := (List.getElem?_eq_some_iff.1 h3).1; omega)
      rw [h3] at e2; cases e2
      rw [e3]
      exact hb _ b k e1 h3
  · rw [l0]; exact shg i k hk
  · rw [l0]; exact shg i k hk
  · have := (List.getElem?_eq_some_iff.1 hk).1
    rw [l0] at this
    omega
end
end Go.Proofs.XX.Vm
/- Ring: plain values under renaming; contracts that the functions of lists lean on. -/
namespace Go.Proofs.YtihccnfaibiiiaaGreatDoor.R
open Go Go.Proofs.XX.Vm Go.Proofs.XX.Rm Go.RowKit
set_option maxRecDepth 100000

theorem ren2_flat {σ : Nat → Nat} {v : Value} (h : flat v = true) : ren2 σ v = v := by
  by_cases ha : ∃ x, v = .agg x
  · obtain ⟨x, rfl⟩ := ha
    simp only [flat] at h
    show Value.agg (x.map (renS σ)) = Value.agg x
    congr 1
    apply Array.toList_inj.1
    rw [Array.toList_map]
    exact (List.map_congr_left fun v hv => scalar_ren ((List.all_eq_true.1 h) v hv)).trans (List.map_id' _)
  · rw [ren2_of fun x e => ha ⟨x, e⟩]
    exact scalar_ren (by unfold flat at h; split at h; exact absurd rfl (fun e => ha ⟨_, e⟩); exact h)
theorem ren3_plain {σ : Nat → Nat} {v : Value} (h : plain v = true) : ren3 σ v = v := by
  by_cases ha : ∃ x, v = .tuple x
  · obtain ⟨x, rfl⟩ := ha
    simp only [plain] at h
    show Value.tuple (x.map (ren2 σ)) = Value.tuple x
    congr 1
    apply Array.toList_inj.1
    rw [Array.toList_map]
    exact (List.map_congr_left fun v hv => ren2_flat ((List.all_eq_true.1 h) v hv)).trans (List.map_id' _)
  · rw [ren3_of fun x e => ha ⟨x, e⟩]
    exact ren2_flat (by unfold plain at h; split at h; exact absurd rfl (fun e => ha ⟨_, e⟩); exact h)
theorem plain_sh {v : Value} (h : plain v = true) (n : Nat) : sh3 n v = true := by
  have s2 : ∀ u : Value, flat u = true → sh2 n u = true := by
    intro u hu
    by_cases ha : ∃ x, u = .agg x
    · obtain ⟨x, rfl⟩ := ha
      simp only [flat, List.all_eq_true] at hu
      simp only [sh2, List.all_eq_true]
      exact fun w hw => scalar_sh (hu w hw) n
    · rw [sh2_of fun x e => ha ⟨x, e⟩]
      exact scalar_sh (by unfold flat at hu; split at hu; exact absurd rfl (fun e => ha ⟨_, e⟩); exact hu) n
  by_cases ha : ∃ x, v = .tuple x
  · obtain ⟨x, rfl⟩ := ha
    simp only [plain, List.all_eq_true] at h
    simp only [sh3, List.all_eq_true]
    exact fun w hw => s2 w (h w hw)
  · rw [sh3_of fun x e => ha ⟨x, e⟩]
    exact s2 v (by unfold plain at h; split at h; exact absurd rfl (fun e => ha ⟨_, e⟩); exact h)
theorem all_at {p : Blk → Bool} {l : List Blk} (h : l.all p = true) (b : Nat) (k : Blk) (hk : l[b]? = some k) : p k = true := (List.all_eq_true.1 h) k (List.mem_of_getElem? hk)
abbrev LSum : List Con := [con1 62 fun x => .val (.int .i64 (chkS x)), con2 11 fun x y => .val (resV (twoS x y (x.sum y)))]
theorem LSum_ok (M : Int) : ∀ c ∈ LSum, ConOk M c := mem_cons_ok (con1_val (g := chkT) (cChk_ok M) chkS_get) (mem_cons_ok (con2_val (cAdd_ok M) fun x y => twoS_get x y _) nil_ok)
end Go.Proofs.YtihccnfaibiiiaaGreatDoor.R
/- Ring: powers of a number: the program's Power, by induction over its closure. -/
namespace Go.Proofs.YtihccnfaibiiiaaGreatDoor.R
open Go Go.Proofs.XX.Vm Go.Proofs.XX.Rm Go.RowKit
set_option maxRecDepth 100000

def one1 : N := ⟨1, 0, 0, 0, 0⟩
/-- x^n: the first error of a power before it, or its own. -/
def powS (x : N) : Nat → N × Int
  | 0 => (one1, 0)
  | n + 1 => bif (powS x n).2 != 0 then (O, (powS x n).2) else twoS (powS x n).1 x ((powS x n).1.mul x)
theorem one_mul (x : N) : one1.mul x = x := by
  ext <;> simp only [N.mul, one1] <;> omega
theorem powS_one (x : N) : powS x 1 = leaS x := by
  show twoS one1 x (one1.mul x) = leaS x
  rw [one_mul]
  unfold twoS leaS
  rw [bif3_ok (show okB one1 = true by decide)]
  cases hx : okB x with
  | true =>
    rw [bif3_ok hx, bif3_ok hx]
    unfold fitS
    rw [okB_nf hx]
    rfl
  | false =>
    unfold okB at hx
    unfold bif3
    cases h1 : rgB x with
    | false => rfl
    | true =>
      cases h2 : inB x with
      | false => rfl
      | true => rw [h1, h2] at hx; cases hx
def clF (bx bp : Nat) : Value := .func (.func 63) #[] #[.pointer (some ⟨bx, 0, none⟩), .pointer (some ⟨bp, 0, none⟩)]
def clB (bx bp : Nat) : Blk := ⟨[clF bx bp], 32, false, none⟩
def clT : TypeId := 32
def nuT2 : TypeId := 23
/-- A closure's cell that is Power's own. -/
def isCl (bx bp : Nat) : List Value → Bool
  | [.func (.func g) x c] => Nat.beq g 63 && (x.toList.isEmpty && (match c.toList with
    | [.pointer (some ⟨b1, 0, none⟩), .pointer (some ⟨b2, 0, none⟩)] => Nat.beq b1 bx && Nat.beq b2 bp
    | _ => false))
  | _ => false
theorem isCl_eq {bx bp : Nat} {l : List Value} (h : isCl bx bp l = true) : l = [clF bx bp] := by
  unfold isCl at h
  split at h
  · rename_i g x c
    simp only [Bool.and_eq_true, Nat.beq_eq, List.isEmpty_iff, Array.toList_eq_nil_iff] at h
    obtain ⟨rfl, rfl, h⟩ := h
    split at h
    · rename_i b1 b2 hc
      simp only [Bool.and_eq_true, Nat.beq_eq] at h
      obtain ⟨rfl, rfl⟩ := h
      have : c = #[.pointer (some ⟨b1, 0, none⟩), .pointer (some ⟨b2, 0, none⟩)] := by
        apply Array.toList_inj.1
        exact hc
      rw [this]; rfl
    · cases h
  · cases h
/-- The closure's calls, up to a number. -/
noncomputable def cPw (m : Nat) : MCon := ⟨63, fun _ args S => match args with
  | [.int .i64 n, .pointer (some ⟨bx, 0, none⟩), .pointer (some ⟨bp, 0, none⟩)] => match S[bx]? with
    | some ⟨[.int .i64 a, .int .i64 b, .int .i64 c, .int .i64 d, .int .i64 k], t, false, none⟩ => match S[bp]? with
      | some ⟨l, t2, false, none⟩ => some (.ite (decide (1 ≤ n) && (decide (n ≤ (m : Int)) && (decide (n ≤ 100) && (Nat.beq t nuT2 && (Nat.beq t2 clT && (Nat.ble 3 bx && (Nat.ble 3 bp && (isCl bx bp l && !Nat.beq bx bp))))))))
          (.val (resV (powS ⟨a, b, c, d, k⟩ n.toNat)) S) .no)
      | _ => none
    | _ => none
  | _ => none⟩
noncomputable abbrev LPw : List Con := [con1 54 fun x => .val (resV (leaS x)), con2 13 fun x y => .val (resV (twoS x y (x.mul y)))]
theorem LPw_ok (M : Int) : ∀ c ∈ LPw, ConOk M c := mem_cons_ok (con1_val (cLea_ok M) leaS_get) (mem_cons_ok (con2_val (cMul_ok M) fun x y => twoS_get x y _) nil_ok)
def ptN (b : Nat) : Value := .pointer (some ⟨b, 0, none⟩)
def tsP (m : Nat) (n : Int) : Bool := decide (1 ≤ w (n - 1)) && (decide (w (n - 1) ≤ (m : Int)) && (decide (w (n - 1) ≤ 100) && true))
theorem tPw (M : Int) (s m : Nat) (n : Int) (x : N) :
    callInK Tryz.prog (evCodeK Tryz.prog (orcLM LPw [cPw m]) (Sg1 M) (s + 80)) 5 63 [.int .i64 n, ptN 3, ptN 4] [uni, pow, mxl M, rb x, clB 3 4] (fun u U => some (u, U.take 5)) =
    bif n == 1 then some (resV (leaS x), [uni, pow, mxl M, rb x, clB 3 4]) else (bif tsP m n then
      (bif (powS x (w (n - 1)).toNat).2 != 0 then some (resV (O, (powS x (w (n - 1)).toNat).2), [uni, pow, mxl M, rb x, clB 3 4])
        else some (resV (twoS (powS x (w (n - 1)).toNat).1 x ((powS x (w (n - 1)).toNat).1.mul x)), [uni, pow, mxl M, rb x, clB 3 4])) else none) := by kernel_rfl
theorem atPw (M : Int) (m : Nat) (ih : MConOk M (cPw m)) (n : Int) (x : N) (h1 : 1 ≤ n) (h2 : n ≤ (m : Int) + 1) (h3 : n ≤ 100) :
    CallAt Tryz.prog (Sg1 M) 5 63 [.int .i64 n, ptN 3, ptN 4] (Sg1 M ++ [rb x, clB 3 4]) (resV (powS x n.toNat)) (Sg1 M ++ [rb x, clB 3 4]) := by
  have e := tPw M 0 m n x
  have e2 : callInK Tryz.prog (evCodeK Tryz.prog (orcLM LPw [cPw m]) (Sg1 M) (0 + 80)) 5 63 [.int .i64 n, ptN 3, ptN 4] [uni, pow, mxl M, rb x, clB 3 4] (fun u U => some (u, U.take 5)) = some (resV (powS x n.toNat), [uni, pow, mxl M, rb x, clB 3 4]) := by
    refine e.trans ?_
    by_cases h : n = 1
    · subst h
      rw [show ((1 : Int) == 1) = true from rfl, cond_true, show (1 : Int).toNat = 1 from rfl, powS_one]
    · rw [show (n == 1) = false by simpa using h, cond_false]
      have hw : w (n - 1) = n - 1 := w_eq _ (by omega) (by omega)
      have ht : tsP m n = true := by
        unfold tsP
        rw [hw, decide_eq_true (show 1 ≤ n - 1 by omega), decide_eq_true (show n - 1 ≤ (m : Int) by omega), decide_eq_true (show n - 1 ≤ 100 by omega)]
        rfl
      rw [ht, cond_true, hw, show n.toNat = (n - 1).toNat + 1 by omega, powS]
      cases (powS x (n - 1).toNat).2 != 0 <;> rfl
  obtain ⟨N, hN⟩ := callInK_take (P := Tryz.prog) (S := [uni, pow, mxl M, rb x, clB 3 4]) (sg1 M) (orcLM_ok (LPw_ok M) (mem_cons_mok ih nil_mok)) e2 (show 3 ≤ 5 by decide) (show 3 ≤ 5 by decide)
  exact callAt_drop (S' := [uni, pow, mxl M, rb x, clB 3 4]) hN rfl rfl (plain_sh rfl _) (all_at rfl) (all_at rfl)
theorem cPw_ok (M : Int) : ∀ m, MConOk M (cPw m) := by
  intro m
  induction m with
  | zero =>
    intro fl args S t v S' ht hv h1 h2
    simp only [cPw] at ht
    split at ht
    · rename_i n bx bp
      split at ht
      · split at ht
        · cases ht
          simp only [OTM.get] at hv
          rcases bif_some hv with ⟨hk, _⟩ | ⟨_, hv⟩
          · simp only [Bool.and_eq_true, decide_eq_true_eq] at hk
            omega
          · cases hv
        · cases ht
      · cases ht
    · cases ht
  | succ m ih =>
    intro fl args S t v S' ht hv h1 h2
    simp only [cPw] at ht
    split at ht
    · rename_i n bx bp
      split at ht
      · rename_i a b c d k ty hx
        split at ht
        · rename_i l ty2 hp
          cases ht
          simp only [OTM.get] at hv
          cases hk : (decide (1 ≤ n) && (decide (n ≤ ((m + 1 : Nat) : Int)) && (decide (n ≤ 100) && (Nat.beq ty nuT2 && (Nat.beq ty2 clT && (Nat.ble 3 bx && (Nat.ble 3 bp && (isCl bx bp l && !Nat.beq bx bp)))))))) with
          | false => rw [hk] at hv; cases hv
          | true =>
            rw [hk] at hv
            simp only [cond_true, Option.some.injEq, Prod.mk.injEq] at hv
            obtain ⟨rfl, rfl⟩ := hv
            simp only [Bool.and_eq_true, decide_eq_true_eq, Nat.beq_eq, Nat.ble_eq, Bool.not_eq_true'] at hk
            obtain ⟨k1, k2, k3, rfl, rfl, k6, k7, k8, k9⟩ := hk
            have hl := isCl_eq k8
            subst hl
            have hne : bx ≠ bp := fun e => by rw [e, Nat.beq_refl] at k9; cases k9
            have := callAtRn (sg1 M) (fl := fl) (S := S) (K := [rb ⟨a, b, c, d, k⟩, clB 3 4]) (bs := [bx, bp]) h2 (atPw M m ih n ⟨a, b, c, d, k⟩ k1 (by omega) k3) rfl (fun i b k hb hk => ?_) (fun b hb => ?_) (by simp [hne]) rfl (plain_sh rfl _) (List.all_eq_true.1 rfl)
            · rw [ren3_plain (show plain (resV _) = true from rfl)] at this
              exact this
            · match i with
              | 0 => cases hb; cases hk; exact hx
              | 1 => cases hb; cases hk; exact hp
              | i + 2 => cases hb
            · simp only [List.mem_cons, List.not_mem_nil, or_false] at hb
              rcases hb with rfl | rfl
              · exact k6
              · exact k7
        · cases ht
      · cases ht
    · cases ht
end Go.Proofs.YtihccnfaibiiiaaGreatDoor.R
/- Ring: functions of a list of numbers, which lies in one block: the program's (made by mklst.py). -/
namespace Go.Proofs.YtihccnfaibiiiaaGreatDoor.R
open Go Go.Proofs.XX.Vm Go.Proofs.XX.Rm Go.RowKit
set_option maxRecDepth 100000

/-- A number of a block of integers. -/
noncomputable def nmI (L : List Int) (o : Nat) : N := ⟨nthI L o, nthI L (o + 1), nthI L (o + 2), nthI L (o + 3), nthI L (o + 4)⟩
noncomputable def nmL (L : List Int) : Nat → Nat → List N
  | _, 0 => []
  | o, m + 1 => nmI L o :: nmL L (o + 5) m
def kB (et : TypeId) (ro : Bool) (lo : Nat) (L : List Int) : Blk := ⟨[], et, ro, some (.ints .i64 lo L)⟩
def slV (off n c : Nat) : Value := .slice (some ⟨3, off, none⟩) n c
def fCk : Value := .func (.func 62) #[] #[]
def ptrN (b : Nat) : Value := .pointer (some ⟨b, 0, none⟩)
/-- The first error. -/
def chkL : List N → Int
  | [] => 0
  | x :: l => bif chkS x != 0 then chkS x else chkL l
/-- The sum behind z. -/
def totL (z : N) : List N → N × Int
  | [] => (z, 0)
  | x :: l => bif (twoS z x (z.sum x)).2 != 0 then (O, (twoS z x (z.sum x)).2) else totL (twoS z x (z.sum x)).1 l
noncomputable abbrev BFE : Code := loopOf Tryz.prog 90 0
noncomputable abbrev qFE (i : Nat) : Code := nthC (pcs Tryz.prog 90) i
theorem LFE_eq : pcs Tryz.prog 90 = [qFE 0, qFE 1, .block 0 (.loop BFE), qFE 3, qFE 4] := by kernel_rfl
theorem headFE {α : Type} (M : Int) (fs : Nat → Nat) (et : TypeId) (ro : Bool) (lo off n c : Nat) (L : List Int) (k : Kont α) :
    evP Tryz.prog (orcL LSum) (Sg1 M) 4 fs 0 [qFE 0, qFE 1] (slV off n c :: fCk :: List.replicate 19 undef) [uni, pow, mxl M, kB et ro lo L] k = k .normal [slV off n c, fCk, undef, undef, .int .i64 (0), undef, undef, undef, slV off n c, .int .i64 ((n : Int)), .int .i64 (0), undef, undef, undef, undef, undef, undef, undef, undef, undef, undef] [uni, pow, mxl M, kB et ro lo L] := by kernel_rfl
theorem roundFE0 {α : Type} (M : Int) (m : Nat) (et : TypeId) (ro : Bool) (lo off n c : Nat) (L : List Int) (i : Int) (v7 v11 v12 v13 v14 v15 v16 v17 v18 v19 v20 : Value) (k : Kont α) :
    evCodeK Tryz.prog (orcL LSum) (Sg1 M) (m + 60) 4 BFE [slV off n c, fCk, undef, undef, .int .i64 (0), undef, undef, v7, slV off n c, .int .i64 ((n : Int)), .int .i64 (i), v11, v12, v13, v14, v15, v16, v17, v18, v19, v20] [uni, pow, mxl M, kB et ro lo L] k =
    bif decide (i < (n : Int)) then (bif decide (0 ≤ i) && decide (i < (n : Int)) then (bif insideI lo L (off + i.toNat * 5) 5 then (bif chkS (nmI L (off + i.toNat * 5 - lo)) != 0 then k .ret [slV off n c, fCk, undef, undef, .int .i64 (chkS (nmI L (off + i.toNat * 5 - lo))), undef, ptrN 4, .int .i64 (chkS (nmI L (off + i.toNat * 5 - lo))), slV off n c, .int .i64 ((n : Int)), .int .i64 (i), .bool true, .pointer (some ⟨3, off + i.toNat * 5, none⟩), N.v (nmI L (off + i.toNat * 5 - lo)), fCk, N.v (nmI L (off + i.toNat * 5 - lo)), .int .i64 (chkS (nmI L (off + i.toNat * 5 - lo))), .int .i64 (chkS (nmI L (off + i.toNat * 5 - lo))), .bool true, .int .i64 (chkS (nmI L (off + i.toNat * 5 - lo))), v20] [uni, pow, mxl M, kB et ro lo L, rb (nmI L (off + i.toNat * 5 - lo))] else k .normal [slV off n c, fCk, undef, undef, .int .i64 (0), undef, ptrN 4, .int .i64 (chkS (nmI L (off + i.toNat * 5 - lo))), slV off n c, .int .i64 ((n : Int)), .int .i64 (w (i + 1)), .bool true, .pointer (some ⟨3, off + i.toNat * 5, none⟩), N.v (nmI L (off + i.toNat * 5 - lo)), fCk, N.v (nmI L (off + i.toNat * 5 - lo)), .int .i64 (chkS (nmI L (off + i.toNat * 5 - lo))), .int .i64 (chkS (nmI L (off + i.toNat * 5 - lo))), .bool false, v19, .int .i64 (w (i + 1))] [uni, pow, mxl M, kB et ro lo L, rb (nmI L (off + i.toNat * 5 - lo))]) else none) else none) else k (.exit 0) [slV off n c, fCk, undef, undef, .int .i64 (0), undef, undef, v7, slV off n c, .int .i64 ((n : Int)), .int .i64 (i), .bool false, v12, v13, v14, v15, v16, v17, v18, v19, v20] [uni, pow, mxl M, kB et ro lo L] := by kernel_rfl
theorem roundFE1 {α : Type} (M : Int) (m : Nat) (et : TypeId) (ro : Bool) (lo off n c : Nat) (L : List Int) (i : Int) (z : N) (v7 v11 v12 v13 v14 v15 v16 v17 v18 v19 v20 : Value) (k : Kont α) :
    evCodeK Tryz.prog (orcL LSum) (Sg1 M) (m + 60) 4 BFE [slV off n c, fCk, undef, undef, .int .i64 (0), undef, ptrN 4, v7, slV off n c, .int .i64 ((n : Int)), .int .i64 (i), v11, v12, v13, v14, v15, v16, v17, v18, v19, v20] [uni, pow, mxl M, kB et ro lo L, rb z] k =
    bif decide (i < (n : Int)) then (bif decide (0 ≤ i) && decide (i < (n : Int)) then (bif insideI lo L (off + i.toNat * 5) 5 then (bif chkS (nmI L (off + i.toNat * 5 - lo)) != 0 then k .ret [slV off n c, fCk, undef, undef, .int .i64 (chkS (nmI L (off + i.toNat * 5 - lo))), undef, ptrN 5, .int .i64 (chkS (nmI L (off + i.toNat * 5 - lo))), slV off n c, .int .i64 ((n : Int)), .int .i64 (i), .bool true, .pointer (some ⟨3, off + i.toNat * 5, none⟩), N.v (nmI L (off + i.toNat * 5 - lo)), fCk, N.v (nmI L (off + i.toNat * 5 - lo)), .int .i64 (chkS (nmI L (off + i.toNat * 5 - lo))), .int .i64 (chkS (nmI L (off + i.toNat * 5 - lo))), .bool true, .int .i64 (chkS (nmI L (off + i.toNat * 5 - lo))), v20] [uni, pow, mxl M, kB et ro lo L, rb z, rb (nmI L (off + i.toNat * 5 - lo))] else k .normal [slV off n c, fCk, undef, undef, .int .i64 (0), undef, ptrN 5, .int .i64 (chkS (nmI L (off + i.toNat * 5 - lo))), slV off n c, .int .i64 ((n : Int)), .int .i64 (w (i + 1)), .bool true, .pointer (some ⟨3, off + i.toNat * 5, none⟩), N.v (nmI L (off + i.toNat * 5 - lo)), fCk, N.v (nmI L (off + i.toNat * 5 - lo)), .int .i64 (chkS (nmI L (off + i.toNat * 5 - lo))), .int .i64 (chkS (nmI L (off + i.toNat * 5 - lo))), .bool false, v19, .int .i64 (w (i + 1))] [uni, pow, mxl M, kB et ro lo L, rb z, rb (nmI L (off + i.toNat * 5 - lo))]) else none) else none) else k (.exit 0) [slV off n c, fCk, undef, undef, .int .i64 (0), undef, ptrN 4, v7, slV off n c, .int .i64 ((n : Int)), .int .i64 (i), .bool false, v12, v13, v14, v15, v16, v17, v18, v19, v20] [uni, pow, mxl M, kB et ro lo L, rb z] := by kernel_rfl
theorem tailFE {α : Type} (M : Int) (fs : Nat → Nat) (S : List Blk) (a0 a1 a2 a3 a4 a5 a6 a7 a8 a9 a10 a11 a12 a13 a14 a15 a16 a17 a18 a19 a20 : Value) (k : Kont α) :
    evP Tryz.prog (orcL LSum) (Sg1 M) 4 fs 3 [qFE 3, qFE 4] [a0, a1, a2, a3, a4, a5, a6, a7, a8, a9, a10, a11, a12, a13, a14, a15, a16, a17, a18, a19, a20] S k = k .ret [a0, a1, a2, a3, .int .i64 (0), a5, a6, a7, a8, a9, a10, a11, a12, a13, a14, a15, a16, a17, a18, a19, a20] S := by kernel_rfl
theorem outFE (S : List Blk) (e : Int) (a0 a1 a2 a3 a5 a6 a7 a8 a9 a10 a11 a12 a13 a14 a15 a16 a17 a18 a19 a20 : Value) : outOf Tryz.prog 90 [a0, a1, a2, a3, .int .i64 e, a5, a6, a7, a8, a9, a10, a11, a12, a13, a14, a15, a16, a17, a18, a19, a20] S = some (.int .i64 e) := by kernel_rfl
theorem tmpsFE (a b : Value) : tmps0Of Tryz.prog 90 [a, b] = a :: b :: List.replicate 19 undef := by kernel_rfl
end Go.Proofs.YtihccnfaibiiiaaGreatDoor.R
/- Ring: the first error of a list of numbers, as a contract (made by mklst2.py). -/
namespace Go.Proofs.YtihccnfaibiiiaaGreatDoor.R
open Go Go.Proofs.XX.Vm Go.Proofs.XX.Rm Go.RowKit
set_option maxRecDepth 100000

theorem inside_at {lo : Nat} {L : List Int} {off n i : Nat} (h : insideI lo L off (n * 5) = true) (hi : i < n) : lo ≤ off ∧ insideI lo L (off + i * 5) 5 = true := by
  simp only [insideI, Bool.and_eq_true, Nat.ble_eq] at h ⊢
  omega
theorem bodyFE : (Tryz.prog.funcs[90]?).bind (·.body) ≠ none := by
  rw [Tryz.func90]
  intro h
  have : (Option.isSome ((some Tryz.f90).bind (·.body))) = true := by kernel_rfl
  rw [h] at this
  cases this
theorem loopFE (M : Int) (et : TypeId) (ro : Bool) (lo off n c : Nat) (L : List Int) (h1 : insideI lo L off (n * 5) = true) (h2 : n ≤ 34359738368) :
    WpW Tryz.prog (Sg1 M) 4 4 (.loop BFE) [slV off n c, fCk, undef, undef, .int .i64 (0), undef, undef, undef, slV off n c, .int .i64 ((n : Int)), .int .i64 (0), undef, undef, undef, undef, undef, undef, undef, undef, undef, undef] [uni, pow, mxl M, kB et ro lo L] fun x T S => (x = .exit 0 ∧ (chkL (nmL L (off - lo) n)) = 0 ∧ (∃ N, S = [uni, pow, mxl M, kB et ro lo L] ++ N) ∧ ∃ (a0 a1 a2 a3 a4 a5 a6 a7 a8 a9 a10 a11 a12 a13 a14 a15 a16 a17 a18 a19 a20 : Value), T = [a0, a1, a2, a3, a4, a5, a6, a7, a8, a9, a10, a11, a12, a13, a14, a15, a16, a17, a18, a19, a20]) ∨
      (x = .ret ∧ (∃ N, S = [uni, pow, mxl M, kB et ro lo L] ++ N) ∧ ∃ (a0 a1 a2 a3 a5 a6 a7 a8 a9 a10 a11 a12 a13 a14 a15 a16 a17 a18 a19 a20 : Value), T = [a0, a1, a2, a3, .int .i64 (chkL (nmL L (off - lo) n)), a5, a6, a7, a8, a9, a10, a11, a12, a13, a14, a15, a16, a17, a18, a19, a20]) := by
  have hor := orcOk_of (LSum_ok M)
  refine WpW.loop (fun m T S => ∃ (i : Nat) (v7 v11 v12 v13 v14 v15 v16 v17 v18 v19 v20 : Value), [v7, v11, v12, v13, v14, v15, v16, v17, v18, v19, v20].all (sh3 4) = true ∧ i ≤ n ∧ m = n - i ∧ (chkL (nmL L (off - lo) n)) = chkL (nmL L (off - lo + 5 * i) (n - i)) ∧
      ((S = [uni, pow, mxl M, kB et ro lo L] ∧ T = [slV off n c, fCk, undef, undef, .int .i64 (0), undef, undef, v7, slV off n c, .int .i64 ((n : Int)), .int .i64 ((i : Nat)), v11, v12, v13, v14, v15, v16, v17, v18, v19, v20]) ∨ ∃ z, S = [uni, pow, mxl M, kB et ro lo L, rb z] ∧ T = [slV off n c, fCk, undef, undef, .int .i64 (0), undef, ptrN 4, v7, slV off n c, .int .i64 ((n : Int)), .int .i64 ((i : Nat)), v11, v12, v13, v14, v15, v16, v17, v18, v19, v20])) ?_ n _ _ ⟨0, undef, undef, undef, undef, undef, undef, undef, undef, undef, undef, undef, rfl, Nat.zero_le _, by omega, by simp, .inl ⟨rfl, rfl⟩⟩
  rintro m T S ⟨i, v7, v11, v12, v13, v14, v15, v16, v17, v18, v19, v20, hJ, hi, hm, hc, hs⟩
  have h19 : sh3 4 v19 = true := by
    simp only [List.all_cons, Bool.and_eq_true] at hJ
    exact hJ.2.2.2.2.2.2.2.2.2.1
  by_cases hlt : i < n
  · obtain ⟨h3, h4⟩ := inside_at h1 hlt
    have ex : off + ((i : Nat) : Int).toNat * 5 - lo = off - lo + 5 * i := by rw [Int.toNat_natCast]; omega
    have c1 : decide (((i : Nat) : Int) < (n : Int)) = true := decide_eq_true (by omega)
    have c2 : (decide (0 ≤ ((i : Nat) : Int)) && decide (((i : Nat) : Int) < (n : Int))) = true := by rw [c1, decide_eq_true (show 0 ≤ ((i : Nat) : Int) by omega)]; rfl
    have c3 : insideI lo L (off + ((i : Nat) : Int).toNat * 5) 5 = true := by rw [Int.toNat_natCast]; exact h4
    have hw : w (((i : Nat) : Int) + 1) = ((i + 1 : Nat) : Int) := by rw [w_eq _ (by omega) (by omega)]; omega
    have hc2 : (chkL (nmL L (off - lo) n)) = bif chkS (nmI L (off + ((i : Nat) : Int).toNat * 5 - lo)) != 0 then chkS (nmI L (off + ((i : Nat) : Int).toNat * 5 - lo)) else chkL (nmL L (off - lo + 5 * (i + 1)) (n - (i + 1))) := by
      rw [hc, show n - i = (n - (i + 1)) + 1 by omega, nmL, chkL, show off - lo + 5 * i + 5 = off - lo + 5 * (i + 1) by omega, ← ex]
    rcases hs with ⟨rfl, rfl⟩ | ⟨z, rfl, rfl⟩
    · cases hx : chkS (nmI L (off + ((i : Nat) : Int).toNat * 5 - lo)) != 0 with
      | true =>
        rw [hx, cond_true] at hc2
        refine WpW.of_ev (sg1 M) hor (show 3 ≤ 4 by decide) (Ev.of_eq 60 (fun s k => (roundFE0 M s et ro lo off n c L i v7 v11 v12 v13 v14 v15 v16 v17 v18 v19 v20 k).trans ((condT c1).trans ((condT c2).trans ((condT c3).trans (condT hx))))) ?_)
        exact .inr ⟨rfl, ⟨[rb (nmI L (off + ((i : Nat) : Int).toNat * 5 - lo))], rfl⟩, _, _, _, _, _, _, _, _, _, _, _, _, _, _, _, _, _, _, _, _, by rw [hc2]⟩
      | false =>
        rw [hx, cond_false] at hc2
        refine WpW.of_ev (sg1 M) hor (show 3 ≤ 4 by decide) (Ev.of_eq 60 (fun s k => (roundFE0 M s et ro lo off n c L i v7 v11 v12 v13 v14 v15 v16 v17 v18 v19 v20 k).trans ((condT c1).trans ((condT c2).trans ((condT c3).trans (condF hx))))) ?_)
        exact ⟨n - (i + 1), by omega, i + 1, .int .i64 (chkS (nmI L (off + ((i : Nat) : Int).toNat * 5 - lo))), .bool true, .pointer (some ⟨3, off + ((i : Nat) : Int).toNat * 5, none⟩), N.v (nmI L (off + ((i : Nat) : Int).toNat * 5 - lo)), fCk, N.v (nmI L (off + ((i : Nat) : Int).toNat * 5 - lo)), .int .i64 (chkS (nmI L (off + ((i : Nat) : Int).toNat * 5 - lo))), .int .i64 (chkS (nmI L (off + ((i : Nat) : Int).toNat * 5 - lo))), .bool false, v19, .int .i64 ((i + 1 : Nat)), by simp only [List.all_cons, List.all_nil, h19]; rfl, by omega, rfl, hc2, .inr ⟨(nmI L (off + ((i : Nat) : Int).toNat * 5 - lo)), rfl, by rw [hw]⟩⟩
    · cases hx : chkS (nmI L (off + ((i : Nat) : Int).toNat * 5 - lo)) != 0 with
      | true =>
        rw [hx, cond_true] at hc2
        refine WpW.of_ev (sg1 M) hor (show 3 ≤ 4 by decide) (Ev.of_eq 60 (fun s k => (roundFE1 M s et ro lo off n c L i z v7 v11 v12 v13 v14 v15 v16 v17 v18 v19 v20 k).trans ((condT c1).trans ((condT c2).trans ((condT c3).trans (condT hx))))) ?_)
        exact .inr ⟨rfl, ⟨[rb z, rb (nmI L (off + ((i : Nat) : Int).toNat * 5 - lo))], rfl⟩, _, _, _, _, _, _, _, _, _, _, _, _, _, _, _, _, _, _, _, _, by rw [hc2]⟩
      | false =>
        rw [hx, cond_false] at hc2
        refine WpW.post (show 3 ≤ 4 by decide) (show 3 ≤ 4 by decide) (WpW.of_ev (sg1 M) hor (show 3 ≤ 4 by decide) (Q := fun x T S => x = .normal ∧ T = [slV off n c, fCk, undef, undef, .int .i64 (0), undef, ptrN 5, .int .i64 (chkS (nmI L (off + ((i : Nat) : Int).toNat * 5 - lo))), slV off n c, .int .i64 ((n : Int)), .int .i64 ((i + 1 : Nat)), .bool true, .pointer (some ⟨3, off + ((i : Nat) : Int).toNat * 5, none⟩), N.v (nmI L (off + ((i : Nat) : Int).toNat * 5 - lo)), fCk, N.v (nmI L (off + ((i : Nat) : Int).toNat * 5 - lo)), .int .i64 (chkS (nmI L (off + ((i : Nat) : Int).toNat * 5 - lo))), .int .i64 (chkS (nmI L (off + ((i : Nat) : Int).toNat * 5 - lo))), .bool false, v19, .int .i64 ((i + 1 : Nat))] ∧ S = [uni, pow, mxl M, kB et ro lo L, rb z, rb (nmI L (off + ((i : Nat) : Int).toNat * 5 - lo))])
          (Ev.of_eq 60 (fun s k => (roundFE1 M s et ro lo off n c L i z v7 v11 v12 v13 v14 v15 v16 v17 v18 v19 v20 k).trans ((condT c1).trans ((condT c2).trans ((condT c3).trans (condF hx))))) ⟨rfl, by rw [hw], rfl⟩)) ?_
        rintro x T S ⟨rfl, rfl, rfl⟩
        refine ⟨_, _, _, Shr.turn (fl := 4) (B := [uni, pow, mxl M, kB et ro lo L]) (y := rb z) (z := rb (nmI L (off + ((i : Nat) : Int).toNat * 5 - lo))) (A := [slV off n c, fCk, undef, undef, .int .i64 (0), undef]) (C := [.int .i64 (chkS (nmI L (off + ((i : Nat) : Int).toNat * 5 - lo))), slV off n c, .int .i64 ((n : Int)), .int .i64 ((i + 1 : Nat)), .bool true, .pointer (some ⟨3, off + ((i : Nat) : Int).toNat * 5, none⟩), N.v (nmI L (off + ((i : Nat) : Int).toNat * 5 - lo)), fCk, N.v (nmI L (off + ((i : Nat) : Int).toNat * 5 - lo)), .int .i64 (chkS (nmI L (off + ((i : Nat) : Int).toNat * 5 - lo))), .int .i64 (chkS (nmI L (off + ((i : Nat) : Int).toNat * 5 - lo))), .bool false, v19, .int .i64 ((i + 1 : Nat))]) rfl (by simp only [List.all_cons, List.all_nil, List.length_cons, List.length_nil, h19]; rfl) (List.all_eq_true.1 rfl) rfl rfl, ?_⟩
        exact ⟨n - (i + 1), by omega, i + 1, .int .i64 (chkS (nmI L (off + ((i : Nat) : Int).toNat * 5 - lo))), .bool true, .pointer (some ⟨3, off + ((i : Nat) : Int).toNat * 5, none⟩), N.v (nmI L (off + ((i : Nat) : Int).toNat * 5 - lo)), fCk, N.v (nmI L (off + ((i : Nat) : Int).toNat * 5 - lo)), .int .i64 (chkS (nmI L (off + ((i : Nat) : Int).toNat * 5 - lo))), .int .i64 (chkS (nmI L (off + ((i : Nat) : Int).toNat * 5 - lo))), .bool false, v19, .int .i64 ((i + 1 : Nat)), by simp only [List.all_cons, List.all_nil, h19]; rfl, by omega, rfl, hc2, .inr ⟨(nmI L (off + ((i : Nat) : Int).toNat * 5 - lo)), rfl, rfl⟩⟩
  · have c1 : decide (((i : Nat) : Int) < (n : Int)) = false := decide_eq_false (by omega)
    have hz : (chkL (nmL L (off - lo) n)) = 0 := by rw [hc, show n - i = 0 by omega]; rfl
    rcases hs with ⟨rfl, rfl⟩ | ⟨z, rfl, rfl⟩
    · refine WpW.of_ev (sg1 M) hor (show 3 ≤ 4 by decide) (Ev.of_eq 60 (fun s k => (roundFE0 M s et ro lo off n c L i v7 v11 v12 v13 v14 v15 v16 v17 v18 v19 v20 k).trans (condF c1)) ?_)
      exact .inl ⟨rfl, hz, ⟨[], rfl⟩, _, _, _, _, _, _, _, _, _, _, _, _, _, _, _, _, _, _, _, _, _, rfl⟩
    · refine WpW.of_ev (sg1 M) hor (show 3 ≤ 4 by decide) (Ev.of_eq 60 (fun s k => (roundFE1 M s et ro lo off n c L i z v7 v11 v12 v13 v14 v15 v16 v17 v18 v19 v20 k).trans (condF c1)) ?_)
      exact .inl ⟨rfl, hz, ⟨[rb z], rfl⟩, _, _, _, _, _, _, _, _, _, _, _, _, _, _, _, _, _, _, _, _, _, rfl⟩
theorem atFE (M : Int) (et : TypeId) (ro : Bool) (lo off n c : Nat) (L : List Int) (h1 : insideI lo L off (n * 5) = true) (h2 : n ≤ 34359738368) :
    CallAt Tryz.prog (Sg1 M) 4 90 [slV off n c, fCk] [uni, pow, mxl M, kB et ro lo L] (.int .i64 (chkL (nmL L (off - lo) n))) [uni, pow, mxl M, kB et ro lo L] := by
  have hor := orcOk_of (LSum_ok M)
  refine CallAt.of_W bodyFE (show 3 ≤ 4 by decide) (Ext.refl _ _) rfl (List.all_eq_true.1 rfl) (List.all_eq_true.1 rfl) rfl ?_
  rw [tmpsFE]
  refine WpW.of_pieces ?_
  rw [show flatC (bodyOf Tryz.prog 90) = _ from LFE_eq]
  show WpL Tryz.prog (Sg1 M) 4 4 ([qFE 0, qFE 1] ++ [.block 0 (.loop BFE), qFE 3, qFE 4]) _ _ _
  refine WpL.run (sg1 M) hor (show 3 ≤ 4 by decide) (headFE M _ et ro lo off n c L _) ?_
  refine WpL.step (WpW.block ((loopFE M et ro lo off n c L h1 h2).mono ?_))
  rintro x T S (⟨rfl, hz, ⟨N, rfl⟩, a0, a1, a2, a3, a4, a5, a6, a7, a8, a9, a10, a11, a12, a13, a14, a15, a16, a17, a18, a19, a20, rfl⟩ | ⟨rfl, ⟨N, rfl⟩, a0, a1, a2, a3, a5, a6, a7, a8, a9, a10, a11, a12, a13, a14, a15, a16, a17, a18, a19, a20, rfl⟩)
  · simp only [if_true]
    refine WpL.stop (sg1 M) hor (show 3 ≤ 4 by decide) (tailFE M _ _ a0 a1 a2 a3 a4 a5 a6 a7 a8 a9 a10 a11 a12 a13 a14 a15 a16 a17 a18 a19 a20 _) ⟨trivial, ⟨N, rfl⟩, ?_⟩
    rw [hz]
    exact outFE _ _ _ _ _ _ _ _ _ _ _ _ _ _ _ _ _ _ _ _ _ _
  · exact ⟨trivial, ⟨N, rfl⟩, outFE _ _ _ _ _ _ _ _ _ _ _ _ _ _ _ _ _ _ _ _ _ _⟩
noncomputable def cFE : MCon := ⟨90, fun _ args S => match args with
  | [.slice (some ⟨b, off, none⟩) n _, .func (.func g) x y] => match S[b]? with
    | some ⟨[], _, _, some (.ints .i64 lo L)⟩ => some (.ite (Nat.beq g 62 && (x.toList.isEmpty && (y.toList.isEmpty && (Nat.ble 3 b && (insideI lo L off (n * 5) && Nat.ble n 34359738368))))) (.val (.int .i64 (chkL (nmL L (off - lo) n))) S) .no)
    | _ => none
  | _ => none⟩
theorem cFE_ok (M : Int) : MConOk M cFE := by
  intro fl args S t v S' ht hv h1 h2
  simp only [cFE] at ht
  split at ht
  · rename_i b off n c g x y
    split at ht
    · rename_i et ro lo L hb
      cases ht
      simp only [OTM.get] at hv
      cases hk : (Nat.beq g 62 && (x.toList.isEmpty && (y.toList.isEmpty && (Nat.ble 3 b && (insideI lo L off (n * 5) && Nat.ble n 34359738368))))) with
      | false => rw [hk] at hv; cases hv
      | true =>
        rw [hk] at hv
        simp only [cond_true, Option.some.injEq, Prod.mk.injEq] at hv
        obtain ⟨rfl, rfl⟩ := hv
        simp only [Bool.and_eq_true, Nat.beq_eq, Nat.ble_eq, List.isEmpty_iff, Array.toList_eq_nil_iff] at hk
        obtain ⟨rfl, rfl, rfl, g3, g4, g5⟩ := hk
        exact callAtR (sg1 M) (k1 := kB et ro lo L) (args0 := [slV off n c, fCk]) (v0 := .int .i64 (chkL (nmL L (off - lo) n))) (atFE M et ro lo off n c L g4 g5) hb g3 rfl rfl rfl
    · cases ht
  · cases ht
end Go.Proofs.YtihccnfaibiiiaaGreatDoor.R
/- Ring: the sum of a list of numbers, which lies in one block: the program's, piece by piece (made by mklst3.py). -/
namespace Go.Proofs.YtihccnfaibiiiaaGreatDoor.R
open Go Go.Proofs.XX.Vm Go.Proofs.XX.Rm Go.RowKit
set_option maxRecDepth 100000

noncomputable abbrev BTO : Code := loopOf Tryz.prog 65 0
noncomputable abbrev qTO (i : Nat) : Code := nthC (pcs Tryz.prog 65) i
theorem LTO_eq : pcs Tryz.prog 65 = [qTO 0, qTO 1, qTO 2, .block 0 (.loop BTO), qTO 4, qTO 5] := by kernel_rfl
theorem headTO {α : Type} (M : Int) (fs : Nat → Nat) (et : TypeId) (ro : Bool) (lo off n c : Nat) (L : List Int) (k : Kont α) :
    evP Tryz.prog (orcL LSum) (Sg1 M) 4 fs 0 [qTO 0, qTO 1, qTO 2] (slV off n c :: List.replicate 25 undef) [uni, pow, mxl M, kB et ro lo L] k = k .normal [slV off n c, undef, ptrN 4, .int .i64 (0), ptrN 5, undef, undef, undef, slV off n c, .int .i64 ((n : Int)), .int .i64 (0), undef, undef, undef, undef, undef, undef, undef, undef, undef, undef, undef, undef, undef, undef, undef] [uni, pow, mxl M, kB et ro lo L, rb O, rb O] := by kernel_rfl
theorem roundTO0 {α : Type} (M : Int) (m : Nat) (et : TypeId) (ro : Bool) (lo off n c : Nat) (L : List Int) (i : Int) (z : N) (v7 v11 v12 v13 v14 v15 v16 v17 v18 v19 v20 v21 v22 v23 v24 v25 : Value) (k : Kont α) :
    evCodeK Tryz.prog (orcL LSum) (Sg1 M) (m + 60) 4 BTO [slV off n c, undef, ptrN 4, .int .i64 (0), ptrN 5, undef, undef, v7, slV off n c, .int .i64 ((n : Int)), .int .i64 (i), v11, v12, v13, v14, v15, v16, v17, v18, v19, v20, v21, v22, v23, v24, v25] [uni, pow, mxl M, kB et ro lo L, rb O, rb z] k =
    bif decide (i < (n : Int)) then (bif decide (0 ≤ i) && decide (i < (n : Int)) then (bif insideI lo L (off + i.toNat * 5) 5 then (bif (twoS z (nmI L (off + i.toNat * 5 - lo)) (z.sum (nmI L (off + i.toNat * 5 - lo)))).2 != 0 then k .ret [slV off n c, undef, ptrN 4, .int .i64 ((twoS z (nmI L (off + i.toNat * 5 - lo)) (z.sum (nmI L (off + i.toNat * 5 - lo)))).2), ptrN 5, undef, ptrN 6, .int .i64 ((twoS z (nmI L (off + i.toNat * 5 - lo)) (z.sum (nmI L (off + i.toNat * 5 - lo)))).2), slV off n c, .int .i64 ((n : Int)), .int .i64 (i), .bool true, .pointer (some ⟨3, off + i.toNat * 5, none⟩), N.v (nmI L (off + i.toNat * 5 - lo)), resV (twoS z (nmI L (off + i.toNat * 5 - lo)) (z.sum (nmI L (off + i.toNat * 5 - lo)))), N.v z, N.v (nmI L (off + i.toNat * 5 - lo)), resV (twoS z (nmI L (off + i.toNat * 5 - lo)) (z.sum (nmI L (off + i.toNat * 5 - lo)))), N.v (twoS z (nmI L (off + i.toNat * 5 - lo)) (z.sum (nmI L (off + i.toNat * 5 - lo)))).1, .int .i64 ((twoS z (nmI L (off + i.toNat * 5 - lo)) (z.sum (nmI L (off + i.toNat * 5 - lo)))).2), .int .i64 ((twoS z (nmI L (off + i.toNat * 5 - lo)) (z.sum (nmI L (off + i.toNat * 5 - lo)))).2), .bool true, N.v O, .int .i64 ((twoS z (nmI L (off + i.toNat * 5 - lo)) (z.sum (nmI L (off + i.toNat * 5 - lo)))).2), v24, v25] [uni, pow, mxl M, kB et ro lo L, rb O, rb (twoS z (nmI L (off + i.toNat * 5 - lo)) (z.sum (nmI L (off + i.toNat * 5 - lo)))).1, rb (nmI L (off + i.toNat * 5 - lo))] else k .normal [slV off n c, undef, ptrN 4, .int .i64 (0), ptrN 5, undef, ptrN 6, .int .i64 ((twoS z (nmI L (off + i.toNat * 5 - lo)) (z.sum (nmI L (off + i.toNat * 5 - lo)))).2), slV off n c, .int .i64 ((n : Int)), .int .i64 (w (i + 1)), .bool true, .pointer (some ⟨3, off + i.toNat * 5, none⟩), N.v (nmI L (off + i.toNat * 5 - lo)), resV (twoS z (nmI L (off + i.toNat * 5 - lo)) (z.sum (nmI L (off + i.toNat * 5 - lo)))), N.v z, N.v (nmI L (off + i.toNat * 5 - lo)), resV (twoS z (nmI L (off + i.toNat * 5 - lo)) (z.sum (nmI L (off + i.toNat * 5 - lo)))), N.v (twoS z (nmI L (off + i.toNat * 5 - lo)) (z.sum (nmI L (off + i.toNat * 5 - lo)))).1, .int .i64 ((twoS z (nmI L (off + i.toNat * 5 - lo)) (z.sum (nmI L (off + i.toNat * 5 - lo)))).2), .int .i64 ((twoS z (nmI L (off + i.toNat * 5 - lo)) (z.sum (nmI L (off + i.toNat * 5 - lo)))).2), .bool false, v22, v23, .int .i64 (w (i + 1)), v25] [uni, pow, mxl M, kB et ro lo L, rb O, rb (twoS z (nmI L (off + i.toNat * 5 - lo)) (z.sum (nmI L (off + i.toNat * 5 - lo)))).1, rb (nmI L (off + i.toNat * 5 - lo))]) else none) else none) else k (.exit 0) [slV off n c, undef, ptrN 4, .int .i64 (0), ptrN 5, undef, undef, v7, slV off n c, .int .i64 ((n : Int)), .int .i64 (i), .bool false, v12, v13, v14, v15, v16, v17, v18, v19, v20, v21, v22, v23, v24, v25] [uni, pow, mxl M, kB et ro lo L, rb O, rb z] := by kernel_rfl
theorem roundTO1 {α : Type} (M : Int) (m : Nat) (et : TypeId) (ro : Bool) (lo off n c : Nat) (L : List Int) (i : Int) (z y : N) (v7 v11 v12 v13 v14 v15 v16 v17 v18 v19 v20 v21 v22 v23 v24 v25 : Value) (k : Kont α) :
    evCodeK Tryz.prog (orcL LSum) (Sg1 M) (m + 60) 4 BTO [slV off n c, undef, ptrN 4, .int .i64 (0), ptrN 5, undef, ptrN 6, v7, slV off n c, .int .i64 ((n : Int)), .int .i64 (i), v11, v12, v13, v14, v15, v16, v17, v18, v19, v20, v21, v22, v23, v24, v25] [uni, pow, mxl M, kB et ro lo L, rb O, rb z, rb y] k =
    bif decide (i < (n : Int)) then (bif decide (0 ≤ i) && decide (i < (n : Int)) then (bif insideI lo L (off + i.toNat * 5) 5 then (bif (twoS z (nmI L (off + i.toNat * 5 - lo)) (z.sum (nmI L (off + i.toNat * 5 - lo)))).2 != 0 then k .ret [slV off n c, undef, ptrN 4, .int .i64 ((twoS z (nmI L (off + i.toNat * 5 - lo)) (z.sum (nmI L (off + i.toNat * 5 - lo)))).2), ptrN 5, undef, ptrN 7, .int .i64 ((twoS z (nmI L (off + i.toNat * 5 - lo)) (z.sum (nmI L (off + i.toNat * 5 - lo)))).2), slV off n c, .int .i64 ((n : Int)), .int .i64 (i), .bool true, .pointer (some ⟨3, off + i.toNat * 5, none⟩), N.v (nmI L (off + i.toNat * 5 - lo)), resV (twoS z (nmI L (off + i.toNat * 5 - lo)) (z.sum (nmI L (off + i.toNat * 5 - lo)))), N.v z, N.v (nmI L (off + i.toNat * 5 - lo)), resV (twoS z (nmI L (off + i.toNat * 5 - lo)) (z.sum (nmI L (off + i.toNat * 5 - lo)))), N.v (twoS z (nmI L (off + i.toNat * 5 - lo)) (z.sum (nmI L (off + i.toNat * 5 - lo)))).1, .int .i64 ((twoS z (nmI L (off + i.toNat * 5 - lo)) (z.sum (nmI L (off + i.toNat * 5 - lo)))).2), .int .i64 ((twoS z (nmI L (off + i.toNat * 5 - lo)) (z.sum (nmI L (off + i.toNat * 5 - lo)))).2), .bool true, N.v O, .int .i64 ((twoS z (nmI L (off + i.toNat * 5 - lo)) (z.sum (nmI L (off + i.toNat * 5 - lo)))).2), v24, v25] [uni, pow, mxl M, kB et ro lo L, rb O, rb (twoS z (nmI L (off + i.toNat * 5 - lo)) (z.sum (nmI L (off + i.toNat * 5 - lo)))).1, rb y, rb (nmI L (off + i.toNat * 5 - lo))] else k .normal [slV off n c, undef, ptrN 4, .int .i64 (0), ptrN 5, undef, ptrN 7, .int .i64 ((twoS z (nmI L (off + i.toNat * 5 - lo)) (z.sum (nmI L (off + i.toNat * 5 - lo)))).2), slV off n c, .int .i64 ((n : Int)), .int .i64 (w (i + 1)), .bool true, .pointer (some ⟨3, off + i.toNat * 5, none⟩), N.v (nmI L (off + i.toNat * 5 - lo)), resV (twoS z (nmI L (off + i.toNat * 5 - lo)) (z.sum (nmI L (off + i.toNat * 5 - lo)))), N.v z, N.v (nmI L (off + i.toNat * 5 - lo)), resV (twoS z (nmI L (off + i.toNat * 5 - lo)) (z.sum (nmI L (off + i.toNat * 5 - lo)))), N.v (twoS z (nmI L (off + i.toNat * 5 - lo)) (z.sum (nmI L (off + i.toNat * 5 - lo)))).1, .int .i64 ((twoS z (nmI L (off + i.toNat * 5 - lo)) (z.sum (nmI L (off + i.toNat * 5 - lo)))).2), .int .i64 ((twoS z (nmI L (off + i.toNat * 5 - lo)) (z.sum (nmI L (off + i.toNat * 5 - lo)))).2), .bool false, v22, v23, .int .i64 (w (i + 1)), v25] [uni, pow, mxl M, kB et ro lo L, rb O, rb (twoS z (nmI L (off + i.toNat * 5 - lo)) (z.sum (nmI L (off + i.toNat * 5 - lo)))).1, rb y, rb (nmI L (off + i.toNat * 5 - lo))]) else none) else none) else k (.exit 0) [slV off n c, undef, ptrN 4, .int .i64 (0), ptrN 5, undef, ptrN 6, v7, slV off n c, .int .i64 ((n : Int)), .int .i64 (i), .bool false, v12, v13, v14, v15, v16, v17, v18, v19, v20, v21, v22, v23, v24, v25] [uni, pow, mxl M, kB et ro lo L, rb O, rb z, rb y] := by kernel_rfl
theorem tailTO0 {α : Type} (M : Int) (fs : Nat → Nat) (et : TypeId) (ro : Bool) (lo : Nat) (L : List Int) (z : N) (a0 a1 a3 a5 a6 a7 a8 a9 a10 a11 a12 a13 a14 a15 a16 a17 a18 a19 a20 a21 a22 a23 a24 a25 : Value) (k : Kont α) :
    evP Tryz.prog (orcL LSum) (Sg1 M) 4 fs 4 [qTO 4, qTO 5] [a0, a1, ptrN 4, a3, ptrN 5, a5, a6, a7, a8, a9, a10, a11, a12, a13, a14, a15, a16, a17, a18, a19, a20, a21, a22, a23, a24, a25] (uni :: pow :: mxl M :: kB et ro lo L :: rb O :: rb z :: []) k = k .ret [a0, a1, ptrN 4, .int .i64 (0), ptrN 5, a5, a6, a7, a8, a9, a10, a11, a12, a13, a14, a15, a16, a17, a18, a19, a20, a21, a22, a23, a24, N.v z] (uni :: pow :: mxl M :: kB et ro lo L :: rb z :: rb z :: []) := by kernel_rfl
theorem tailTO1 {α : Type} (M : Int) (fs : Nat → Nat) (et : TypeId) (ro : Bool) (lo : Nat) (L : List Int) (z y : N) (a0 a1 a3 a5 a6 a7 a8 a9 a10 a11 a12 a13 a14 a15 a16 a17 a18 a19 a20 a21 a22 a23 a24 a25 : Value) (k : Kont α) :
    evP Tryz.prog (orcL LSum) (Sg1 M) 4 fs 4 [qTO 4, qTO 5] [a0, a1, ptrN 4, a3, ptrN 5, a5, a6, a7, a8, a9, a10, a11, a12, a13, a14, a15, a16, a17, a18, a19, a20, a21, a22, a23, a24, a25] (uni :: pow :: mxl M :: kB et ro lo L :: rb O :: rb z :: [rb y]) k = k .ret [a0, a1, ptrN 4, .int .i64 (0), ptrN 5, a5, a6, a7, a8, a9, a10, a11, a12, a13, a14, a15, a16, a17, a18, a19, a20, a21, a22, a23, a24, N.v z] (uni :: pow :: mxl M :: kB et ro lo L :: rb z :: rb z :: [rb y]) := by kernel_rfl
theorem outTO (e : Int) (y : N) (b0 b1 b2 b3 : Blk) (R : List Blk) (a0 a1 a4 a5 a6 a7 a8 a9 a10 a11 a12 a13 a14 a15 a16 a17 a18 a19 a20 a21 a22 a23 a24 a25 : Value) : outOf Tryz.prog 65 [a0, a1, ptrN 4, .int .i64 e, a4, a5, a6, a7, a8, a9, a10, a11, a12, a13, a14, a15, a16, a17, a18, a19, a20, a21, a22, a23, a24, a25] (b0 :: b1 :: b2 :: b3 :: rb y :: R) = some (resV (y, e)) := by kernel_rfl
theorem tmpsTO (a : Value) : tmps0Of Tryz.prog 65 [a] = a :: List.replicate 25 undef := by kernel_rfl
end Go.Proofs.YtihccnfaibiiiaaGreatDoor.R
