/- Ring: the sum of a list of two numbers. -/
import Derived.Test.YtihccnfaibiiiaaDoorN0
import Derived.Test.YtihccnfaibiiiaaDoorW4
import Derived.Test.YtihccnfaibiiiaaDoorS4
namespace Go.Proofs.YtihccnfaibiiiaaDoor.R
open Go Go.Proofs.XX.Vm Go.Proofs.XX.Rm Go.RowKit
set_option maxRecDepth 100000

def slB (r m : N) : Blk := ⟨[.int .i64 r.a, .int .i64 r.b, .int .i64 r.c, .int .i64 r.d, .int .i64 r.k, .int .i64 m.a, .int .i64 m.b, .int .i64 m.c, .int .i64 m.d, .int .i64 m.k], 23, false, none⟩
def nuT : TypeId := 23
def two (cp : Nat) : Value := .slice (some ⟨3, 0, none⟩) 2 cp
def chk2 (r m : N) : Int := bif chkS r != 0 then chkS r else chkS m
def sum2S (r m : N) : N × Int := bif chk2 r m != 0 then (O, chk2 r m) else bif (twoS O r (O.sum r)).2 != 0 then (O, (twoS O r (O.sum r)).2) else bif (twoS (twoS O r (O.sum r)).1 m ((twoS O r (O.sum r)).1.sum m)).2 != 0 then (O, (twoS (twoS O r (O.sum r)).1 m ((twoS O r (O.sum r)).1.sum m)).2) else ((twoS (twoS O r (O.sum r)).1 m ((twoS O r (O.sum r)).1.sum m)).1, 0)
theorem tChk2 (M : Int) (m cp : Nat) (r s : N) :
    callInK Tryd.prog (evCodeK Tryd.prog (orcL LSum) (Sg1 M) (m + 80)) 3 69 [two cp] [uni, pow, mxl M, slB r s] (fun u U => some (u, U.take 4)) =
    bif chkS r != 0 then some (.int .i64 (chkS r), [uni, pow, mxl M, slB r s]) else bif chkS s != 0 then some (.int .i64 (chkS s), [uni, pow, mxl M, slB r s]) else some (.int .i64 0, [uni, pow, mxl M, slB r s]) := by kernel_rfl
def sl10 (S : List Blk) (fl b n : Nat) : Option (Bool × N × N) := match S[b]? with
  | some ⟨[.int .i64 a, .int .i64 b1, .int .i64 c, .int .i64 d, .int .i64 k, .int .i64 e, .int .i64 f, .int .i64 g, .int .i64 h, .int .i64 i], t, false, none⟩ => some (Nat.beq t nuT && (Nat.beq n 2 && (Nat.ble fl b && Nat.ble 3 b)), ⟨a, b1, c, d, k⟩, ⟨e, f, g, h, i⟩)
  | _ => none
theorem sl10_spec {S : List Blk} {fl b n : Nat} {r m : N} (h : sl10 S fl b n = some (true, r, m)) : S[b]? = some (slB r m) ∧ n = 2 ∧ fl ≤ b ∧ 3 ≤ b := by
  unfold sl10 at h
  split at h
  · rename_i hb
    simp only [Option.some.injEq, Prod.mk.injEq, Bool.and_eq_true, Nat.beq_eq, Nat.ble_eq] at h
    obtain ⟨⟨rfl, rfl, h1, h2⟩, rfl, rfl⟩ := h
    exact ⟨hb, rfl, h1, h2⟩
  · cases h
/-- A contract of calls with a slice of two numbers. -/
def mcon2 (f : FuncId) (g : N → N → Value) : MCon := ⟨f, fun fl args S => match args with
  | [.slice (some ⟨b, 0, none⟩) n _] => match sl10 S fl b n with
    | some (t, r, m) => some (.ite t (.val (g r m) S) .no)
    | none => none
  | _ => none⟩
theorem sig_1 (b n : Nat) : sig1 3 b n 3 = b := rfl
theorem mcon2_ok {M : Int} {f : FuncId} {g : N → N → Value} {l : List Con} {ml : List MCon} (hl : ∀ c ∈ l, ConOk M c) (hm : ∀ c ∈ ml, MConOk M c) (hg : ∀ r m, plain (g r m) = true)
    (h : ∀ (cp : Nat) (r s : N), ∃ m, callInK Tryd.prog (evCodeK Tryd.prog (orcLM l ml) (Sg1 M) m) 3 f [two cp] [uni, pow, mxl M, slB r s] (fun u U => some (u, U.take 4)) = some (g r s, [uni, pow, mxl M, slB r s])) : MConOk M (mcon2 f g) := by
  intro fl args S t v S' ht hv h1 h2
  simp only [mcon2] at ht
  split at ht
  · rename_i b n cp
    split at ht
    · rename_i c r s hc
      cases ht
      cases c with
      | false => cases hv
      | true =>
        simp only [OTM.get, cond_true, Option.some.injEq, Prod.mk.injEq] at hv
        obtain ⟨rfl, rfl⟩ := hv
        obtain ⟨e1, rfl, e2, e3⟩ := sl10_spec hc
        obtain ⟨m, e⟩ := h cp r s
        obtain ⟨N, hN⟩ := callInK_take (P := Tryd.prog) (S := [uni, pow, mxl M, slB r s]) (sg1 M) (orcLM_ok hl hm) e (Nat.le_refl 3) (show 3 ≤ 4 by decide)
        have pl : ∀ n, sh3 n (g r s) = true := fun n => plain_sh (hg r s) n
        have hd := callAt_drop (S' := [uni, pow, mxl M, slB r s]) hN rfl rfl (pl _) (all_at rfl) (all_at rfl)
        have := callAt1 (k1 := slB r s) (k1' := slB r s) (sg1 M) (fl := fl) (b := b) (S := S) hd e1 e3 e2 rfl (pl _) rfl rfl
        rw [ren3_plain (hg r s)] at this
        have hset : S.set b (renB (sig1 (Sg1 M).length b S.length) (slB r s)) = S := by
          refine List.ext_getElem? fun i => ?_
          by_cases hi : b = i
          · subst hi
            rw [List.getElem?_set_self (List.getElem?_eq_some_iff.1 e1).1, e1]; rfl
          · rw [List.getElem?_set_ne hi]
        rw [hset] at this
        exact this
    · cases ht
  · cases ht
def cChk2 : MCon := mcon2 69 fun r m => .int .i64 (chk2 r m)
theorem cChk2_ok (M : Int) : MConOk M cChk2 := mcon2_ok (LSum_ok M) nil_mok (fun _ _ => rfl) fun cp r s => ⟨80, by
  have e := tChk2 M 0 cp r s
  refine Eq.trans ?_ (e.trans ?_)
  · rfl
  · unfold chk2
    cases h : chkS r != 0 with
    | true => rfl
    | false =>
      cases h2 : chkS s != 0 with
      | true => rfl
      | false => simp only [cond_false]; rw [show chkS s = 0 by simpa using h2]⟩
theorem tSum2 (M : Int) (m cp : Nat) (r s : N) :
    callInK Tryd.prog (evCodeK Tryd.prog (orcLM LSum [cChk2]) (Sg1 M) (m + 80)) 3 30 [two cp] [uni, pow, mxl M, slB r s] (fun u U => some (u, U.take 4)) =
    bif chk2 r s != 0 then some (resV (O, chk2 r s), [uni, pow, mxl M, slB r s]) else bif (twoS O r (O.sum r)).2 != 0 then some (resV (O, (twoS O r (O.sum r)).2), [uni, pow, mxl M, slB r s]) else bif (twoS (twoS O r (O.sum r)).1 s ((twoS O r (O.sum r)).1.sum s)).2 != 0 then some (resV (O, (twoS (twoS O r (O.sum r)).1 s ((twoS O r (O.sum r)).1.sum s)).2), [uni, pow, mxl M, slB r s]) else some (resV ((twoS (twoS O r (O.sum r)).1 s ((twoS O r (O.sum r)).1.sum s)).1, 0), [uni, pow, mxl M, slB r s]) := by kernel_rfl
def cSum2 : MCon := mcon2 30 fun r m => resV (sum2S r m)
theorem cSum2_ok (M : Int) : MConOk M cSum2 := mcon2_ok (LSum_ok M) (mem_cons_mok (cChk2_ok M) nil_mok) (fun _ _ => rfl) fun cp r s => ⟨80, by
  refine (tSum2 M 0 cp r s).trans ?_
  unfold sum2S
  cases chk2 r s != 0 <;> cases (twoS O r (O.sum r)).2 != 0 <;> cases (twoS (twoS O r (O.sum r)).1 s ((twoS O r (O.sum r)).1.sum s)).2 != 0 <;> rfl⟩
end Go.Proofs.YtihccnfaibiiiaaDoor.R
