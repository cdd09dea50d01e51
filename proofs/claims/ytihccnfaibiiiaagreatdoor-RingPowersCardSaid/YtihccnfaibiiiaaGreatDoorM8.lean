/- Ring: powers of a number: the program's Power, by induction over its closure. -/
import Derived.Test.YtihccnfaibiiiaaGreatDoorW6
import Derived.Test.YtihccnfaibiiiaaGreatDoorM0
import Derived.Test.YtihccnfaibiiiaaGreatDoorO1
namespace Go.Proofs.YtihccnfaibiiiaaGreatDoor.R
open Go Go.Proofs.XX.Vm Go.Proofs.XX.Rm Go.RowKit
set_option maxRecDepth 100000

def one1 : N := ⟨1, 0, 0, 0, 0⟩
/-- x^n: the first error of a power before it, or its own. -/
def powS (x : N) : Nat → N × Int
  | 0 => (one1, 0)
  | n + 1 => bif (powS x n).2 != 0 then (O, (powS x n).2) else twoS (powS x n).1 x ((powS x n).1.mul x)
theorem one_mul (x : N) : one1.mul x = x := by
  ext <;> simp only [N.mul, one1] <;> omega
theorem powS_one (x : N) : powS x 1 = leaS x := by
  show twoS one1 x (one1.mul x) = leaS x
  rw [one_mul]
  unfold twoS leaS
  rw [bif3_ok (show okB one1 = true by decide)]
  cases hx : okB x with
  | true =>
    rw [bif3_ok hx, bif3_ok hx]
    unfold fitS
    rw [okB_nf hx]
    rfl
  | false =>
    unfold okB at hx
    unfold bif3
    cases h1 : rgB x with
    | false => rfl
    | true =>
      cases h2 : inB x with
      | false => rfl
      | true => rw [h1, h2] at hx; cases hx
def clF (bx bp : Nat) : Value := .func (.func 63) #[] #[.pointer (some ⟨bx, 0, none⟩), .pointer (some ⟨bp, 0, none⟩)]
def clB (bx bp : Nat) : Blk := ⟨[clF bx bp], 32, false, none⟩
def clT : TypeId := 32
def nuT2 : TypeId := 23
/-- A closure's cell that is Power's own. -/
def isCl (bx bp : Nat) : List Value → Bool
  | [.func (.func g) x c] => Nat.beq g 63 && (x.toList.isEmpty && (match c.toList with
    | [.pointer (some ⟨b1, 0, none⟩), .pointer (some ⟨b2, 0, none⟩)] => Nat.beq b1 bx && Nat.beq b2 bp
    | _ => false))
  | _ => false
theorem isCl_eq {bx bp : Nat} {l : List Value} (h : isCl bx bp l = true) : l = [clF bx bp] := by
  unfold isCl at h
  split at h
  · rename_i g x c
    simp only [Bool.and_eq_true, Nat.beq_eq, List.isEmpty_iff, Array.toList_eq_nil_iff] at h
    obtain ⟨rfl, rfl, h⟩ := h
    split at h
    · rename_i b1 b2 hc
      simp only [Bool.and_eq_true, Nat.beq_eq] at h
      obtain ⟨rfl, rfl⟩ := h
      have : c = #[.pointer (some ⟨b1, 0, none⟩), .pointer (some ⟨b2, 0, none⟩)] := by
        apply Array.toList_inj.1
        exact hc
      rw [this]; rfl
    · cases h
  · cases h
/-- The closure's calls, up to a number. -/
noncomputable def cPw (m : Nat) : MCon := ⟨63, fun _ args S => match args with
  | [.int .i64 n, .pointer (some ⟨bx, 0, none⟩), .pointer (some ⟨bp, 0, none⟩)] => match S[bx]? with
    | some ⟨[.int .i64 a, .int .i64 b, .int .i64 c, .int .i64 d, .int .i64 k], t, false, none⟩ => match S[bp]? with
      | some ⟨l, t2, false, none⟩ => some (.ite (decide (1 ≤ n) && (decide (n ≤ (m : Int)) && (decide (n ≤ 100) && (Nat.beq t nuT2 && (Nat.beq t2 clT && (Nat.ble 3 bx && (Nat.ble 3 bp && (isCl bx bp l && !Nat.beq bx bp))))))))
          (.val (resV (powS ⟨a, b, c, d, k⟩ n.toNat)) S) .no)
      | _ => none
    | _ => none
  | _ => none⟩
noncomputable abbrev LPw : List Con := [con1 54 fun x => .val (resV (leaS x)), con2 13 fun x y => .val (resV (twoS x y (x.mul y)))]
theorem LPw_ok (M : Int) : ∀ c ∈ LPw, ConOk M c := mem_cons_ok (con1_val (cLea_ok M) leaS_get) (mem_cons_ok (con2_val (cMul_ok M) fun x y => twoS_get x y _) nil_ok)
def ptN (b : Nat) : Value := .pointer (some ⟨b, 0, none⟩)
def tsP (m : Nat) (n : Int) : Bool := decide (1 ≤ w (n - 1)) && (decide (w (n - 1) ≤ (m : Int)) && (decide (w (n - 1) ≤ 100) && true))
theorem tPw (M : Int) (s m : Nat) (n : Int) (x : N) :
    callInK Tryz.prog (evCodeK Tryz.prog (orcLM LPw [cPw m]) (Sg1 M) (s + 80)) 5 63 [.int .i64 n, ptN 3, ptN 4] [uni, pow, mxl M, rb x, clB 3 4] (fun u U => some (u, U.take 5)) =
    bif n == 1 then some (resV (leaS x), [uni, pow, mxl M, rb x, clB 3 4]) else (bif tsP m n then
      (bif (powS x (w (n - 1)).toNat).2 != 0 then some (resV (O, (powS x (w (n - 1)).toNat).2), [uni, pow, mxl M, rb x, clB 3 4])
        else some (resV (twoS (powS x (w (n - 1)).toNat).1 x ((powS x (w (n - 1)).toNat).1.mul x)), [uni, pow, mxl M, rb x, clB 3 4])) else none) := by kernel_rfl
theorem atPw (M : Int) (m : Nat) (ih : MConOk M (cPw m)) (n : Int) (x : N) (h1 : 1 ≤ n) (h2 : n ≤ (m : Int) + 1) (h3 : n ≤ 100) :
    CallAt Tryz.prog (Sg1 M) 5 63 [.int .i64 n, ptN 3, ptN 4] (Sg1 M ++ [rb x, clB 3 4]) (resV (powS x n.toNat)) (Sg1 M ++ [rb x, clB 3 4]) := by
  have e := tPw M 0 m n x
  have e2 : callInK Tryz.prog (evCodeK Tryz.prog (orcLM LPw [cPw m]) (Sg1 M) (0 + 80)) 5 63 [.int .i64 n, ptN 3, ptN 4] [uni, pow, mxl M, rb x, clB 3 4] (fun u U => some (u, U.take 5)) = some (resV (powS x n.toNat), [uni, pow, mxl M, rb x, clB 3 4]) := by
    refine e.trans ?_
    by_cases h : n = 1
    · subst h
      rw [show ((1 : Int) == 1) = true from rfl, cond_true, show (1 : Int).toNat = 1 from rfl, powS_one]
    · rw [show (n == 1) = false by simpa using h, cond_false]
      have hw : w (n - 1) = n - 1 := w_eq _ (by omega) (by omega)
      have ht : tsP m n = true := by
        unfold tsP
        rw [hw, decide_eq_true (show 1 ≤ n - 1 by omega), decide_eq_true (show n - 1 ≤ (m : Int) by omega), decide_eq_true (show n - 1 ≤ 100 by omega)]
        rfl
      rw [ht, cond_true, hw, show n.toNat = (n - 1).toNat + 1 by omega, powS]
      cases (powS x (n - 1).toNat).2 != 0 <;> rfl
  obtain ⟨N, hN⟩ := callInK_take (P := Tryz.prog) (S := [uni, pow, mxl M, rb x, clB 3 4]) (sg1 M) (orcLM_ok (LPw_ok M) (mem_cons_mok ih nil_mok)) e2 (show 3 ≤ 5 by decide) (show 3 ≤ 5 by decide)
  exact callAt_drop (S' := [uni, pow, mxl M, rb x, clB 3 4]) hN rfl rfl (plain_sh rfl _) (all_at rfl) (all_at rfl)
theorem cPw_ok (M : Int) : ∀ m, MConOk M (cPw m) := by
  intro m
  induction m with
  | zero =>
    intro fl args S t v S' ht hv h1 h2
    simp only [cPw] at ht
    split at ht
    · rename_i n bx bp
      split at ht
      · split at ht
        · cases ht
          simp only [OTM.get] at hv
          rcases bif_some hv with ⟨hk, _⟩ | ⟨_, hv⟩
          · simp only [Bool.and_eq_true, decide_eq_true_eq] at hk
            omega
          · cases hv
        · cases ht
      · cases ht
    · cases ht
  | succ m ih =>
    intro fl args S t v S' ht hv h1 h2
    simp only [cPw] at ht
    split at ht
    · rename_i n bx bp
      split at ht
      · rename_i a b c d k ty hx
        split at ht
        · rename_i l ty2 hp
          cases ht
          simp only [OTM.get] at hv
          cases hk : (decide (1 ≤ n) && (decide (n ≤ ((m + 1 : Nat) : Int)) && (decide (n ≤ 100) && (Nat.beq ty nuT2 && (Nat.beq ty2 clT && (Nat.ble 3 bx && (Nat.ble 3 bp && (isCl bx bp l && !Nat.beq bx bp)))))))) with
          | false => rw [hk] at hv; cases hv
          | true =>
            rw [hk] at hv
            simp only [cond_true, Option.some.injEq, Prod.mk.injEq] at hv
            obtain ⟨rfl, rfl⟩ := hv
            simp only [Bool.and_eq_true, decide_eq_true_eq, Nat.beq_eq, Nat.ble_eq, Bool.not_eq_true'] at hk
            obtain ⟨k1, k2, k3, rfl, rfl, k6, k7, k8, k9⟩ := hk
            have hl := isCl_eq k8
            subst hl
            have hne : bx ≠ bp := fun e => by rw [e, Nat.beq_refl] at k9; cases k9
            have := callAtRn (sg1 M) (fl := fl) (S := S) (K := [rb ⟨a, b, c, d, k⟩, clB 3 4]) (bs := [bx, bp]) h2 (atPw M m ih n ⟨a, b, c, d, k⟩ k1 (by omega) k3) rfl (fun i b k hb hk => ?_) (fun b hb => ?_) (by simp [hne]) rfl (plain_sh rfl _) (List.all_eq_true.1 rfl)
            · rw [ren3_plain (show plain (resV _) = true from rfl)] at this
              exact this
            · match i with
              | 0 => cases hb; cases hk; exact hx
              | 1 => cases hb; cases hk; exact hp
              | i + 2 => cases hb
            · simp only [List.mem_cons, List.not_mem_nil, or_false] at hb
              rcases hb with rfl | rfl
              · exact k6
              · exact k7
        · cases ht
      · cases ht
    · cases ht
end Go.Proofs.YtihccnfaibiiiaaGreatDoor.R
