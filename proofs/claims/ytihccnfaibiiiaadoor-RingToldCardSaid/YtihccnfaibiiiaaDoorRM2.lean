/- Ring, plain mathematics: no sum leaves 64 bits. -/
import Derived.Test.YtihccnfaibiiiaaDoorRM1
namespace Go.Proofs.XX.Rm
open Go

structure N.In (M : Int) (x : N) : Prop where
  a1 : -M ≤ x.a
  a2 : x.a ≤ M
  b1 : -M ≤ x.b
  b2 : x.b ≤ M
  c1 : -M ≤ x.c
  c2 : x.c ≤ M
  d1 : -M ≤ x.d
  d2 : x.d ≤ M
theorem N.In.mono {M L : Int} {x : N} (h : x.In M) (hl : M ≤ L) : x.In L := by
  obtain ⟨h1, h2, h3, h4, h5, h6, h7, h8⟩ := h
  constructor <;> omega
theorem N.In.up {M : Int} {x : N} (h : x.In M) : x.up.In (2 * M) := by
  obtain ⟨h1, h2, h3, h4, h5, h6, h7, h8⟩ := h
  constructor <;> simp only [N.up] <;> omega
theorem N.In.up2 {M : Int} {x : N} (h : x.In M) : x.up.up.In (2 * M) := by
  obtain ⟨h1, h2, h3, h4, h5, h6, h7, h8⟩ := h
  constructor <;> simp only [N.up] <;> omega
theorem N.In.dn {M : Int} {x : N} (h : x.up.In (2 * M)) : x.dn.In M := by
  obtain ⟨h1, h2, h3, h4, h5, h6, h7, h8⟩ := h
  simp only [N.up] at *
  constructor <;> simp only [N.dn] <;> omega
/-- The greatest coefficient never becomes greater when it is halved. -/
theorem N.In.dn' {M : Int} {x : N} (h : x.In M) : x.dn.In M := N.In.dn h.up
theorem N.In.nfL {M : Int} {x : N} (h : x.In M) : ∀ n, (x.nfL n).In M := by
  intro n
  induction n generalizing x with
  | zero => exact h
  | succ n ih =>
    simp only [N.nfL]
    cases x.goes
    · exact h
    · exact ih h.dn'
theorem N.In.zero {M : Int} (h : 0 ≤ M) : O.In M := by constructor <;> simp only [O] <;> omega
theorem N.In.nf {M : Int} {x : N} (h : x.In M) : x.nf.In M := by
  unfold N.nf
  cases x.zero
  · exact h.nfL _
  · exact N.In.zero (by obtain ⟨h1, h2, _⟩ := h; omega)
theorem N.In.ups2 {M : Int} {x : N} (h : x.In M) : ∀ j : Nat, (x.ups (2 * j)).In (2 ^ j * M) ∧ (x.ups (2 * j + 1)).In (2 ^ (j + 1) * M)
  | 0 => ⟨by simpa [N.ups] using h, by simpa [N.ups] using h.up⟩
  | j + 1 => by
    obtain ⟨h1, h2⟩ := N.In.ups2 h j
    have e1 : (2 : Int) ^ (j + 1) * M = 2 * (2 ^ j * M) := by rw [Int.pow_succ]; simp only [Int.mul_comm, Int.mul_left_comm]
    have e2 : (2 : Int) ^ (j + 1 + 1) * M = 2 * (2 ^ (j + 1) * M) := by rw [Int.pow_succ]; simp only [Int.mul_comm, Int.mul_left_comm]
    constructor
    · rw [e1, show 2 * (j + 1) = 2 * j + 1 + 1 by omega]; exact h1.up2
    · rw [e2, show 2 * (j + 1) + 1 = 2 * j + 1 + 1 + 1 by omega]; exact h2.up2
/-- Raised by at most 60. -/
theorem N.In.ups60 {x : N} (h : x.In (2 ^ 30)) {n : Nat} (hn : n ≤ 60) : (x.ups n).In (2 ^ 60) := by
  have key : ∀ j : Nat, j ≤ 30 → (2 : Int) ^ j * 2 ^ 30 ≤ 2 ^ 60 := by
    intro j hj
    have h0 := Nat.pow_le_pow_right (n := 2) (by omega) hj
    have h2 : ((2 ^ j : Nat) : Int) ≤ ((2 ^ 30 : Nat) : Int) := Int.ofNat_le.2 h0
    rw [Int.natCast_pow] at h2
    have h1 : (2 : Int) ^ j ≤ 1073741824 := by simpa using h2
    omega
  obtain ⟨j, hj⟩ : ∃ j, n = 2 * j ∨ n = 2 * j + 1 := ⟨n / 2, by omega⟩
  rcases hj with rfl | rfl
  · exact (N.In.ups2 h j).1.mono (key j (by omega))
  · exact (N.In.ups2 h j).2.mono (key (j + 1) (by omega))

/-- Nothing is too large for the halves. -/
def N.Fit (x : N) : Prop := x.In (2 ^ 62) ∧ x.up.In (2 ^ 62)
theorem N.Fit.of_in {x : N} (h : x.In (2 ^ 61)) : x.Fit := ⟨h.mono (by omega), h.up.mono (by omega)⟩
theorem N.Fit.dn {x : N} (h : x.Fit) (he : x.even = true) : x.dn.Fit :=
  ⟨(N.In.dn (M := 2 ^ 61) (h.2.mono (by omega))).mono (by omega), by rw [N.up_dn he]; exact h.1⟩
end Go.Proofs.XX.Rm
