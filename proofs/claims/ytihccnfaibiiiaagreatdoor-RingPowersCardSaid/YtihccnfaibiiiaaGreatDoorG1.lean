/- Ring: real numbers: the specification. -/
import Derived.Test.YtihccnfaibiiiaaGreatDoorE2
import Derived.Test.YtihccnfaibiiiaaGreatDoorH1
namespace Go.Proofs.YtihccnfaibiiiaaGreatDoor.R
open Go Go.Proofs.XX.Vm Go.Proofs.XX.Rm Go.RowKit
set_option maxRecDepth 100000

def cEqu : Con := con2 68 fun x y => okV2 x y (.val (.bool (eqN x.nf y.nf)))
theorem tEqu (M : Int) (m : Nat) (x y : N) : runK Tryz.prog (orcL [cFrm]) (Sg1 M) (m + 60) 68 [N.v x, N.v y] =
    bif symN x then (bif symN y then some (.bool (eqN x.nf y.nf)) else none) else none := by kernel_rfl
theorem cEqu_ok (M : Int) : ConOk M cEqu := con2_ok (mem_cons_ok (cFrm_ok M) nil_ok) fun x y v h => by
  obtain ⟨h0, h⟩ := OT.pre h
  cases h
  obtain ⟨h1, h2⟩ := okB2_iff h0
  refine EvF.of_eq 60 fun m => ?_
  rw [tEqu, symN_of h1, symN_of h2]; rfl
def cCjR : Con := con1 58 fun x => .val (N.v (conjW x))
theorem tCjR (M : Int) (m : Nat) (x : N) : runK Tryz.prog (orcL []) (Sg1 M) (m + 60) 58 [N.v x] = some (N.v (conjW x)) := by kernel_rfl
theorem cCjR_ok (M : Int) : ConOk M cCjR := con1_ok nil_ok fun x v h => by cases h; exact EvF.of_eq 60 fun m => tCjR M m x
abbrev LK1 : List Con := [cChkR, cEqu, cCjR]
theorem LK1_ok (M : Int) : ∀ c ∈ LK1, ConOk M c := mem_cons_ok (cChkR_ok M) (mem_cons_ok (cEqu_ok M) (mem_cons_ok (cCjR_ok M) nil_ok))
theorem tRealR (M : Int) (m : Nat) (x : N) : runK Tryz.prog (orcL LK1) (Sg1 M) (m + 60) 31 [N.v x] =
    bif3 x (bif okB2 x (conjW x) then some (resB (eqN x.nf (conjW x).nf, 0)) else none) fun n => some (resB (false, n)) := by kernel_rfl
theorem eqN_conj {x : N} (h : okB x = true) : okB2 x (conjW x) = true ∧ eqN x.nf (conjW x).nf = realB x := by
  obtain ⟨h1, h2, h3⟩ := (okB_iff x).1 h
  rw [conjW_eq h]
  exact ⟨okB2_mk h (okB_conj h), eqN_nf h1 rfl⟩
theorem cRealR_ok (M : Int) : ConOk M (con1 31 realT) := con1_ok (LK1_ok M) fun x v h => by
  refine EvF.of_eq 60 fun m => get_some h ?_
  rw [tRealR]
  unfold realT badB
  rw [okT_get]
  exact bif3_ext (fun hx => by rw [(eqN_conj hx).1, (eqN_conj hx).2]; rfl) fun n => rfl
end Go.Proofs.YtihccnfaibiiiaaGreatDoor.R
