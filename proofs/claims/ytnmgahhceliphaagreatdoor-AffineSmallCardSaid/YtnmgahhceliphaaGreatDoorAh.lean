/- Affine: the examples hold. -/
import Derived.Test.YtnmgahhceliphaaGreatDoorAf
import Derived.Test.YtnmgahhceliphaaGreatDoorAg
import Derived.Test.YtnmgahhceliphaaGreatDoorAb
namespace Go.Proofs.YtnmgahhceliphaaGreatDoor.A
open Go Go.Proofs.XX.Vm
set_option maxRecDepth 100000

noncomputable def cShort : MCon := closedM SgA.length 48 [cS1, cS2]
theorem cShort_ok : MConOk Tryz.prog SgA cShort := closedM_ok (orc := orcLM [cTake] [cSum, cThen]) sgA (orcLM_ok L1_ok M2_ok) fun c h => by
  simp only [List.mem_cons, List.not_mem_nil, or_false] at h
  rcases h with rfl | rfl
  · exact rS1
  · exact rS2
/-- Several known cases of one function of integers. -/
noncomputable def lookI (m : List Int) : List (List Int × Value) → Option OT
  | [] => none
  | p :: l => bif conI.leqI m p.1 then some (.val p.2) else lookI m l
noncomputable def conIL (f : FuncId) (l : List (List Int × Value)) : Con := ⟨f, fun args => match intsOf .i64 args with
  | some m => lookI m l
  | none => none⟩
theorem lookI_mem {m : List Int} {t : OT} : ∀ {l : List (List Int × Value)}, lookI m l = some t → ∃ p ∈ l, m = p.1 ∧ t = .val p.2
  | [], h => by cases h
  | p :: l, h => by
    simp only [lookI] at h
    cases hq : conI.leqI m p.1 with
    | true =>
      rw [hq] at h
      cases h
      exact ⟨p, List.mem_cons_self .., leqI_eq hq, rfl⟩
    | false =>
      rw [hq] at h
      obtain ⟨q, h1, h2⟩ := lookI_mem h
      exact ⟨q, List.mem_cons_of_mem _ h1, h2⟩
theorem conIL_ok {P : Program} {Sg : List Blk} (hsg : SgOk Sg) {f : FuncId} {l : List (List Int × Value)} (h : ∀ p ∈ l, ∃ n, runC P (orcLM [] []) Sg n f (p.1.map (Value.int .i64)) = some p.2) : ConOk P Sg (conIL f l) := by
  intro args t u ht hu w inv
  simp only [conIL] at ht
  split at ht
  · rename_i m hm
    obtain ⟨p, h1, h2, h3⟩ := lookI_mem ht
    obtain ⟨n, h4⟩ := h p h1
    subst h3
    cases hu
    have e1 := intsOf_map hm
    rw [h2] at e1
    subst e1
    refine runC_calls hsg (orcLM_ok nil_cok nil_mok) h4 ?_ inv
    rw [List.all_map]
    exact List.all_eq_true.2 fun _ _ => rfl
  · cases ht
noncomputable def cCount : Con := conIL 53 [([1], rv 2 0), ([2], rv 24 0), ([3], rv 1344 0), ([4], rv 0 3)]
theorem cCount_ok : ConOk Tryz.prog SgA cCount := conIL_ok sgA fun p h => by
  simp only [List.mem_cons, List.not_mem_nil, or_false] at h
  rcases h with rfl | rfl | rfl | rfl
  · exact ⟨_, tCount1⟩
  · exact ⟨_, tCount2⟩
  · exact ⟨_, tCount3⟩
  · exact ⟨_, tCount4⟩
noncomputable abbrev LA : List Con := [cTake, cCount]
noncomputable abbrev MA : List MCon := [cSum, cThen, cShort]
theorem LA_ok : ∀ c ∈ LA, ConOk Tryz.prog SgA c := cons_cok cTake_ok (cons_cok cCount_ok nil_cok)
theorem MA_ok : ∀ c ∈ MA, MConOk Tryz.prog SgA c := cons_mok cSum_ok (cons_mok cThen_ok (cons_mok cShort_ok nil_mok))
theorem tAwake : runC Tryz.prog (orcLM LA MA) SgA 300 17 [] = some (.bool true) := by kernel_rfl
end Go.Proofs.YtnmgahhceliphaaGreatDoor.A
