/- Ring: plain values under renaming; contracts that the functions of lists lean on. -/
import Derived.Test.YtihccnfaibiiiaaDoorN0
import Derived.Test.YtihccnfaibiiiaaDoorW4
namespace Go.Proofs.YtihccnfaibiiiaaDoor.R
open Go Go.Proofs.XX.Vm Go.Proofs.XX.Rm Go.RowKit
set_option maxRecDepth 100000

theorem ren2_flat {σ : Nat → Nat} {v : Value} (h : flat v = true) : ren2 σ v = v := by
  by_cases ha : ∃ x, v = .agg x
  · obtain ⟨x, rfl⟩ := ha
    simp only [flat] at h
    show Value.agg (x.map (renS σ)) = Value.agg x
    congr 1
    apply Array.toList_inj.1
    rw [Array.toList_map]
    exact (List.map_congr_left fun v hv => scalar_ren ((List.all_eq_true.1 h) v hv)).trans (List.map_id' _)
  · rw [ren2_of fun x e => ha ⟨x, e⟩]
    exact scalar_ren (by unfold flat at h; split at h; exact absurd rfl (fun e => ha ⟨_, e⟩); exact h)
theorem ren3_plain {σ : Nat → Nat} {v : Value} (h : plain v = true) : ren3 σ v = v := by
  by_cases ha : ∃ x, v = .tuple x
  · obtain ⟨x, rfl⟩ := ha
    simp only [plain] at h
    show Value.tuple (x.map (ren2 σ)) = Value.tuple x
    congr 1
    apply Array.toList_inj.1
    rw [Array.toList_map]
    exact (List.map_congr_left fun v hv => ren2_flat ((List.all_eq_true.1 h) v hv)).trans (List.map_id' _)
  · rw [ren3_of fun x e => ha ⟨x, e⟩]
    exact ren2_flat (by unfold plain at h; split at h; exact absurd rfl (fun e => ha ⟨_, e⟩); exact h)
theorem plain_sh {v : Value} (h : plain v = true) (n : Nat) : sh3 n v = true := by
  have s2 : ∀ u : Value, flat u = true → sh2 n u = true := by
    intro u hu
    by_cases ha : ∃ x, u = .agg x
    · obtain ⟨x, rfl⟩ := ha
      simp only [flat, List.all_eq_true] at hu
      simp only [sh2, List.all_eq_true]
      exact fun w hw => scalar_sh (hu w hw) n
    · rw [sh2_of fun x e => ha ⟨x, e⟩]
      exact scalar_sh (by unfold flat at hu; split at hu; exact absurd rfl (fun e => ha ⟨_, e⟩); exact hu) n
  by_cases ha : ∃ x, v = .tuple x
  · obtain ⟨x, rfl⟩ := ha
    simp only [plain, List.all_eq_true] at h
    simp only [sh3, List.all_eq_true]
    exact fun w hw => s2 w (h w hw)
  · rw [sh3_of fun x e => ha ⟨x, e⟩]
    exact s2 v (by unfold plain at h; split at h; exact absurd rfl (fun e => ha ⟨_, e⟩); exact h)
theorem all_at {p : Blk → Bool} {l : List Blk} (h : l.all p = true) (b : Nat) (k : Blk) (hk : l[b]? = some k) : p k = true := (List.all_eq_true.1 h) k (List.mem_of_getElem? hk)
abbrev LSum : List Con := [con1 17 fun x => .val (.int .i64 (chkS x)), con2 28 fun x y => .val (resV (twoS x y (x.sum y)))]
theorem LSum_ok (M : Int) : ∀ c ∈ LSum, ConOk M c := mem_cons_ok (con1_val (g := chkT) (cChk_ok M) chkS_get) (mem_cons_ok (con2_val (cAdd_ok M) fun x y => twoS_get x y _) nil_ok)
end Go.Proofs.YtihccnfaibiiiaaDoor.R
