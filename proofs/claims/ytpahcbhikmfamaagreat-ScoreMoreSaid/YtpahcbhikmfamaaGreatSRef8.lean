/- The score, and the points, by the reference: errors first. Written by a program. -/
import Derived.Test.YtpahcbhikmfamaaGreatWQ2

namespace Go.Proofs.YtpahcbhikmfamaaGreat
open Go.RowKit Go.Maps

def scN (m : Mdl) (x : List Int) : Int := if forE m x = 0 then scoreM m x else 0
def scY (m : Mdl) (x : List Int) : Bool := if forE m x = 0 then decide (1000 * m.need ≤ scoreM m x) else false
def ptL (m : Mdl) (x : List Int) : List Int := if forE m x = 0 then ptsL m x else []
theorem forE_zero {m : Mdl} {x : List Int} (h : forE m x = 0) : mdlB m = true ∧ valsB m.traits x = true := by
  unfold forE at h
  by_cases h1 : mdlB m = true
  · rw [if_pos h1] at h
    by_cases h2 : valsB m.traits x = true
    · exact ⟨h1, h2⟩
    · rw [if_neg h2] at h; omega
  · rw [if_neg h1] at h; omega
theorem mdlB_parts {m : Mdl} (h : mdlB m = true) : (1 ≤ m.traits ∧ m.traits ≤ 5) ∧ (-1000000 ≤ m.need ∧ m.need ≤ 1000000) ∧ m.cards.length ≤ 2 ∧ m.trees.length ≤ 2 ∧ (∀ c ∈ m.cards, crdB m.traits c = true) ∧ ∀ t ∈ m.trees, treB m.traits t = true := by
  unfold mdlB at h
  simp only [Bool.and_eq_true, decide_eq_true_eq, List.all_eq_true] at h
  exact ⟨inN_iff.1 h.1.1.1.1.1, ptB_iff.1 h.1.1.1.1.2, h.1.1.1.2, h.1.1.2, h.1.2, h.2⟩
theorem valsB_len {traits : Int} {x : List Int} (h : valsB traits x = true) : (x.length : Int) = traits := by
  unfold valsB at h
  simp only [Bool.and_eq_true, decide_eq_true_eq] at h
  exact h.1
theorem scoreM_bound {m : Mdl} {x : List Int} (h : mdlB m = true) (hv : valsB m.traits x = true) (hxl : x.length ≤ 10) : -44000000000 ≤ scoreM m x ∧ scoreM m x ≤ 44000000000 := by
  obtain ⟨_, _, h3, h4, h5, h6⟩ := mdlB_parts h
  have hl := valsB_len hv
  have := sumL_bound (prodL m x) (fun z hz => by
    unfold prodL at hz
    rcases List.mem_append.1 hz with hz | hz
    · obtain ⟨q, hq, rfl⟩ := List.mem_map.1 hz
      have h7 := h5 q hq
      rw [← hl] at h7
      exact mul_bound (crdB_parts h7).1 (onCrd_bound h7 hxl)
    · obtain ⟨q, hq, rfl⟩ := List.mem_map.1 hz
      have h7 := h6 q hq
      rw [← hl] at h7
      have := onTre_bound h7
      exact mul_bound (treB_parts h7).1 (by omega))
  have hlen : (prodL m x).length = m.cards.length + m.trees.length := by unfold prodL; simp
  rw [hlen] at this
  rw [scoreM_eq]
  omega

end Go.Proofs.YtpahcbhikmfamaaGreat
