/- The sum that is printed, and its bound, by the reference. -/
import Derived.Test.YtbkekdbabkncfaaGreatURef4

namespace Go.Proofs.YtbkekdbabkncfaaGreat
open Go.RowKit Go.Maps

def sumUp (l : List Sub) (q : Que) (i : Nat) : Int := sumL (((l.take i).filter fun s => askB s q).map fun s => cntQ s q)
theorem sumUp_succ {l : List Sub} {q : Que} {i : Nat} (h : i < l.length) : sumUp l q (i + 1) = sumUp l q i + if askB l[i] q = true then cntQ l[i] q else 0 := by
  unfold sumUp
  rw [List.take_succ_eq_append_getElem h, List.filter_append, List.map_append, sumL_append]
  by_cases h1 : askB l[i] q = true
  · simp [h1, sumL]
  · simp [h1, sumL]
theorem sumUp_all (l : List Sub) (q : Que) : sumUp l q l.length = sumN l q := by unfold sumUp sumN; rw [List.take_length]
theorem cnt_bound {columns : Int} {s : Sub} {q : Que} (hs : subB columns s = true) (hq : queB columns q = true) : 0 ≤ cntQ s q ∧ cntQ s q ≤ 1000000 := by
  obtain ⟨_, h2, h3⟩ := sub_parts hs
  unfold queB at hq
  simp only [Bool.and_eq_true] at hq
  have hq2 := hq.2
  unfold cntQ
  split
  · omega
  · rename_i hc
    rw [if_neg hc] at hq2
    simp only [Bool.and_eq_true, inN_iff] at hq2
    have hk : q.col.toNat < s.vals.length := by omega
    have := h3 _ (List.getElem_mem hk)
    rw [getD_lt _ _ hk]
    omega
theorem sumUp_bound {l : List Sub} {q : Que} (h : ∀ s ∈ l, 0 ≤ cntQ s q ∧ cntQ s q ≤ 1000000) : ∀ i, i ≤ l.length → 0 ≤ sumUp l q i ∧ sumUp l q i ≤ 1000000 * (i : Int)
  | 0, _ => by simp [sumUp, sumL]
  | i + 1, hi => by
    have h1 := sumUp_bound h i (by omega)
    have h2 := h l[i] (List.getElem_mem (by omega))
    rw [sumUp_succ (by omega)]
    split <;> omega
def sumP (columns : Int) (l : List Sub) (q : Que) : Int := if askE columns l q = 0 then nearN (sumN l q) q.step else 0
def sumB (columns : Int) (l : List Sub) (q : Que) : Int := if askE columns l q = 0 then leastN q.clip q.step else 0
theorem que_parts {columns : Int} {q : Que} (h : queB columns q = true) : q.wheres.length ≤ 4 ∧ (1 ≤ q.step ∧ q.step ≤ 1000000) ∧ (∀ i, (hi : i < q.wheres.length) → 0 ≤ q.wheres[i].col ∧ q.wheres[i].col < columns) ∧ (q.col = -1 ∧ q.clip = 1 ∨ (0 ≤ q.col ∧ q.col < columns) ∧ 1 ≤ q.clip ∧ q.clip ≤ 1000000) := by
  unfold queB at h
  simp only [Bool.and_eq_true, decide_eq_true_eq, List.all_eq_true] at h
  refine ⟨h.1.1.1, inN_iff.1 h.1.1.2, fun i hi => ?_, ?_⟩
  · have h2 := h.1.2 _ (List.getElem_mem hi)
    unfold wheB at h2
    simp only [Bool.and_eq_true, inN_iff] at h2
    omega
  · have h2 := h.2
    split at h2
    · rename_i hc
      simp only [decide_eq_true_eq] at h2
      exact .inl ⟨hc, h2⟩
    · simp only [Bool.and_eq_true, inN_iff] at h2
      exact .inr (by omega)
end Go.Proofs.YtbkekdbabkncfaaGreat
