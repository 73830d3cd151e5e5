/- Sums with one less, and how they are rounded: the maths of SumBound. -/
import Derived.Test.YtbkekdbabkncfaaGreatVFew
import Derived.Test.YtbkekdbabkncfaaGreatUPrg10

namespace Go.Proofs.YtbkekdbabkncfaaGreat
open Go.RowKit Go.Maps

theorem sumN_app (a b : List Sub) (q : Que) : sumN (a ++ b) q = sumN a q + sumN b q := by
  unfold sumN
  rw [List.filter_append, List.map_append, sumL_append]
theorem cnt_clip {columns : Int} {s : Sub} {q : Que} (hs : subB columns s = true) (hq : queB columns q = true) : 0 ≤ cntQ s q ∧ cntQ s q ≤ q.clip := by
  have h1 := cnt_bound hs hq
  refine ⟨h1.1, ?_⟩
  unfold cntQ
  unfold queB at hq
  rw [Bool.and_eq_true] at hq
  have h2 := hq.2
  split
  · rename_i hc
    rw [if_pos hc] at h2
    simp at h2; omega
  · exact Int.min_le_right _ _
/-- The sum without one: less by at most the clip. -/
theorem few_sum {columns : Int} {l : List SubD} {q : Que} {k : Nat} (hk : k < l.length) (hs : ∀ s ∈ l.map SubD.v, subB columns s = true) (hq : queB columns q = true) : sumN ((fewL l k).map SubD.v) q ≤ sumN (l.map SubD.v) q ∧ sumN (l.map SubD.v) q ≤ sumN ((fewL l k).map SubD.v) q + q.clip := by
  have e : l = l.take k ++ l[k] :: l.drop (k + 1) := by
    rw [← List.drop_eq_getElem_cons hk, List.take_append_drop]
  have h1 : sumN (l.map SubD.v) q = sumN ((l.take k).map SubD.v) q + (sumN [l[k].v] q + sumN ((l.drop (k + 1)).map SubD.v) q) := by
    conv => lhs; rw [e]
    rw [List.map_append, List.map_cons, sumN_app]
    rw [show l[k].v :: (l.drop (k + 1)).map SubD.v = [l[k].v] ++ (l.drop (k + 1)).map SubD.v from rfl, sumN_app]
  have h2 : sumN ((fewL l k).map SubD.v) q = sumN ((l.take k).map SubD.v) q + sumN ((l.drop (k + 1)).map SubD.v) q := by
    unfold fewL
    rw [List.map_append, sumN_app]
  have h3 := cnt_clip (hs l[k].v (List.mem_map_of_mem (List.getElem_mem hk))) hq
  have h4 : 0 ≤ sumN [l[k].v] q ∧ sumN [l[k].v] q ≤ q.clip := by
    unfold sumN
    by_cases ha : askB l[k].v q = true
    · simp [ha, sumL]; exact h3
    · simp [ha, sumL]; omega
  omega
theorem near_le (a b c s : Int) (hs : 1 ≤ s) (h : b ≤ a ∧ a ≤ b + c) (_hc : 0 ≤ c) : nearN b s ≤ nearN a s ∧ nearN a s - nearN b s ≤ leastN c s := by
  unfold nearN leastN
  have h1 : (b + s / 2) / s ≤ (a + s / 2) / s := Int.ediv_le_ediv (by omega) (by omega)
  have h2 : (a + s / 2) / s < (b + s / 2) / s + (c + s - 1) / s + 1 := by
    apply Int.ediv_lt_of_lt_mul (by omega)
    have h3 := Int.lt_ediv_add_one_mul_self (b + s / 2) (show 0 < s by omega)
    have h4 := Int.lt_ediv_add_one_mul_self (c + s - 1) (show 0 < s by omega)
    rw [Int.add_mul, Int.add_mul] at *
    omega
  have h5 := Int.mul_le_mul_of_nonneg_right h1 (show 0 ≤ s by omega)
  have h6 := Int.mul_le_mul_of_nonneg_right (show (a + s / 2) / s ≤ (b + s / 2) / s + (c + s - 1) / s by omega) (show 0 ≤ s by omega)
  rw [Int.add_mul] at h6
  omega
theorem near_half (n s : Int) (hs : 1 ≤ s) : 2 * (nearN n s - n) ≤ s ∧ 2 * (n - nearN n s) < s := by
  unfold nearN
  have h1 := Int.ediv_mul_le (n + s / 2) (show s ≠ 0 by omega)
  have h3 := Int.lt_ediv_add_one_mul_self (n + s / 2) (show 0 < s by omega)
  rw [Int.add_mul] at h3
  omega
theorem least_ge (c s : Int) (hs : 1 ≤ s) : c ≤ leastN c s ∧ leastN c s - s < c := by
  unfold leastN
  have h1 := Int.ediv_mul_le (c + s - 1) (show s ≠ 0 by omega)
  have h3 := Int.lt_ediv_add_one_mul_self (c + s - 1) (show 0 < s by omega)
  rw [Int.add_mul] at h3
  omega
theorem near_dvd (n s : Int) : (nearN n s).tmod s = 0 := by unfold nearN; exact Int.mul_tmod_left _ _
theorem least_dvd (n s : Int) : (leastN n s).tmod s = 0 := by unfold leastN; exact Int.mul_tmod_left _ _
theorem few_tab {columns : Int} {l : List SubD} {k : Nat} (h : tabB columns (l.map SubD.v) = true) : tabB columns ((fewL l k).map SubD.v) = true := by
  have hp := ask_parts h
  have hsub : (fewL l k).Sublist l := by
    unfold fewL
    have h1 : (l.take k ++ l.drop (k + 1)).Sublist (l.take k ++ l.drop k) := List.Sublist.append (List.Sublist.refl _) (by
      have h2 : l.drop (k + 1) = (l.drop k).drop 1 := by rw [List.drop_drop]
      rw [h2]
      exact List.drop_sublist 1 (l.drop k))
    rwa [List.take_append_drop] at h1
  unfold tabB at h ⊢
  simp only [Bool.and_eq_true, decide_eq_true_eq, List.all_eq_true] at h ⊢
  refine ⟨⟨⟨h.1.1.1, ?_⟩, fun x hx => h.1.2 x ((hsub.map SubD.v).mem hx)⟩, ((hsub.map SubD.v).map Sub.id).nodup h.2⟩
  have h2 := (hsub.map SubD.v).length_le
  have := h.1.1.2
  omega
theorem nil_tab {columns : Int} (h : 1 ≤ columns ∧ columns ≤ 5) : tabB columns (([] : List SubD).map SubD.v) = true := by
  unfold tabB
  simp [inN_iff.2 h]
end Go.Proofs.YtbkekdbabkncfaaGreat
