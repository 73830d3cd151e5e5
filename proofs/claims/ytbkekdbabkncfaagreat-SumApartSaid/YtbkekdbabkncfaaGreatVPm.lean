/- Those who are asked for, in another order: the maths of SumApart. -/
import Derived.Test.YtbkekdbabkncfaaGreatVBm

namespace Go.Proofs.YtbkekdbabkncfaaGreat
open Go.RowKit Go.Maps

/-- The first i of those that are turned by k. -/
def trnL (l : List SubD) (k i : Nat) : List SubD := (List.range i).map fun j => l.getD ((j + k) % l.length) default
def aprL (l : List SubD) (q : Que) (k i : Nat) : List SubD := (trnL l k i).filter fun x => askB x.v q
theorem apr_zero (l : List SubD) (q : Que) (k : Nat) : aprL l q k 0 = [] := rfl
theorem apr_succ (l : List SubD) (q : Que) (k i : Nat) : aprL l q k (i + 1) = aprL l q k i ++ if askB (l.getD ((i + k) % l.length) default).v q = true then [l.getD ((i + k) % l.length) default] else [] := by
  unfold aprL trnL
  rw [List.range_succ, List.map_append, List.filter_append, List.map_singleton]
  generalize l.getD ((i + k) % l.length) default = y
  by_cases h : askB y.v q = true
  · rw [if_pos h]; congr 1; simp [List.filter, h]
  · have h2 : askB y.v q = false := by simpa using h
    rw [if_neg h]; congr 1; simp [List.filter, h2]
theorem trn_all {l : List SubD} {k : Nat} (hk : k < l.length) : trnL l k l.length = l.drop k ++ l.take k := by
  unfold trnL
  refine List.ext_getElem (by simp; omega) fun j h1 h2 => ?_
  simp only [List.length_map, List.length_range] at h1
  rw [List.getElem_map, List.getElem_range]
  by_cases hj : j < l.length - k
  · have e : (j + k) % l.length = j + k := Nat.mod_eq_of_lt (by omega)
    rw [e, getD_lt l _ (by omega : j + k < l.length), List.getElem_append_left (by rw [List.length_drop]; exact hj), List.getElem_drop]
    congr 1; omega
  · have e : (j + k) % l.length = j + k - l.length := by
      rw [Nat.mod_eq_sub_mod (by omega)]
      exact Nat.mod_eq_of_lt (by omega)
    rw [e, getD_lt l _ (by omega : j + k - l.length < l.length), List.getElem_append_right (by rw [List.length_drop]; omega), List.getElem_take]
    congr 1
    rw [List.length_drop]; omega
theorem apr_perm {l : List SubD} {q : Que} {k : Nat} (hk : k < l.length) : (aprL l q k l.length).Perm (l.filter fun x => askB x.v q) := by
  unfold aprL
  rw [trn_all hk]
  refine List.Perm.filter _ ?_
  have := List.perm_append_comm (l₁ := l.drop k) (l₂ := l.take k)
  rwa [List.take_append_drop] at this
theorem apr_mem {l : List SubD} {q : Que} {k : Nat} (hk : k < l.length) {x : SubD} (h : x ∈ aprL l q k l.length) : x ∈ l ∧ askB x.v q = true := by
  have := (apr_perm (q := q) hk).mem_iff.1 h
  exact List.mem_filter.1 this
theorem apr_len (l : List SubD) (q : Que) (k i : Nat) : (aprL l q k i).length ≤ i := by
  unfold aprL
  refine Nat.le_trans (List.length_filter_le _ _) ?_
  unfold trnL; simp
theorem map_filter (l : List SubD) (q : Que) : (l.filter fun x => askB x.v q).map SubD.v = (l.map SubD.v).filter fun s => askB s q := by
  rw [List.filter_map]; rfl
theorem apr_vals {l : List SubD} {q : Que} {k : Nat} (hk : k < l.length) : (((aprL l q k l.length).map SubD.v).filter fun s => askB s q).Perm ((l.map SubD.v).filter fun s => askB s q) := by
  rw [← map_filter, ← map_filter]
  refine List.Perm.map _ ?_
  have h1 : (aprL l q k l.length).filter (fun x => askB x.v q) = aprL l q k l.length := List.filter_eq_self.2 fun x hx => (apr_mem hk hx).2
  rw [h1]
  exact apr_perm hk
theorem apr_sum {l : List SubD} {q : Que} {k : Nat} (hk : k < l.length) : sumN ((aprL l q k l.length).map SubD.v) q = sumN (l.map SubD.v) q := by
  unfold sumN
  exact sumL_perm ((apr_vals hk).map _)
theorem apr_met {l : List SubD} {q : Que} {k : Nat} (hk : k < l.length) : metL ((aprL l q k l.length).map SubD.v) q = metL (l.map SubD.v) q := by
  refine incr_ext _ _ (ordI_incr _) (ordI_incr _) fun x => ?_
  unfold metL
  rw [ordI_mem, ordI_mem]
  exact ((apr_vals hk).map Sub.id).mem_iff
theorem apr_tab {columns : Int} {l : List SubD} {q : Que} {k : Nat} (hk : k < l.length) (h : tabB columns (l.map SubD.v) = true) : tabB columns ((aprL l q k l.length).map SubD.v) = true := by
  have hf : (l.filter fun x => askB x.v q).Sublist l := List.filter_sublist
  unfold tabB at h ⊢
  simp only [Bool.and_eq_true, decide_eq_true_eq, List.all_eq_true] at h ⊢
  have hp := apr_perm (q := q) hk
  refine ⟨⟨⟨h.1.1.1, ?_⟩, fun x hx => ?_⟩, ?_⟩
  · have h1 := apr_len l q k l.length
    have h2 := h.1.1.2
    simp only [List.length_map] at h2 ⊢; omega
  · obtain ⟨y, hy, rfl⟩ := List.mem_map.1 hx
    exact h.1.2 _ (List.mem_map_of_mem (apr_mem hk hy).1)
  · exact (((hp.map SubD.v).map Sub.id).nodup_iff).2 (((hf.map SubD.v).map Sub.id).nodup h.2)
theorem apr_metlen {columns : Int} {l : List SubD} {q : Que} {k : Nat} (hk : k < l.length) (h : tabB columns (l.map SubD.v) = true) : (metL (l.map SubD.v) q).length = (aprL l q k l.length).length := by
  have hn := (ask_parts (apr_tab (q := q) hk h)).2.2.2
  rw [← apr_met hk]
  have hfe : ((aprL l q k l.length).map SubD.v).filter (fun s => askB s q) = (aprL l q k l.length).map SubD.v := List.filter_eq_self.2 fun x hx => by
    obtain ⟨y, hy, rfl⟩ := List.mem_map.1 hx
    exact (apr_mem hk hy).2
  unfold metL
  rw [hfe]
  have hi := ordI_incr (((aprL l q k l.length).map SubD.v).map Sub.id)
  have hp : (ordI (((aprL l q k l.length).map SubD.v).map Sub.id)).Perm (((aprL l q k l.length).map SubD.v).map Sub.id) := (List.perm_ext_iff_of_nodup (hi.imp (fun h => by omega)) hn).2 fun x => ordI_mem _ _
  rw [hp.length_eq]; simp
end Go.Proofs.YtbkekdbabkncfaaGreat
