/- Values between the same cuts, by the steps of a trait. -/
import Derived.Test.YtkimojiakabbcaaGreatWB

namespace Go.Proofs.YtkimojiakabbcaaGreat

theorem same_bin {m : Mdl} {k : Nat} {v u lo hi : Int} (h : ∀ c ∈ stepsI 0 1000000 (cutsT m k), (c ≤ v → c ≤ lo) ∧ (v < c → hi ≤ c - 1)) (h0 : 0 ≤ lo) (h1 : lo ≤ v) (h2 : v ≤ hi) (h3 : hi ≤ 1000000) (h4 : lo ≤ u) (h5 : u ≤ hi) : ∀ c ∈ cutsT m k, (c ≤ v ↔ c ≤ u) := fun c hc => by
  by_cases hb : 0 < c ∧ c ≤ 1000000
  · have := h c ((stepsI_mem ..).2 (.inr ⟨hc, by unfold spanIn; simp [hb.1, hb.2]⟩))
    omega
  · omega
theorem valsB_iff {traits : Int} {x : List Int} : valsB traits x = true ↔ (x.length : Int) = traits ∧ ∀ k, k < x.length → -1 ≤ x.getD k 0 ∧ x.getD k 0 ≤ 1000000 := by
  unfold valsB
  simp only [Bool.and_eq_true, decide_eq_true_eq, List.all_eq_true]
  constructor
  · rintro ⟨h1, h2⟩
    refine ⟨h1, fun k hk => ?_⟩
    have := h2 x[k] (List.getElem_mem hk)
    rw [getD_lt _ _ hk]
    unfold valB at this
    exact inN_iff.1 this
  · rintro ⟨h1, h2⟩
    refine ⟨h1, fun z hz => ?_⟩
    obtain ⟨k, hk, rfl⟩ := List.mem_iff_getElem.1 hz
    have := h2 k hk
    rw [getD_lt _ _ hk] at this
    unfold valB
    exact inN_iff.2 this
/-- The values of a list, at each place between the same cuts as another's. -/
def BinK (m : Mdl) (x ys : List Int) (k : Nat) : Prop := (x.getD k 0 = -1 ↔ ys.getD k 0 = -1) ∧ (∀ c ∈ cutsT m k, (c ≤ x.getD k 0 ↔ c ≤ ys.getD k 0)) ∧ -1 ≤ ys.getD k 0 ∧ ys.getD k 0 ≤ 1000000
theorem bins_same {m : Mdl} {x ys : List Int} (hm : mdlB m = true) (hx : valsB m.traits x = true) (hl : ys.length = x.length) (h : ∀ k, k < x.length → BinK m x ys k) : forE m x = 0 ∧ forE m ys = 0 ∧ scN m ys = scN m x ∧ scY m ys = scY m x := by
  have h1 := (valsB_iff.1 hx).1
  have hy : valsB m.traits ys = true := valsB_iff.2 ⟨by omega, fun k hk => (h k (by omega)).2.2⟩
  have e1 : forE m x = 0 := by unfold forE; rw [if_pos hm, if_pos hx]
  have e2 : forE m ys = 0 := by unfold forE; rw [if_pos hm, if_pos hy]
  have e3 : scoreM m x = scoreM m ys := score_same hm h1 fun k hk => ⟨(h k hk).1, (h k hk).2.1⟩
  refine ⟨e1, e2, ?_, ?_⟩
  · unfold scN; rw [if_pos e1, if_pos e2, e3]
  · unfold scY; rw [if_pos e1, if_pos e2, e3]
end Go.Proofs.YtkimojiakabbcaaGreat
