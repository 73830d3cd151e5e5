/- Whether two records have a place in common for long enough: the reference's. -/
import Derived.Test.YtoinegfcodnjhaaGreatDoorClass
namespace Go.Proofs.YtoinegfcodnjhaaGreatDoor
open Go.RowKit

/-- The days that two stays have in common. -/
def common (s t : Stay) : Int := ((if t.t < s.t then t.t else s.t) - if s.f < t.f then t.f else s.f) + 1
def meetB (n : Int) (s t : Stay) : Bool := decide (s.p = t.p) && decide (n ≤ common s t)
def placesB (n : Int) (l m : List Stay) : Bool := l.any fun s => m.any (meetB n s)
def placesF (n : Int) (l m : List Stay) : Int := if placesB n l m = true then 3 else 1

section
variable {α : Type} (f : α → Bool) (l : List α) (k : Nat)
theorem any_next (hk : k < l.length) (h : (l.take k).any f = false) (hf : f l[k] = false) : (l.take (k + 1)).any f = false := by
  rw [List.take_succ_eq_append_getElem hk, List.any_append, h]; simp [hf]
theorem any_stop (hk : k < l.length) (hf : f l[k] = true) : l.any f = true := by
  rw [List.any_eq_true]; exact ⟨l[k], List.getElem_mem hk, hf⟩
theorem any_end (hk : ¬ k < l.length) (h : (l.take k).any f = false) : l.any f = false := by
  rwa [List.take_of_length_le (by omega)] at h
end

theorem staysB_at {l : List Stay} (h : staysB l = true) {k : Nat} (hk : k < l.length) : inB l[k].p 0 99999 = true ∧ 0 ≤ l[k].f ∧ l[k].f ≤ 100000 ∧ 0 ≤ l[k].t ∧ l[k].t ≤ 100000 := by
  have h1 : stayB l[k] = true := by
    simp only [staysB, Bool.and_eq_true, List.all_eq_true] at h
    exact h.2 _ (List.getElem_mem hk)
  simp only [stayB, daysB, inB, Bool.and_eq_true, decide_eq_true_eq] at h1
  simp only [inB, Bool.and_eq_true, decide_eq_true_eq]
  omega

end Go.Proofs.YtoinegfcodnjhaaGreatDoor
