/- A table without one: the slices that are put together, as data. -/
import Derived.Test.YtbkekdbabkncfaaGreatVAk
import Derived.Test.YtbkekdbabkncfaaGreatUApp
import Derived.Test.YtbkekdbabkncfaaGreatURef7

namespace Go.Proofs.YtbkekdbabkncfaaGreat
open Go.RowKit Go.Maps

theorem Flat.take_ {α : Type} {n : Nat} {f : α → List Value} {w : World} {B b off : Nat} {l : List α} (h : Flat n f w B (some ⟨b, off, none⟩) l) (k : Nat) : Flat n f w B (some ⟨b, off, none⟩) (l.take k) := by
  intro i hi
  rw [List.length_take] at hi
  have h2 := h i (by omega)
  rw [List.getElem_take]
  exact h2
theorem Flat.drop_ {α : Type} {n : Nat} {f : α → List Value} {w : World} {B b off : Nat} {l : List α} (h : Flat n f w B (some ⟨b, off, none⟩) l) (k : Nat) : Flat n f w B (some ⟨b, off + k * n, none⟩) (l.drop k) := by
  intro i hi
  rw [List.length_drop] at hi
  obtain ⟨b', off', e, h1, h2⟩ := h (k + i) (by omega)
  simp only [Option.some.injEq, Addr.mk.injEq, and_true] at e
  obtain ⟨rfl, rfl⟩ := e
  refine ⟨b, off + k * n, rfl, h1, fun j hj => ?_⟩
  have h3 := h2 j hj
  rw [List.getElem_drop]
  rw [Nat.add_mul] at h3
  simpa [Nat.add_assoc] using h3
def fewL (l : List SubD) (k : Nat) : List SubD := l.take k ++ l.drop (k + 1)
theorem few_len {l : List SubD} {k : Nat} (h : k < l.length) : (fewL l k).length = k + (l.length - (k + 1)) := by unfold fewL; simp; omega
theorem few_mem {l : List SubD} {k : Nat} {x : SubD} (h : x ∈ fewL l k) : x ∈ l := by
  unfold fewL at h
  rcases List.mem_append.1 h with h | h
  · exact List.mem_of_mem_take h
  · exact List.mem_of_mem_drop h
theorem few_flat (l : List SubD) (k : Nat) : (fewL l k).flatMap subC = (l.take k).flatMap subC ++ (l.drop (k + 1)).flatMap subC := by unfold fewL; rw [List.flatMap_append]
end Go.Proofs.YtbkekdbabkncfaaGreat
