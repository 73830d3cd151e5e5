/- Given names that are some of others, in their order, and how names agree: the reference's. -/
import Derived.Test.YtoinegfcodnjhaaGreatDoorNum
namespace Go.Proofs.YtoinegfcodnjhaaGreatDoor
open Go.RowKit

/-- All words have from 1 to 20 letters. -/
def Wordy (l : List ByteArray) : Prop := ∀ x ∈ l, 0 < x.size ∧ x.size ≤ 20
theorem Wordy.at {l : List ByteArray} (h : Wordy l) {i : Nat} (hi : i < l.length) : 0 < l[i].size ∧ l[i].size ≤ 20 := h _ (List.getElem_mem hi)
theorem Wordy.tail {l : List ByteArray} (h : Wordy l) : Wordy l.tail := fun x hx => h x (List.mem_of_mem_tail hx)

theorem keepG {w0 W w1 : World} {b b' o o' : Nat} {x y : Value} (hb : b < w0.heap.size) (hb' : b' < w0.heap.size) (h : Below W.heap.size W w1) (hS : W.cell? ⟨b, o, none⟩ = some x ∧ W.cell? ⟨b', o', none⟩ = some y ∧ Below w0.heap.size w0 W) :
    w1.cell? ⟨b, o, none⟩ = some x ∧ w1.cell? ⟨b', o', none⟩ = some y ∧ Below w0.heap.size w0 w1 := by
  have hz := hS.2.2.size
  exact ⟨(h.cell (p := ⟨b, o, none⟩) (by show b < _; omega)).trans hS.1, (h.cell (p := ⟨b', o', none⟩) (by show b' < _; omega)).trans hS.2.1, hS.2.2.trans (h.mono hz)⟩

end Go.Proofs.YtoinegfcodnjhaaGreatDoor
