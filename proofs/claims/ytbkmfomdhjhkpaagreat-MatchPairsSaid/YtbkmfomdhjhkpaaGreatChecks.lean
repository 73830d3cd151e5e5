/- The walk of the law that checks and edits are the reference's. -/
import Derived.Test.YtbkmfomdhjhkpaaGreatEdw
namespace Go.Proofs.YtbkmfomdhjhkpaaGreat
open Go.RowKit

theorem greatB_names {r : Rec} (h : greatB r = false) : r.names.length ≤ 8 := by
  simp only [greatB, great1, Bool.or_eq_false_iff, decide_eq_false_iff_not] at h; omega
theorem greatB_stays {r : Rec} (h : greatB r = false) : r.stays.length ≤ 10 := by
  simp only [greatB, great1, Bool.or_eq_false_iff, decide_eq_false_iff_not] at h; omega

/-- What is kept through a region that calls functions which make memory alone: three blocks, and all that was there. -/
theorem keep3 {w0 W w1 : World} {b4 b5 b9 : Nat} {c4 c5 c9 : Array Value} (n4 : b4 < w0.heap.size) (n5 : b5 < w0.heap.size) (n9 : b9 < w0.heap.size) (hb : Below W.heap.size W w1)
    (h : (∀ i, W.cell? ⟨b4, i, none⟩ = c4[i]?) ∧ (∀ i, W.cell? ⟨b5, i, none⟩ = c5[i]?) ∧ (∀ i, W.cell? ⟨b9, i, none⟩ = c9[i]?) ∧ Below w0.heap.size w0 W) :
    (∀ i, w1.cell? ⟨b4, i, none⟩ = c4[i]?) ∧ (∀ i, w1.cell? ⟨b5, i, none⟩ = c5[i]?) ∧ (∀ i, w1.cell? ⟨b9, i, none⟩ = c9[i]?) ∧ Below w0.heap.size w0 w1 := by
  have hz := h.2.2.2.size
  exact ⟨fun i => (hb.cell (p := ⟨b4, i, none⟩) (by show b4 < _; omega)).trans (h.1 i), fun i => (hb.cell (p := ⟨b5, i, none⟩) (by show b5 < _; omega)).trans (h.2.1 i), fun i => (hb.cell (p := ⟨b9, i, none⟩) (by show b9 < _; omega)).trans (h.2.2.1 i), h.2.2.2.trans (hb.mono hz)⟩
theorem RecAt.later {w0 W : World} {A D : Option Addr} {r : Rec} (h : RecAt w0 w0.heap.size A D r) (hb : Below w0.heap.size w0 W) : RecAt W W.heap.size A D r := (h.below hb).more hb.size

end Go.Proofs.YtbkmfomdhjhkpaaGreat
