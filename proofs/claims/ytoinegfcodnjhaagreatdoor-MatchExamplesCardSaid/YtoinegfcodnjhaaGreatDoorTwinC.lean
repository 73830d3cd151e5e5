/- A record in new memory: its slices have room for what they hold. -/
import Derived.Test.YtoinegfcodnjhaaGreatDoorTwin
namespace Go.Proofs.YtoinegfcodnjhaaGreatDoor
open Go.RowKit

/-- A slice of words that lies in blocks from lo to hi. -/
def StrsIn (w : World) (lo hi : Nat) (A : Option Addr) (l : List ByteArray) : Prop :=
  ∀ k, (h : k < l.length) → ∃ b off, A = some ⟨b, off, none⟩ ∧ lo ≤ b ∧ b < hi ∧ w.cell? ⟨b, off + k, none⟩ = some (.string l[k]) ∧ l[k].size ≤ maxLen
def StaysIn (w : World) (lo hi : Nat) (A : Option Addr) (l : List Stay) : Prop :=
  ∀ k, (h : k < l.length) → ∃ b off, A = some ⟨b, off, none⟩ ∧ lo ≤ b ∧ b < hi ∧ w.cell? ⟨b, off + k * 3, none⟩ = some (.int .i64 l[k].p) ∧ w.cell? ⟨b, off + k * 3 + 1, none⟩ = some (.int .i64 l[k].f) ∧ w.cell? ⟨b, off + k * 3 + 2, none⟩ = some (.int .i64 l[k].t)
structure RecIn (w : World) (lo hi : Nat) (A D : Option Addr) (r : Rec) : Prop where
  strs : StrsIn w lo hi A r.names
  stays : StaysIn w lo hi D r.stays
  names_le : r.names.length ≤ maxLen
  stays_le : r.stays.length ≤ maxLen
  num_le : r.num.size ≤ maxLen
/-- Wherever those blocks are as they were, and there are more, the record stands. -/
theorem RecIn.at_ {w W : World} {lo hi : Nat} {A D : Option Addr} {r : Rec} (h : RecIn w lo hi A D r) (hag : ∀ b, lo ≤ b → b < hi → W.heap[b]? = w.heap[b]?) (hz : hi ≤ W.heap.size) : RecAt W W.heap.size A D r :=
  ⟨fun k hk => by
    obtain ⟨b, off, e, h1, h2, h3, h4⟩ := h.strs k hk
    exact ⟨b, off, e, by omega, (World.cell?_of_block (w := w) (hag b h1 h2)).trans h3, h4⟩, fun k hk => by
    obtain ⟨b, off, e, h1, h2, h3, h4, h5⟩ := h.stays k hk
    exact ⟨b, off, e, by omega, (World.cell?_of_block (w := w) (hag b h1 h2)).trans h3, (World.cell?_of_block (w := w) (hag b h1 h2)).trans h4, (World.cell?_of_block (w := w) (hag b h1 h2)).trans h5⟩, h.names_le, h.stays_le, h.num_le⟩

theorem strsIn_of_own {w : World} {lo base : Nat} (hlo : lo ≤ base) {A : Option Addr} {n c : Nat} {l : List ByteArray} (h : w.ownsRow base 9 1 (.slice A n c) n (l.map Value.string)) (hs : ∀ s ∈ l, s.size ≤ maxLen) : StrsIn w lo w.heap.size A l := by
  intro k hk
  have hn : n = l.length := by have := h.1; simpa using this.symm
  obtain ⟨g, cap, hv, hb, hlt⟩ := h.form (by omega)
  injection hv with hA
  subst hA
  refine ⟨g, 0, rfl, by omega, hlt, ?_, hs _ (List.getElem_mem hk)⟩
  have := h.cells (g := g) rfl k (.string l[k]) (by simp [hk])
  rwa [WideShapes.add_plain] at this
theorem staysIn_of_own {w : World} {lo base : Nat} (hlo : lo ≤ base) {A : Option Addr} {n c : Nat} {l : List Stay} (h : w.ownsRow base 55 3 (.slice A n c) n (stayCells l)) : StaysIn w lo w.heap.size A l := by
  intro k hk
  have hn : n = l.length := by have := h.1; rw [stayCells_length] at this; omega
  obtain ⟨g, cap, hv, hb, hlt⟩ := h.form (by omega)
  injection hv with hA
  subst hA
  obtain ⟨g1, g2, g3⟩ := stayCells_get l k hk
  have c1 := h.cells (g := g) rfl _ _ g1
  have c2 := h.cells (g := g) rfl _ _ g2
  have c3 := h.cells (g := g) rfl _ _ g3
  rw [WideShapes.add_plain] at c1 c2 c3
  exact ⟨g, 0, rfl, by omega, hlt, c1, c2, c3⟩

theorem own_lower {w : World} {base base' : Nat} {e : TypeId} {size : Nat} {v : Value} {n : Nat} {xs : List Value} (h : w.ownsRow base e size v n xs) (hb : base' ≤ base) : w.ownsRow base' e size v n xs := by
  refine ⟨h.1, ?_⟩
  rcases h.2 with h2 | ⟨g, cap, cur, h2, h3, h4⟩
  · exact .inl h2
  · exact .inr ⟨g, cap, cur, h2, by omega, h4⟩

end Go.Proofs.YtoinegfcodnjhaaGreatDoor
