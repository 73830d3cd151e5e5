/- Subjects as cells: what lies where. Written by p5.py. -/
import Derived.Test.YtbkekdbabkncfaaGreatURef7

namespace Go.Proofs.YtbkekdbabkncfaaGreat
open Go.RowKit Go.Maps

theorem subCs_snoc (l : List SubD) (x : SubD) : (l ++ [x]).flatMap subC = l.flatMap subC ++ subC x := by simp
theorem cells_new2 (W : World) (x : SubD) : ∀ j u, (subC x)[j]? = some u → (W.alloc (.cells #[.int .i64 x.v.id, .slice x.V x.v.vals.length x.c] 56)).cell? ((⟨W.heap.size, 0, none⟩ : Addr).add j) = some u := fun j u hj => by
  have := (Blk.new W #[.int .i64 x.v.id, .slice x.V x.v.vals.length x.c] 56).cell j
  rw [show ((⟨W.heap.size, 0, none⟩ : Addr).add j) = ⟨W.heap.size, j, none⟩ by rw [Addr.add]; simp; exact fun h => h.symm]
  refine this.trans ?_
  rw [← hj]; simp [subC]
theorem row2_at {w : World} {B : Nat} {A : Option Addr} {l : List SubD} (h : Flat 2 subC w B A l) {k : Nat} (hk : k < l.length) : ∃ b off, A = some ⟨b, off, none⟩ ∧ b < B ∧ w.cell? ⟨b, off + k * 2, none⟩ = some (.int .i64 l[k].v.id) ∧ w.cell? ⟨b, off + k * 2 + 1, none⟩ = some (.slice l[k].V l[k].v.vals.length l[k].c) := by
  obtain ⟨b, off, e, h1, h2⟩ := h k hk
  exact ⟨b, off, e, h1, h2 0 (by omega), h2 1 (by omega)⟩
end Go.Proofs.YtbkekdbabkncfaaGreat
