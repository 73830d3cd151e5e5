/- What is known on a day, by the reference: each report once, in new memory. -/
import Derived.Test.YtliijiflbfgfaaaDoorAList

namespace Go.Proofs.YtliijiflbfgfaaaDoor
open Go.RowKit Go.Maps

def repCells (x : Rep) : List Value := [.int .i64 x.id, .int .i64 x.src, .int .i64 x.acc, .int .i64 x.made, .int .i64 x.about, .int .u8 x.kind, .int .i64 x.cents, .int .i64 x.of_]
theorem repCells_get : ∀ (l : List Rep) (k : Nat) (h : k < l.length) (i : Nat), i < 8 → (l.flatMap repCells)[k * 8 + i]? = (repCells l[k])[i]?
  | x :: l, 0, _, i, hi => by
    rw [show (x :: l).flatMap repCells = repCells x ++ l.flatMap repCells from rfl, Nat.zero_mul, Nat.zero_add, List.getElem?_append_left (by simpa [repCells] using hi)]
    rfl
  | x :: l, k + 1, h, i, hi => by
    rw [show (x :: l).flatMap repCells = repCells x ++ l.flatMap repCells from rfl, List.getElem?_append_right (by simp [repCells]; omega), show (k + 1) * 8 + i - (repCells x).length = k * 8 + i by simp [repCells]; omega]
    exact repCells_get l k (by simpa using h) i hi
theorem repCells_len : ∀ l : List Rep, (l.flatMap repCells).length = l.length * 8
  | [] => rfl
  | x :: l => by
    rw [show (x :: l).flatMap repCells = repCells x ++ l.flatMap repCells from rfl, List.length_append, repCells_len l, List.length_cons]
    simp [repCells]; omega
theorem repCells_one (x : Rep) : ∀ u ∈ repCells x, u.oneCell' = true := fun u hu => by
  simp only [repCells, List.mem_cons, List.not_mem_nil, or_false] at hu
  rcases hu with rfl | rfl | rfl | rfl | rfl | rfl | rfl | rfl <;> rfl
theorem repCells_snoc (l : List Rep) (x : Rep) : (l ++ [x]).flatMap repCells = l.flatMap repCells ++ repCells x := by simp
theorem reps_own {W : World} {base : Nat} {A : Option Addr} {c : Nat} {l : List Rep} (h : W.ownsRow base 47 8 (.slice A l.length c) l.length (l.flatMap repCells)) : Reps W W.heap.size A l := fun k hk => by
  obtain ⟨g, cap, hv, hb, hlt⟩ := h.form (by omega)
  simp only [Value.slice.injEq, true_and] at hv
  obtain ⟨rfl, rfl⟩ := hv
  refine ⟨g, 0, rfl, hlt, fun i hi => ?_⟩
  rw [Nat.zero_add, h.cellAt (k * 8 + i) (by omega), repCells_get l k hk i hi]; simp [repCells]
theorem cells_new8 (W : World) (x : Rep) : ∀ j u, (repCells x)[j]? = some u → (W.alloc (.cells #[.int .i64 x.id, .int .i64 x.src, .int .i64 x.acc, .int .i64 x.made, .int .i64 x.about, .int .u8 x.kind, .int .i64 x.cents, .int .i64 x.of_] 47)).cell? ((⟨W.heap.size, 0, none⟩ : Addr).add j) = some u := fun j u hj => by
  have := (Blk.new W #[.int .i64 x.id, .int .i64 x.src, .int .i64 x.acc, .int .i64 x.made, .int .i64 x.about, .int .u8 x.kind, .int .i64 x.cents, .int .i64 x.of_] 47).cell j
  rw [show ((⟨W.heap.size, 0, none⟩ : Addr).add j) = ⟨W.heap.size, j, none⟩ by rw [Addr.add]; simp; exact fun h => h.symm]
  refine this.trans ?_
  rw [← hj]; simp [repCells]
theorem repInfo : (Tryd.prog.info? 47).map (fun i => (i.zero, i.size, i.bytes)) = some (some (.agg #[.int .i64 0, .int .i64 0, .int .i64 0, .int .i64 0, .int .i64 0, .int .u8 0, .int .i64 0, .int .i64 0]), 8, 64) := by kernel_rfl
theorem knownL_le (l : List Rep) (d : Int) : (knownL l d).length ≤ l.length := by
  have h : ∀ n, ∀ l : List Rep, l.length = n → (knownL l d).length ≤ n := by
    intro n
    induction n with
    | zero =>
      intro l hl
      obtain rfl := List.eq_nil_of_length_eq_zero hl
      exact Nat.le_refl _
    | succ n ih =>
      intro l hl
      obtain ⟨l', x, rfl⟩ : ∃ l' x, l = l' ++ [x] := ⟨l.dropLast, l.getLast (by intro e; rw [e] at hl; simp at hl), (List.dropLast_concat_getLast _).symm⟩
      rw [knownL_snoc]
      have h1 := ih l' (by simpa using hl)
      unfold knowStep
      split
      · rw [List.length_append]; simp; omega
      · omega
  exact h l.length l rfl

end Go.Proofs.YtliijiflbfgfaaaDoor
