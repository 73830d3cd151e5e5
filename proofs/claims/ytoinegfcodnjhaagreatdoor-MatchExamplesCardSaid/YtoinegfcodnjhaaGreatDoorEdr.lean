/- Edits of two words by the reference's table of rows. -/
import Derived.Test.YtoinegfcodnjhaaGreatDoorEd
namespace Go.Proofs.YtoinegfcodnjhaaGreatDoor
open Go.RowKit

/-- A made row of n numbers. -/
def RowN (w : World) (g n : Nat) (f : Nat → Int) : Prop := w.rowIs g 3 n (fun j => .int .i64 (f j))
theorem RowN.congr {w : World} {g n : Nat} {f f' : Nat → Int} (h : RowN w g n f) (e : ∀ j, j < n → f j = f' j) : RowN w g n f' := World.rowIs.congr h fun j hj => by rw [e j hj]
theorem RowN.cell {w : World} {g n : Nat} {f : Nat → Int} (h : RowN w g n f) {j : Nat} (hj : j < n) : w.cell? ⟨g, j, none⟩ = some (.int .i64 (f j)) := World.rowIs.cell h hj
theorem RowN.free {w : World} {g n : Nat} {f : Nat → Int} (h : RowN w g n f) (j : Nat) : w.frozen? ⟨g, j, none⟩ = false := World.rowIs.frozen h j
theorem RowN.set {w : World} {g n : Nat} {f : Nat → Int} (h : RowN w g n f) (i : Nat) (v : Int) : RowN (w.setCell ⟨g, i, none⟩ (.int .i64 v)) g n (fun j => if j = i then v else f j) := World.rowIs.congr (World.rowIs.set h i _) fun j _ => by dsimp only; split <;> rfl
theorem RowN.far {w : World} {g n : Nat} {f : Nat → Int} (h : RowN w g n f) {p : Addr} (hp : g ≠ p.block) (v : Value) : RowN (w.setCell p v) g n f := World.rowIs.setOther h hp v
theorem RowN.alloc {w : World} {g n : Nat} {f : Nat → Int} (h : RowN w g n f) (o : Obj) : RowN (w.alloc o) g n f := World.rowIs.alloc h o
theorem RowN.lt {w : World} {g n : Nat} {f : Nat → Int} (h : RowN w g n f) : g < w.heap.size := World.rowIs.lt h

/-- The table: its first i rows lie in the blocks behind it. -/
def Tab (w : World) (g n m i : Nat) : Prop := w.rowIs g 51 n (fun k => if k < i then .slice (some ⟨g + 1 + k, 0, none⟩) m m else .slice none 0 0)

theorem intInfo : (Tryz.prog.info? 3).map (fun i => (i.zero, i.size, i.bytes)) = some (some (.int .i64 0), 1, 8) := by kernel_rfl
theorem rowInfo : (Tryz.prog.info? 51).map (fun i => (i.zero, i.size, i.bytes)) = some (some (.slice none 0 0), 1, 24) := by kernel_rfl

theorem min3a (x y z : Int) : (if z + 1 < if y < x then y + 1 else x + 1 then z + 1 else if y < x then y + 1 else x + 1) = minOf (x + 1) [y + 1, z + 1] := by
  simp only [minOf, List.foldl_cons, List.foldl_nil]
  by_cases h : y < x
  · rw [if_pos h, if_pos (show y + 1 < x + 1 by omega)]
  · rw [if_neg h, if_neg (show ¬ y + 1 < x + 1 by omega)]
theorem min3b (x y z : Int) : (if z + 1 < if y + 1 < x then y + 1 else x then z + 1 else if y + 1 < x then y + 1 else x) = minOf x [y + 1, z + 1] := by
  simp only [minOf, List.foldl_cons, List.foldl_nil]

theorem keepT {W : World} {g N R i i' k k' : Nat} {u v y z : Value} (h1 : g ≠ N) (h2 : R ≠ N) (h3 : k' ≠ k) (n : Value) (h : W.cell? ⟨g, i, none⟩ = some u ∧ W.cell? ⟨g, i', none⟩ = some v ∧ W.cell? ⟨R, k, none⟩ = some y ∧ W.cell? ⟨N, k', none⟩ = some z) :
    (W.setCell ⟨N, k, none⟩ n).cell? ⟨g, i, none⟩ = some u ∧ (W.setCell ⟨N, k, none⟩ n).cell? ⟨g, i', none⟩ = some v ∧ (W.setCell ⟨N, k, none⟩ n).cell? ⟨R, k, none⟩ = some y ∧ (W.setCell ⟨N, k, none⟩ n).cell? ⟨N, k', none⟩ = some z :=
  ⟨(World.cell?_setCell_other _ _ _ _ (fun e => h1 (congrArg Addr.block e).symm)).trans h.1, (World.cell?_setCell_other _ _ _ _ (fun e => h1 (congrArg Addr.block e).symm)).trans h.2.1,
   (World.cell?_setCell_other _ _ _ _ (fun e => h2 (congrArg Addr.block e).symm)).trans h.2.2.1, (World.cell?_setCell_other _ _ _ _ (fun e => h3 (congrArg Addr.off e).symm)).trans h.2.2.2⟩

/-- The row that is being filled: its first k numbers. -/
def part (a b : List UInt8) (i k j : Nat) : Int := if j < k then (D a b i j : Int) else 0
theorem part_step (a b : List UInt8) (i k : Nat) (v : Int) (hv : v = D a b i k) (j : Nat) : (if j = k then v else part a b i k j) = part a b i (k + 1) j := by
  unfold part
  by_cases h : j = k
  · subst h; rw [if_pos rfl, if_pos (Nat.lt_succ_self _), hv]
  · rw [if_neg h]
    by_cases h2 : j < k
    · rw [if_pos h2, if_pos (by omega)]
    · rw [if_neg h2, if_neg (by omega)]
theorem part_D (a b : List UInt8) (i k j : Nat) (h : j < k) : part a b i k j = (D a b i j : Int) := by unfold part; rw [if_pos h]

end Go.Proofs.YtoinegfcodnjhaaGreatDoor
