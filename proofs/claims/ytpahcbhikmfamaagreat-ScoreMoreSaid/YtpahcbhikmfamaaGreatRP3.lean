/- Reasons by the program: all sets, as they lie. -/
import Derived.Test.YtpahcbhikmfamaaGreatRP2

namespace Go.Proofs.YtpahcbhikmfamaaGreat
open Go.RowKit Go.Maps

/-- A list of numbers as it lies. -/
structure StD where
  l : List Int
  A : Option Addr
  a : Nat
instance : Inhabited StD := ⟨⟨[], none, 0⟩⟩
def stC (x : StD) : List Value := [.slice x.A x.l.length x.a]
theorem stC_len (x : StD) : (stC x).length = 1 := rfl
theorem stInfo : (Tryz.prog.info? 26).map (fun i => (i.zero, i.size, i.bytes)) = some (some (.slice none 0 0), 1, 24) := by kernel_rfl
theorem st_ones {A : Option Addr} {n c : Nat} : ∀ u ∈ [Value.slice A n c], u.oneCell' = true := fun u hu => by rw [List.mem_singleton] at hu; subst hu; rfl
theorem st_new (w : World) (v : Value) (t : TypeId) : ∀ j u, [v][j]? = some u → (w.alloc (.cells #[v] t)).cell? ((⟨w.heap.size, 0, none⟩ : Addr).add j) = some u := fun j u hj => by
  rw [WideShapes.add_plain, Nat.zero_add]
  exact ((Blk.new w #[v] t).cell j).trans (by simpa using hj)
def StInv (w : World) (lo : Nat) (A : Option Addr) (c n : Nat) (l : List StD) : Prop :=
  l.length = n ∧ w.ownsRow lo 26 1 (.slice A n c) n (l.flatMap stC) ∧ ∀ y ∈ l, FlatX 1 intC w lo (Value.slice A n c).ownBlock y.A y.l
section
variable {w w' : World} {lo : Nat} {A A' : Option Addr} {c c' n : Nat} {l : List StD}
theorem StInv.below (h : StInv w lo A c n l) (hb : Below w.heap.size w w') : StInv w' lo A c n l := ⟨h.1, own_below h.2.1 hb, fun y hy => (h.2.2 y hy).below hb⟩
theorem StInv.lt (h : StInv w lo A c n l) : ∀ g, (Value.slice A n c).ownBlock = some g → lo ≤ g ∧ g < w.heap.size := fun g hg => h.2.1.lt g hg
theorem StInv.push (h : StInv w lo A c n l) {z : StD} (hz : FlatX 1 intC w lo (Value.slice A n c).ownBlock z.A z.l) (hown : w'.ownsRow lo 26 1 (.slice A' (n + 1) c') (n + 1) (l.flatMap stC ++ stC z)) (hg : w.grownBy w' (Value.slice A n c).ownBlock) (ho : (Value.slice A' (n + 1) c').ownBlock = (Value.slice A n c).ownBlock ∨ (Value.slice A' (n + 1) c').ownBlock = some w.heap.size) : StInv w' lo A' c' (n + 1) (l ++ [z]) := by
  refine ⟨by rw [List.length_append, h.1]; rfl, by rw [List.flatMap_append]; simpa using hown, fun y hy => ?_⟩
  rcases List.mem_append.1 hy with hy | hy
  · exact (h.2.2 y hy).kept hg ho
  · rw [List.mem_singleton] at hy
    subst hy
    exact hz.kept hg ho
end
theorem shl_pow (T : Nat) (h : T ≤ 5) : wrap64 ((2 : Int) ^ T) = ((2 ^ T : Nat) : Int) := by
  have : T = 0 ∨ T = 1 ∨ T = 2 ∨ T = 3 ∨ T = 4 ∨ T = 5 := by omega
  rcases this with rfl | rfl | rfl | rfl | rfl | rfl <;> decide +kernel
theorem pow_le (T : Nat) (h : T ≤ 5) : 1 ≤ 2 ^ T ∧ 2 ^ T ≤ 32 := by
  have : T = 0 ∨ T = 1 ∨ T = 2 ∨ T = 3 ∨ T = 4 ∨ T = 5 := by omega
  rcases this with rfl | rfl | rfl | rfl | rfl | rfl <;> decide
theorem bit_fin : ∀ (b : Fin 32) (k : Fin 5), (bits BinOp.and IntKind.i64 ((b.val : Int) / 2 ^ k.val) 1 == 1) = bitN b.val k.val := by decide +kernel
theorem bit_and {b k : Nat} (hb : b < 32) (hk : k < 5) : (bits BinOp.and IntKind.i64 ((b : Int) / 2 ^ k) 1 == 1) = bitN b k := bit_fin ⟨b, hb⟩ ⟨k, hk⟩
/-- What the program's loops make of all sets. -/
def SetsU (w : World) (lo T : Nat) (A : Option Addr) (c : Nat) (n : Nat) : Prop := ∃ ls, StInv w lo A c n ls ∧ ls.map StD.l = (List.range n).map fun b => setB b T
end Go.Proofs.YtpahcbhikmfamaaGreat
