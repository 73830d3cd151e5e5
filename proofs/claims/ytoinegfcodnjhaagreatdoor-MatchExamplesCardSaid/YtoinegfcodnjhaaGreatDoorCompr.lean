/- How much two valid records agree: the reference's. -/
import Derived.Test.YtoinegfcodnjhaaGreatDoorNames
import Derived.Test.YtoinegfcodnjhaaGreatDoorPlaces
import Derived.Test.YtoinegfcodnjhaaGreatDoorAsk
namespace Go.Proofs.YtoinegfcodnjhaaGreatDoor
open Go.RowKit

def oneF (names num born place sa sb : Int) (ta tb : Bool) : Int :=
  if born = 0 ∨ (sa ≠ 0 ∧ sb ≠ 0 ∧ sa ≠ sb) ∨ (names = 0 ∧ num ≠ 3) ∨ (num = 0 ∧ place ≠ 3) ∨ ((ta = true ∨ tb = true) ∧ num ≠ 3 ∧ names ≠ 3) then 0
  else if (num = 3 ∧ 2 ≤ names) ∨ (names = 3 ∧ born = 3 ∧ place = 3 ∧ ta = false ∧ tb = false) then 2 else 1

def matF (u : Rul) (r s : Rec) : Mat :=
  let n := namesS u.l r.names s.names
  let k := numS u.d r.num s.num
  let b := birS u.y r.lo r.hi s.lo s.hi
  let p := placesF u.t r.stays s.stays
  ⟨n, k, b, p, oneF n k b p r.suf s.suf r.twin s.twin⟩

theorem cells_kept {w W : World} {cs : Array Value} {t : TypeId} (h : Below (w.heap.size + 1) (w.alloc (.cells cs t)) W) (i : Nat) : W.cell? ⟨w.heap.size, i, none⟩ = cs[i]? :=
  (h.cell (p := ⟨w.heap.size, i, none⟩) (by show w.heap.size < _; omega)).trans (World.cell?_alloc_new _ _ _ i)
/-- Kept through the region: what was there below block B, and three variables. -/
structure KeptB (B g g1 g2 : Nat) (w0 : World) : Prop where
  a : g < B
  b : g1 < B
  c : g2 < B
  d : B ≤ w0.heap.size
theorem keptC_call {w0 W w1 : World} {B g g1 g2 : Nat} {cu cr cs : Array Value} (hB : KeptB B g g1 g2 w0) (h : Below W.heap.size W w1)
    (hS : Below B w0 (W) ∧ (∀ i, (W).cell? ⟨g, i, none⟩ = cu[i]?) ∧ (∀ i, (W).cell? ⟨g1, i, none⟩ = cr[i]?) ∧ (∀ i, (W).cell? ⟨g2, i, none⟩ = cs[i]?)) :
    Below B w0 (w1) ∧ (∀ i, (w1).cell? ⟨g, i, none⟩ = cu[i]?) ∧ (∀ i, (w1).cell? ⟨g1, i, none⟩ = cr[i]?) ∧ (∀ i, (w1).cell? ⟨g2, i, none⟩ = cs[i]?) := by
  obtain ⟨h1, h2, h3, h4⟩ := hS
  obtain ⟨i1, i2, i3, i4⟩ := hB
  have hz := h1.size
  exact ⟨h1.trans (h.mono (by omega)), fun i => (h.cell (p := ⟨g, i, none⟩) (by show g < _; omega)).trans (h2 i), fun i => (h.cell (p := ⟨g1, i, none⟩) (by show g1 < _; omega)).trans (h3 i), fun i => (h.cell (p := ⟨g2, i, none⟩) (by show g2 < _; omega)).trans (h4 i)⟩
theorem keptC_alloc {w0 W : World} {B g g1 g2 : Nat} {cu cr cs : Array Value} (o : Obj) (hB : KeptB B g g1 g2 w0)
    (hS : Below B w0 (W) ∧ (∀ i, (W).cell? ⟨g, i, none⟩ = cu[i]?) ∧ (∀ i, (W).cell? ⟨g1, i, none⟩ = cr[i]?) ∧ (∀ i, (W).cell? ⟨g2, i, none⟩ = cs[i]?)) :
    Below B w0 (W.alloc o) ∧ (∀ i, (W.alloc o).cell? ⟨g, i, none⟩ = cu[i]?) ∧ (∀ i, (W.alloc o).cell? ⟨g1, i, none⟩ = cr[i]?) ∧ (∀ i, (W.alloc o).cell? ⟨g2, i, none⟩ = cs[i]?) :=
  keptC_call hB ((Below.refl W.heap.size W).alloc (Nat.le_refl _) o) hS
theorem keptC_drew {w0 W : World} {B g g1 g2 : Nat} {cu cr cs : Array Value}
    (hS : Below B w0 (W) ∧ (∀ i, (W).cell? ⟨g, i, none⟩ = cu[i]?) ∧ (∀ i, (W).cell? ⟨g1, i, none⟩ = cr[i]?) ∧ (∀ i, (W).cell? ⟨g2, i, none⟩ = cs[i]?)) :
    Below B w0 (W.drew) ∧ (∀ i, (W.drew).cell? ⟨g, i, none⟩ = cu[i]?) ∧ (∀ i, (W.drew).cell? ⟨g1, i, none⟩ = cr[i]?) ∧ (∀ i, (W.drew).cell? ⟨g2, i, none⟩ = cs[i]?) := ⟨hS.1.drew, hS.2.1, hS.2.2.1, hS.2.2.2⟩
theorem kept_le {w0 W w1 : World} {B : Nat} {R : Prop} (h : Below W.heap.size W w1) (hS : Below B w0 W ∧ R) : w0.heap.size ≤ w1.heap.size := Nat.le_trans hS.1.size h.size
theorem keptC_refill {w0 W : World} {B g g1 g2 : Nat} {cu cr cs : Array Value} {o : Obj} (o' : Obj) (hB : KeptB B g g1 g2 w0) (hs : w0.heap.size ≤ W.heap.size)
    (hS : Below B w0 (W.alloc o) ∧ (∀ i, (W.alloc o).cell? ⟨g, i, none⟩ = cu[i]?) ∧ (∀ i, (W.alloc o).cell? ⟨g1, i, none⟩ = cr[i]?) ∧ (∀ i, (W.alloc o).cell? ⟨g2, i, none⟩ = cs[i]?)) :
    Below B w0 (W.alloc o') ∧ (∀ i, (W.alloc o').cell? ⟨g, i, none⟩ = cu[i]?) ∧ (∀ i, (W.alloc o').cell? ⟨g1, i, none⟩ = cr[i]?) ∧ (∀ i, (W.alloc o').cell? ⟨g2, i, none⟩ = cs[i]?) := by
  obtain ⟨h1, h2, h3, h4⟩ := hS
  obtain ⟨i1, i2, i3, i4⟩ := hB
  have hz := h1.size
  rw [World.size_alloc] at hz
  have e : ∀ p : Addr, p.block < W.heap.size → (W.alloc o').cell? p = (W.alloc o).cell? p := fun p hp =>
    (((Below.refl W.heap.size W).alloc (Nat.le_refl _) o').cell hp).trans (((Below.refl W.heap.size W).alloc (Nat.le_refl _) o).cell hp).symm
  refine ⟨⟨h1.os, h1.tape, h1.output, ?_, ?_⟩, fun i => (e ⟨g, i, none⟩ (by show g < _; omega)).trans (h2 i), fun i => (e ⟨g1, i, none⟩ (by show g1 < _; omega)).trans (h3 i), fun i => (e ⟨g2, i, none⟩ (by show g2 < _; omega)).trans (h4 i)⟩
  · rw [World.size_alloc]; omega
  · intro b hb
    have hb' : b < W.heap.size := by omega
    exact (Below.heap_alloc W o' b hb').trans ((Below.heap_alloc W o b hb').symm.trans (h1.block b hb))
theorem keptC_set {w0 W : World} {B g g1 g2 b o : Nat} {v : Value} {cu cr cs : Array Value} (hB : KeptB B g g1 g2 w0) (hb : B ≤ b)
    (hS : Below B w0 (W) ∧ (∀ i, (W).cell? ⟨g, i, none⟩ = cu[i]?) ∧ (∀ i, (W).cell? ⟨g1, i, none⟩ = cr[i]?) ∧ (∀ i, (W).cell? ⟨g2, i, none⟩ = cs[i]?)) :
    Below B w0 (W.setCell ⟨b, o, none⟩ v) ∧ (∀ i, (W.setCell ⟨b, o, none⟩ v).cell? ⟨g, i, none⟩ = cu[i]?) ∧ (∀ i, (W.setCell ⟨b, o, none⟩ v).cell? ⟨g1, i, none⟩ = cr[i]?) ∧ (∀ i, (W.setCell ⟨b, o, none⟩ v).cell? ⟨g2, i, none⟩ = cs[i]?) := by
  obtain ⟨h1, h2, h3, h4⟩ := hS
  obtain ⟨i1, i2, i3, i4⟩ := hB
  have h := (Below.refl B W).setCell (p := ⟨b, o, none⟩) hb v
  exact ⟨h1.trans h, fun i => (h.cell (p := ⟨g, i, none⟩) i1).trans (h2 i), fun i => (h.cell (p := ⟨g1, i, none⟩) i2).trans (h3 i), fun i => (h.cell (p := ⟨g2, i, none⟩) i3).trans (h4 i)⟩
theorem stored5 {W : World} {b : Nat} {z v0 v1 v2 v3 v4 : Value} (hm : W.cell? ⟨b, 0, none⟩ = some z ∧ W.cell? ⟨b, 1, none⟩ = some z ∧ W.cell? ⟨b, 2, none⟩ = some z ∧ W.cell? ⟨b, 3, none⟩ = some z ∧ W.cell? ⟨b, 4, none⟩ = some z) (i : Nat) (hi : i < 5) :
    (((((W.setCell ⟨b, 0, none⟩ v0).setCell ⟨b, 1, none⟩ v1).setCell ⟨b, 2, none⟩ v2).setCell ⟨b, 3, none⟩ v3).setCell ⟨b, 4, none⟩ v4).cell? ⟨b, i, none⟩ = (#[v0, v1, v2, v3, v4] : Array Value)[i]? := by
  show (W.setCells b 0 [v0, v1, v2, v3, v4]).cell? ⟨b, i, none⟩ = _
  obtain ⟨m0, m1, m2, m3, m4⟩ := hm
  have h := World.cell?_setCells_in b [v0, v1, v2, v3, v4] 0 W (fun j hj => by
    rw [Nat.zero_add]
    match j, hj with
    | 0, _ => rw [m0]; rfl
    | 1, _ => rw [m1]; rfl
    | 2, _ => rw [m2]; rfl
    | 3, _ => rw [m3]; rfl
    | 4, _ => rw [m4]; rfl
    | n + 5, h => exact absurd h (by show ¬ n + 5 < 5; omega)) i hi
  rw [Nat.zero_add] at h
  rw [h, Array.getElem?_eq_getElem (by simpa using hi)]
  simp

/-- What the region itself made, behind a call: block b, of five cells, at or above B. -/
def Made (B b : Nat) (z : Value) (W : World) : Prop := (W.cell? ⟨b, 0, none⟩ = some z ∧ W.cell? ⟨b, 1, none⟩ = some z ∧ W.cell? ⟨b, 2, none⟩ = some z ∧ W.cell? ⟨b, 3, none⟩ = some z ∧ W.cell? ⟨b, 4, none⟩ = some z) ∧ (∀ i, W.frozen? ⟨b, i, none⟩ = false) ∧ b < W.heap.size ∧ B ≤ b
theorem made_one {w0 w W : World} {g g1 g2 B : Nat} {R : Prop} {z : Value} {t : TypeId} (hB : KeptB B g g1 g2 w0) (hs : w0.heap.size ≤ w.heap.size) (h : Below (w.alloc (.cells #[z, z, z, z, z] t)).heap.size (w.alloc (.cells #[z, z, z, z, z] t)) W) (hS : Below B w0 (w.alloc (.cells #[z, z, z, z, z] t)) ∧ R) : ∃ b, b = w.heap.size ∧ Made B b z W := by
  refine ⟨_, rfl, ?_⟩
  have hz := h.size
  have hz' := hS.1.size
  rw [World.size_alloc] at hz hz'
  have hB := hB.d
  have hc := cells_kept (h.mono (by rw [World.size_alloc]; exact Nat.le_refl _))
  exact ⟨⟨hc 0, hc 1, hc 2, hc 3, hc 4⟩, fun i => (h.frozen (p := ⟨w.heap.size, i, none⟩) (by show w.heap.size < _; rw [World.size_alloc]; omega)).trans (World.frozen?_alloc_new _ _ _ i), by omega, by omega⟩
theorem made_one' {w0 w W : World} {g g1 g2 B : Nat} {R : Prop} {z : Value} {t : TypeId} (hB : KeptB B g g1 g2 w0) (hs : w0.heap.size ≤ w.heap.size) (h : Below (w.alloc (.cells #[z, z, z, z, z] t)).drew.heap.size (w.alloc (.cells #[z, z, z, z, z] t)).drew W) (hS : Below B w0 (w.alloc (.cells #[z, z, z, z, z] t)).drew ∧ R) : ∃ b, b = w.heap.size ∧ Made B b z W :=
  made_one hB hs ((Below.refl _ _).drew.trans h) (R := True) ⟨⟨hS.1.os, hS.1.tape, hS.1.output, hS.1.size, hS.1.block⟩, trivial⟩
theorem made_on {w W : World} {B b : Nat} {z : Value} (h : Below w.heap.size w W) (hm : Made B b z w) : Made B b z W := by
  obtain ⟨⟨m0, m1, m2, m3, m4⟩, hf, hb, hg⟩ := hm
  have e : ∀ i v, w.cell? ⟨b, i, none⟩ = some v → W.cell? ⟨b, i, none⟩ = some v := fun i v hv => (h.cell (p := ⟨b, i, none⟩) (by exact hb)).trans hv
  exact ⟨⟨e _ _ m0, e _ _ m1, e _ _ m2, e _ _ m3, e _ _ m4⟩, fun i => (h.frozen (p := ⟨b, i, none⟩) (by exact hb)).trans (hf i), Nat.lt_of_lt_of_le hb h.size, hg⟩

theorem Strs.late {w0 W : World} {B g : Nat} {R : Prop} {A : Option Addr} {l : List ByteArray} (h : Strs w0 B A l) (hB : B ≤ g) (hg : g ≤ w0.heap.size) (hb : Below g w0 W ∧ R) : Strs W W.heap.size A l := ((h.more hB).below hb.1).more (by have := hb.1.size; omega)
theorem Stays.late {w0 W : World} {B g : Nat} {R : Prop} {A : Option Addr} {l : List Stay} (h : Stays w0 B A l) (hB : B ≤ g) (hg : g ≤ w0.heap.size) (hb : Below g w0 W ∧ R) : Stays W W.heap.size A l := ((h.more hB).below hb.1).more (by have := hb.1.size; omega)

theorem below_set5 {B : Nat} {a W : World} (h : Below B a W) {b : Nat} (hb : B ≤ b) (v0 v1 v2 v3 v4 : Value) : Below B a (((((W.setCell ⟨b, 0, none⟩ v0).setCell ⟨b, 1, none⟩ v1).setCell ⟨b, 2, none⟩ v2).setCell ⟨b, 3, none⟩ v3).setCell ⟨b, 4, none⟩ v4) :=
  ((((h.setCell (p := ⟨b, 0, none⟩) hb v0).setCell (p := ⟨b, 1, none⟩) hb v1).setCell (p := ⟨b, 2, none⟩) hb v2).setCell (p := ⟨b, 3, none⟩) hb v3).setCell (p := ⟨b, 4, none⟩) hb v4
theorem meetA {w0 W : World} {B g g1 g2 bm : Nat} {cu cr cs : Array Value} {z v0 v1 v2 v3 v4 : Value} (hS : Below B w0 (((((W.setCell ⟨bm, 0, none⟩ v0).setCell ⟨bm, 1, none⟩ v1).setCell ⟨bm, 2, none⟩ v2).setCell ⟨bm, 3, none⟩ v3).setCell ⟨bm, 4, none⟩ v4) ∧ (∀ i, (((((W.setCell ⟨bm, 0, none⟩ v0).setCell ⟨bm, 1, none⟩ v1).setCell ⟨bm, 2, none⟩ v2).setCell ⟨bm, 3, none⟩ v3).setCell ⟨bm, 4, none⟩ v4).cell? ⟨g, i, none⟩ = cu[i]?) ∧ (∀ i, (((((W.setCell ⟨bm, 0, none⟩ v0).setCell ⟨bm, 1, none⟩ v1).setCell ⟨bm, 2, none⟩ v2).setCell ⟨bm, 3, none⟩ v3).setCell ⟨bm, 4, none⟩ v4).cell? ⟨g1, i, none⟩ = cr[i]?) ∧ (∀ i, (((((W.setCell ⟨bm, 0, none⟩ v0).setCell ⟨bm, 1, none⟩ v1).setCell ⟨bm, 2, none⟩ v2).setCell ⟨bm, 3, none⟩ v3).setCell ⟨bm, 4, none⟩ v4).cell? ⟨g2, i, none⟩ = cs[i]?))
    (hm : W.cell? ⟨bm, 0, none⟩ = some z ∧ W.cell? ⟨bm, 1, none⟩ = some z ∧ W.cell? ⟨bm, 2, none⟩ = some z ∧ W.cell? ⟨bm, 3, none⟩ = some z ∧ W.cell? ⟨bm, 4, none⟩ = some z) (mf : ∀ i, W.frozen? ⟨bm, i, none⟩ = false) (mg : B ≤ bm) :
    ∃ b : Nat, Value.pointer (some ⟨bm, 0, none⟩) = .pointer (some ⟨b, 0, none⟩) ∧ B ≤ b ∧ (((((W.setCell ⟨bm, 0, none⟩ v0).setCell ⟨bm, 1, none⟩ v1).setCell ⟨bm, 2, none⟩ v2).setCell ⟨bm, 3, none⟩ v3).setCell ⟨bm, 4, none⟩ v4).cell? ⟨b, 0, none⟩ = some v0 ∧ (((((W.setCell ⟨bm, 0, none⟩ v0).setCell ⟨bm, 1, none⟩ v1).setCell ⟨bm, 2, none⟩ v2).setCell ⟨bm, 3, none⟩ v3).setCell ⟨bm, 4, none⟩ v4).cell? ⟨b, 1, none⟩ = some v1 ∧ (((((W.setCell ⟨bm, 0, none⟩ v0).setCell ⟨bm, 1, none⟩ v1).setCell ⟨bm, 2, none⟩ v2).setCell ⟨bm, 3, none⟩ v3).setCell ⟨bm, 4, none⟩ v4).cell? ⟨b, 2, none⟩ = some v2 ∧ (((((W.setCell ⟨bm, 0, none⟩ v0).setCell ⟨bm, 1, none⟩ v1).setCell ⟨bm, 2, none⟩ v2).setCell ⟨bm, 3, none⟩ v3).setCell ⟨bm, 4, none⟩ v4).cell? ⟨b, 3, none⟩ = some v3 ∧ (((((W.setCell ⟨bm, 0, none⟩ v0).setCell ⟨bm, 1, none⟩ v1).setCell ⟨bm, 2, none⟩ v2).setCell ⟨bm, 3, none⟩ v3).setCell ⟨bm, 4, none⟩ v4).cell? ⟨b, 4, none⟩ = some v4 ∧ (∀ i, (((((W.setCell ⟨bm, 0, none⟩ v0).setCell ⟨bm, 1, none⟩ v1).setCell ⟨bm, 2, none⟩ v2).setCell ⟨bm, 3, none⟩ v3).setCell ⟨bm, 4, none⟩ v4).frozen? ⟨b, i, none⟩ = false) ∧ (∀ i, (((((W.setCell ⟨bm, 0, none⟩ v0).setCell ⟨bm, 1, none⟩ v1).setCell ⟨bm, 2, none⟩ v2).setCell ⟨bm, 3, none⟩ v3).setCell ⟨bm, 4, none⟩ v4).cell? ⟨g1, i, none⟩ = cr[i]?) ∧ (∀ i, (((((W.setCell ⟨bm, 0, none⟩ v0).setCell ⟨bm, 1, none⟩ v1).setCell ⟨bm, 2, none⟩ v2).setCell ⟨bm, 3, none⟩ v3).setCell ⟨bm, 4, none⟩ v4).cell? ⟨g2, i, none⟩ = cs[i]?) ∧ Below B w0 (((((W.setCell ⟨bm, 0, none⟩ v0).setCell ⟨bm, 1, none⟩ v1).setCell ⟨bm, 2, none⟩ v2).setCell ⟨bm, 3, none⟩ v3).setCell ⟨bm, 4, none⟩ v4) :=
  ⟨bm, rfl, mg, stored5 hm 0 (by omega), stored5 hm 1 (by omega), stored5 hm 2 (by omega), stored5 hm 3 (by omega), stored5 hm 4 (by omega), fun i => by simp only [World.frozen?_setCell, mf], hS.2.2.1, hS.2.2.2, hS.1⟩
theorem meetB' {w0 W : World} {B g g1 g2 : Nat} {cu cr cs : Array Value} {v0 v1 v2 v3 v4 : Value} {t : TypeId} (hB : KeptB B g g1 g2 w0) (hs : w0.heap.size ≤ W.heap.size) (hS : Below B w0 (W.alloc (.cells #[v0, v1, v2, v3, v4] t)) ∧ (∀ i, (W.alloc (.cells #[v0, v1, v2, v3, v4] t)).cell? ⟨g, i, none⟩ = cu[i]?) ∧ (∀ i, (W.alloc (.cells #[v0, v1, v2, v3, v4] t)).cell? ⟨g1, i, none⟩ = cr[i]?) ∧ (∀ i, (W.alloc (.cells #[v0, v1, v2, v3, v4] t)).cell? ⟨g2, i, none⟩ = cs[i]?)) :
    ∃ b : Nat, Value.pointer (some ⟨W.heap.size, 0, none⟩) = .pointer (some ⟨b, 0, none⟩) ∧ B ≤ b ∧ (W.alloc (.cells #[v0, v1, v2, v3, v4] t)).cell? ⟨b, 0, none⟩ = some v0 ∧ (W.alloc (.cells #[v0, v1, v2, v3, v4] t)).cell? ⟨b, 1, none⟩ = some v1 ∧ (W.alloc (.cells #[v0, v1, v2, v3, v4] t)).cell? ⟨b, 2, none⟩ = some v2 ∧ (W.alloc (.cells #[v0, v1, v2, v3, v4] t)).cell? ⟨b, 3, none⟩ = some v3 ∧ (W.alloc (.cells #[v0, v1, v2, v3, v4] t)).cell? ⟨b, 4, none⟩ = some v4 ∧ (∀ i, (W.alloc (.cells #[v0, v1, v2, v3, v4] t)).frozen? ⟨b, i, none⟩ = false) ∧ (∀ i, (W.alloc (.cells #[v0, v1, v2, v3, v4] t)).cell? ⟨g1, i, none⟩ = cr[i]?) ∧ (∀ i, (W.alloc (.cells #[v0, v1, v2, v3, v4] t)).cell? ⟨g2, i, none⟩ = cs[i]?) ∧ Below B w0 (W.alloc (.cells #[v0, v1, v2, v3, v4] t)) := by
  have h1 := hB.d
  exact ⟨W.heap.size, rfl, by omega, World.cell?_alloc_new _ _ _ 0, World.cell?_alloc_new _ _ _ 1, World.cell?_alloc_new _ _ _ 2, World.cell?_alloc_new _ _ _ 3, World.cell?_alloc_new _ _ _ 4, fun i => World.frozen?_alloc_new _ _ _ i, hS.2.2.1, hS.2.2.2, hS.1⟩

theorem oneF_stop {n k b p sa sb : Int} {ta tb ba bt : Bool} (hA : decide (sa ≠ 0 ∧ sb ≠ 0 ∧ sa ≠ sb) = ba) (hT : ((ta || tb) && decide (k ≠ 3 ∧ n ≠ 3)) = bt)
    (hE : (decide (b = 0) || ba || (decide (n = 0) && decide (k ≠ 3)) || (decide (k = 0) && decide (p ≠ 3)) || bt) = true) : oneF n k b p sa sb ta tb = 0 := by
  subst hA; subst hT
  simp only [Bool.or_eq_true, Bool.and_eq_true, decide_eq_true_eq] at hE
  rw [oneF, if_pos]
  rcases hE with (((h | h) | h) | h) | h
  · exact .inl h
  · exact .inr (.inl h)
  · exact .inr (.inr (.inl h))
  · exact .inr (.inr (.inr (.inl h)))
  · exact .inr (.inr (.inr (.inr ⟨h.1, h.2⟩)))
theorem oneF_go {n k b p sa sb : Int} {ta tb ba bt : Bool} (hA : decide (sa ≠ 0 ∧ sb ≠ 0 ∧ sa ≠ sb) = ba) (hT : ((ta || tb) && decide (k ≠ 3 ∧ n ≠ 3)) = bt)
    (hE : (decide (b = 0) || ba || (decide (n = 0) && decide (k ≠ 3)) || (decide (k = 0) && decide (p ≠ 3)) || bt) = false) :
    oneF n k b p sa sb ta tb = if ((decide (k = 3) && decide (2 ≤ n)) || (decide (n = 3) && decide (b = 3) && decide (p = 3) && !ta && !tb)) = true then 2 else 1 := by
  subst hA; subst hT
  rw [oneF, if_neg]
  · simp only [Bool.or_eq_true, Bool.and_eq_true, decide_eq_true_eq, Bool.not_eq_true', and_assoc]
  · intro hc
    have : (decide (b = 0) || decide (sa ≠ 0 ∧ sb ≠ 0 ∧ sa ≠ sb) || (decide (n = 0) && decide (k ≠ 3)) || (decide (k = 0) && decide (p ≠ 3)) || ((ta || tb) && decide (k ≠ 3 ∧ n ≠ 3))) = true := by
      simp only [Bool.or_eq_true, Bool.and_eq_true, decide_eq_true_eq]
      rcases hc with h | h | h | h | h
      · exact .inl (.inl (.inl (.inl h)))
      · exact .inl (.inl (.inl (.inr h)))
      · exact .inl (.inl (.inr h))
      · exact .inl (.inr h)
      · exact .inr ⟨h.1, h.2⟩
    rw [this] at hE; cases hE
theorem cell_set_eq {w : World} {b i : Nat} {z v : Value} (h : w.cell? ⟨b, i, none⟩ = some z) : (w.setCell ⟨b, i, none⟩ v).cell? ⟨b, i, none⟩ = some v := by
  have := World.cell?_setCells_in b [v] i w (fun j hj => by
    obtain rfl : j = 0 := by simpa using hj
    rw [Nat.add_zero, h]; rfl) 0 (by simp)
  simpa [World.setCells] using this
theorem cell_set_ne {w : World} {b i j : Nat} {v : Value} (h : i ≠ j) : (w.setCell ⟨b, i, none⟩ v).cell? ⟨b, j, none⟩ = w.cell? ⟨b, j, none⟩ := by
  simp only [World.cell?, World.setCell, Array.getElem?_modify, if_pos]
  cases w.heap[b]? with
  | none => rfl
  | some o => cases o <;> simp [h]

theorem recB_parts {r : Rec} (h : recB r = true) : namesB r.names = true ∧ r.suf ≤ 2 ∧ (0 ≤ r.lo ∧ r.lo ≤ 100000) ∧ (0 ≤ r.hi ∧ r.hi ≤ 100000) ∧ (r.num.toList.isEmpty = false → r.num.size = 9) ∧ staysB r.stays = true := by
  simp only [recB, Bool.and_eq_true, decide_eq_true_eq] at h
  obtain ⟨⟨⟨⟨⟨_, h1⟩, h2⟩, h3⟩, h4⟩, h5⟩ := h
  simp only [daysB, inB, Bool.and_eq_true, decide_eq_true_eq] at h3
  refine ⟨h1, h2, by omega, by omega, fun he => ?_, h5⟩
  by_cases h0 : (r.num.size : Int) = 0
  · have : r.num.toList = [] := by rw [ByteArray.toList_eq]; exact List.eq_nil_of_length_eq_zero (by rw [len_size]; omega)
    rw [this] at he; cases he
  · rw [numB_some h0] at h4
    simp only [Bool.and_eq_true, decide_eq_true_eq] at h4
    omega
theorem wordy_of {l : List ByteArray} (h : namesB l = true) : Wordy l ∧ 0 < l.length ∧ l.length ≤ 5 := by
  simp only [namesB, inB, Bool.and_eq_true, decide_eq_true_eq, List.all_eq_true] at h
  refine ⟨fun x hx => ?_, by omega, by omega⟩
  have := h.2 x hx
  simp only [wordB, inB, Bool.and_eq_true, decide_eq_true_eq] at this
  omega

end Go.Proofs.YtoinegfcodnjhaaGreatDoor
