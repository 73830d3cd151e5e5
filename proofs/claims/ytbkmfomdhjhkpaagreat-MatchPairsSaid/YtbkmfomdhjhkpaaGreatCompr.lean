/- How much two valid records agree: the reference's. -/
import Derived.Test.YtbkmfomdhjhkpaaGreatNames
import Derived.Test.YtbkmfomdhjhkpaaGreatPlaces
import Derived.Test.YtbkmfomdhjhkpaaGreatAsk
namespace Go.Proofs.YtbkmfomdhjhkpaaGreat
open Go.RowKit

def oneF (names num born place sa sb : Int) (ta tb : Bool) : Int :=
  if born = 0 ∨ (sa ≠ 0 ∧ sb ≠ 0 ∧ sa ≠ sb) ∨ (names = 0 ∧ num ≠ 3) ∨ (num = 0 ∧ place ≠ 3) ∨ ((ta = true ∨ tb = true) ∧ num ≠ 3 ∧ names ≠ 3) then 0
  else if (num = 3 ∧ 2 ≤ names) ∨ (names = 3 ∧ born = 3 ∧ place = 3 ∧ ta = false ∧ tb = false) then 2 else 1

def matF (u : Rul) (r s : Rec) : Mat :=
  let n := namesS u.l r.names s.names
  let k := numS u.d r.num s.num
  let b := birS u.y r.lo r.hi s.lo s.hi
  let p := placesF u.t r.stays s.stays
  ⟨n, k, b, p, oneF n k b p r.suf s.suf r.twin s.twin⟩

theorem cells_kept {w W : World} {cs : Array Value} {t : TypeId} (h : Below (w.heap.size + 1) (w.alloc (.cells cs t)) W) (i : Nat) : W.cell? ⟨w.heap.size, i, none⟩ = cs[i]? :=
  (h.cell (p := ⟨w.heap.size, i, none⟩) (by show w.heap.size < _; omega)).trans (World.cell?_alloc_new _ _ _ i)
/-- Kept through the region: what was there below block B, and three variables. -/
structure KeptB (B g g1 g2 : Nat) (w0 : World) : Prop where
  a : g < B
  b : g1 < B
  c : g2 < B
  d : B ≤ w0.heap.size
theorem keptC_call {w0 W w1 : World} {B g g1 g2 : Nat} {cu cr cs : Array Value} (hB : KeptB B g g1 g2 w0) (h : Below W.heap.size W w1)
    (hS : Below B w0 (W) ∧ (∀ i, (W).cell? ⟨g, i, none⟩ = cu[i]?) ∧ (∀ i, (W).cell? ⟨g1, i, none⟩ = cr[i]?) ∧ (∀ i, (W).cell? ⟨g2, i, none⟩ = cs[i]?)) :
    Below B w0 (w1) ∧ (∀ i, (w1).cell? ⟨g, i, none⟩ = cu[i]?) ∧ (∀ i, (w1).cell? ⟨g1, i, none⟩ = cr[i]?) ∧ (∀ i, (w1).cell? ⟨g2, i, none⟩ = cs[i]?) := by
  obtain ⟨h1, h2, h3, h4⟩ := hS
  obtain ⟨i1, i2, i3, i4⟩ := hB
  have hz := h1.size
  exact ⟨h1.trans (h.mono (by omega)), fun i => (h.cell (p := ⟨g, i, none⟩) (by show g < _; omega)).trans (h2 i), fun i => (h.cell (p := ⟨g1, i, none⟩) (by show g1 < _; omega)).trans (h3 i), fun i => (h.cell (p := ⟨g2, i, none⟩) (by show g2 < _; omega)).trans (h4 i)⟩
theorem keptC_alloc {w0 W : World} {B g g1 g2 : Nat} {cu cr cs : Array Value} (o : Obj) (hB : KeptB B g g1 g2 w0)
    (hS : Below B w0 (W) ∧ (∀ i, (W).cell? ⟨g, i, none⟩ = cu[i]?) ∧ (∀ i, (W).cell? ⟨g1, i, none⟩ = cr[i]?) ∧ (∀ i, (W).cell? ⟨g2, i, none⟩ = cs[i]?)) :
    Below B w0 (W.alloc o) ∧ (∀ i, (W.alloc o).cell? ⟨g, i, none⟩ = cu[i]?) ∧ (∀ i, (W.alloc o).cell? ⟨g1, i, none⟩ = cr[i]?) ∧ (∀ i, (W.alloc o).cell? ⟨g2, i, none⟩ = cs[i]?) :=
  keptC_call hB ((Below.refl W.heap.size W).alloc (Nat.le_refl _) o) hS
theorem keptC_drew {w0 W : World} {B g g1 g2 : Nat} {cu cr cs : Array Value}
    (hS : Below B w0 (W) ∧ (∀ i, (W).cell? ⟨g, i, none⟩ = cu[i]?) ∧ (∀ i, (W).cell? ⟨g1, i, none⟩ = cr[i]?) ∧ (∀ i, (W).cell? ⟨g2, i, none⟩ = cs[i]?)) :
    Below B w0 (W.drew) ∧ (∀ i, (W.drew).cell? ⟨g, i, none⟩ = cu[i]?) ∧ (∀ i, (W.drew).cell? ⟨g1, i, none⟩ = cr[i]?) ∧ (∀ i, (W.drew).cell? ⟨g2, i, none⟩ = cs[i]?) := ⟨hS.1.drew, hS.2.1, hS.2.2.1, hS.2.2.2⟩
theorem kept_le {w0 W w1 : World} {B : Nat} {R : Prop} (h : Below W.heap.size W w1) (hS : Below B w0 W ∧ R) : w0.heap.size ≤ w1.heap.size := Nat.le_trans hS.1.size h.size
theorem keptC_refill {w0 W : World} {B g g1 g2 : Nat} {cu cr cs : Array Value} {o : Obj} (o' : Obj) (hB : KeptB B g g1 g2 w0) (hs : w0.heap.size ≤ W.heap.size)
    (hS : Below B w0 (W.alloc o) ∧ (∀ i, (W.alloc o).cell? ⟨g, i, none⟩ = cu[i]?) ∧ (∀ i, (W.alloc o).cell? ⟨g1, i, none⟩ = cr[i]?) ∧ (∀ i, (W.alloc o).cell? ⟨g2, i, none⟩ = cs[i]?)) :
    Below B w0 (W.alloc o') ∧ (∀ i, (W.alloc o').cell? ⟨g, i, none⟩ = cu[i]?) ∧ (∀ i, (W.alloc o').cell? ⟨g1, i, none⟩ = cr[i]?) ∧ (∀ i, (W.alloc o').cell? ⟨g2, i, none⟩ = cs[i]?) := by
  obtain ⟨h1, h2, h3, h4⟩ := hS
  obtain ⟨i1, i2, i3, i4⟩ := hB
  have hz := h1.size
  rw [World.size_alloc] at hz
  have e : ∀ p : Addr, p.block < W.heap.size → (W.alloc o').cell? p = (W.alloc o).cell? p := fun p hp =>
    (((Below.refl W.heap.size W).alloc (Nat.le_refl _) o').cell hp).trans (((Below.refl W.heap.size W).alloc (Nat.le_refl _) o).cell hp).symm
  refine ⟨⟨h1.os, h1.tape, h1.output, ?_, ?_⟩, fun i => (e ⟨g, i, none⟩ (by show g < _; omega)).trans (h2 i), fun i => (e ⟨g1, i, none⟩ (by show g1 < _; omega)).trans (h3 i), fun i => (e ⟨g2, i, none⟩ (by show g2 < _; omega)).trans (h4 i)⟩
  · rw [World.size_alloc]; omega
  · intro b hb
    have hb' : b < W.heap.size := by omega
    exact (Below.heap_alloc W o' b hb').trans ((Below.heap_alloc W o b hb').symm.trans (h1.block b hb))
theorem keptC_set {w0 W : World} {B g g1 g2 b o : Nat} {v : Value} {cu cr cs : Array Value} (hB : KeptB B g g1 g2 w0) (hb : B ≤ b)
    (hS : Below B w0 (W) ∧ (∀ i, (W).cell? ⟨g, i, none⟩ = cu[i]?) ∧ (∀ i, (W).cell? ⟨g1, i, none⟩ = cr[i]?) ∧ (∀ i, (W).cell? ⟨g2, i, none⟩ = cs[i]?)) :
    Below B w0 (W.setCell ⟨b, o, none⟩ v) ∧ (∀ i, (W.setCell ⟨b, o, none⟩ v).cell? ⟨g, i, none⟩ = cu[i]?) ∧ (∀ i, (W.setCell ⟨b, o, none⟩ v).cell? ⟨g1, i, none⟩ = cr[i]?) ∧ (∀ i, (W.setCell ⟨b, o, none⟩ v).cell? ⟨g2, i, none⟩ = cs[i]?) := by
  obtain ⟨h1, h2, h3, h4⟩ := hS
  obtain ⟨i1, i2, i3, i4⟩ := hB
  have h := (Below.refl B W).setCell (p := ⟨b, o, none⟩) hb v
  exact ⟨h1.trans h, fun i => (h.cell (p := ⟨g, i, none⟩) i1).trans (h2 i), fun i => (h.cell (p := ⟨g1, i, none⟩) i2).trans (h3 i), fun i => (h.cell (p := ⟨g2, i, none⟩) i3).trans (h4 i)⟩
theorem stored5 {W : World} {b : Nat} {z v0 v1 v2 v3 v4 : Value} (hm : W.cell? ⟨b, 0, none⟩ = some z ∧ W.cell? ⟨b, 1, none⟩ = some z ∧ W.cell? ⟨b, 2, none⟩ = some z ∧ W.cell? ⟨b, 3, none⟩ = some z ∧ W.cell? ⟨b, 4, none⟩ = some z) (i : Nat) (hi : i < 5) :
    (((((W.setCell ⟨b, 0, none⟩ v0).setCell ⟨b, 1, none⟩ v1).setCell ⟨b, 2, none⟩ v2).setCell ⟨b, 3, none⟩ v3).setCell ⟨b, 4, none⟩ v4).cell? ⟨b, i, none⟩ = (#[v0, v1, v2, v3, v4] : Array Value)[i]? := by
  show (W.setCells b 0 [v0, v1, v2, v3, v4]).cell? ⟨b, i, none⟩ = _
  obtain ⟨m0, m1, m2, m3, m4⟩ := hm
  have h := World.cell?_setCells_in b [v0, v1, v2, v3, v4] 0 W (fun j hj => by
    rw [Nat.zero_add]
    match j, hj with
    | 0, _ => rw [m0]; rfl
    | 1, _ => rw [m1]; rfl
    | 2, _ => rw [m2]; rfl
    | 3, _ => rw [m3]; rfl
    | 4, _ => rw [m4]; rfl
    | n + 5, h => exact absurd h (by show ¬ n + 5 < 5; omega)) i hi
  rw [Nat.zero_add] at h
  rw [h, Array.getElem?_eq_getElem (by simpa using hi)]
  simp

/-- What the region itself made, behind a call: block b, of five cells, at or above B. -/
def Made (B b : Nat) (z : Value) (W : World) : Prop := (W.cell? ⟨b, 0, none⟩ = some z ∧ W.cell? ⟨b, 1, none⟩ = some z ∧ W.cell? ⟨b, 2, none⟩ = some z ∧ W.cell? ⟨b, 3, none⟩ = some z ∧ W.cell? ⟨b, 4, none⟩ = some z) ∧ (∀ i, W.frozen? ⟨b, i, none⟩ = false) ∧ b < W.heap.size ∧ B ≤ b
theorem made_one {w0 w W : World} {g g1 g2 B : Nat} {R : Prop} {z : Value} {t : TypeId} (hB : KeptB B g g1 g2 w0) (hs : w0.heap.size ≤ w.heap.size) (h : Below (w.alloc (.cells #[z, z, z, z, z] t)).heap.size (w.alloc (.cells #[z, z, z, z, z] t)) W) (hS : Below B w0 (w.alloc (.cells #[z, z, z, z, z] t)) ∧ R) : ∃ b, b = w.heap.size ∧ Made B b z W := by
  refine ⟨_, rfl, ?_⟩
  have hz := h.size
  have hz' := hS.1.size
  rw [World.size_alloc] at hz hz'
  have hB := hB.d
  have hc := cells_kept (h.mono (by rw [World.size_alloc]; exact Nat.le_refl _))
  exact ⟨⟨hc 0, hc 1, hc 2, hc 3, hc 4⟩, fun i => (h.frozen (p := ⟨w.heap.size, i, none⟩) (by show w.heap.size < _; rw [World.size_alloc]; omega)).trans (World.frozen?_alloc_new _ _ _ i), by omega, by omega⟩
theorem made_one' {w0 w W : World} {g g1 g2 B : Nat} {R : Prop} {z : Value} {t : TypeId} (hB : KeptB B g g1 g2 w0) (hs : w0.heap.size ≤ w.heap.size) (h : Below (w.alloc (.cells #[z, z, z, z, z] t)).drew.heap.size (w.alloc (.cells #[z, z, z, z, z] t)).drew W) (hS : Below B w0 (w.alloc (.cells #[z, z, z, z, z] t)).drew ∧ R) : ∃ b, b = w.heap.size ∧ Made B b z W :=
  made_one hB hs ((Below.refl _ _).drew.trans h) (R := True) ⟨⟨hS.1.os, hS.1.tape, hS.1.output, hS.1.size, hS.1.block⟩, trivial⟩
theorem made_on {w W : World} {B b : Nat} {z : Value} (h : Below w.heap.size w W) (hm : Made B b z w) : Made B b z W := by
  obtain ⟨⟨m0, m1, m2, m3, m4⟩, hf, hb, hg⟩ := hm
  have e : ∀ i v, w.cell? ⟨b, i, none⟩ = some v → W.cell? ⟨b, i, none⟩ = some v := fun i v hv => (h.cell (p := ⟨b, i, none⟩) (by exact hb)).trans hv
  exact ⟨⟨e _ _ m0, e _ _ m1, e _ _ m2, e _ _ m3, e _ _ m4⟩, fun i => (h.frozen (p := ⟨b, i, none⟩) (by exact hb)).trans (hf i), Nat.lt_of_lt_of_le hb h.size, hg⟩

theorem Strs.late {w0 W : World} {B g : Nat} {R : Prop} {A : Option Addr} {l : List ByteArray} (h : Strs w0 B A l) (hB : B ≤ g) (hg : g ≤ w0.heap.size) (hb : Below g w0 W ∧ R) : Strs W W.heap.size A l := ((h.more hB).below hb.1).more (by have := hb.1.size; omega)
theorem Stays.late {w0 W : World} {B g : Nat} {R : Prop} {A : Option Addr} {l : List Stay} (h : Stays w0 B A l) (hB : B ≤ g) (hg : g ≤ w0.heap.size) (hb : Below g w0 W ∧ R) : Stays W W.heap.size A l := ((h.more hB).below hb.1).more (by have := hb.1.size; omega)

theorem below_set5 {B : Nat} {a W : World} (h : Below B a W) {b : Nat} (hb : B ≤ b) (v0 v1 v2 v3 v4 : Value) : Below B a (((((W.setCell ⟨b, 0, none⟩ v0).setCell ⟨b, 1, none⟩ v1).setCell ⟨b, 2, none⟩ v2).setCell ⟨b, 3, none⟩ v3).setCell ⟨b, 4, none⟩ v4) :=
  ((((h.setCell (p := ⟨b, 0, none⟩) hb v0).setCell (p := ⟨b, 1, none⟩) hb v1).setCell (p := ⟨b, 2, none⟩) hb v2).setCell (p := ⟨b, 3, none⟩) hb v3).setCell (p := ⟨b, 4, none⟩) hb v4
theorem meetA {w0 W : World} {B g g1 g2 bm : Nat} {cu cr cs : Array Value} {z v0 v1 v2 v3 v4 : Value} (hS : Below B w0 (((((W.setCell ⟨bm, 0, none⟩ v0).setCell ⟨bm, 1, none⟩ v1).setCell ⟨bm, 2, none⟩ v2).setCell ⟨bm, 3, none⟩ v3).setCell ⟨bm, 4, none⟩ v4) ∧ (∀ i, (((((W.setCell ⟨bm, 0, none⟩ v0).setCell ⟨bm, 1, none⟩ v1).setCell ⟨bm, 2, none⟩ v2).setCell ⟨bm, 3, none⟩ v3).setCell ⟨bm, 4, none⟩ v4).cell? ⟨g, i, none⟩ = cu[i]?) ∧ (∀ i, (((((W.setCell ⟨bm, 0, none⟩ v0).setCell ⟨bm, 1, none⟩ v1).setCell ⟨bm, 2, none⟩ v2).setCell ⟨bm, 3, none⟩ v3).setCell ⟨bm, 4, none⟩ v4).cell? ⟨g1, i, none⟩ = cr[i]?) ∧ (∀ i, (((((W.setCell ⟨bm, 0, none⟩ v0).setCell ⟨bm, 1, none⟩ v1).setCell ⟨bm, 2, none⟩ v2).setCell ⟨bm, 3, none⟩ v3).setCell ⟨bm, 4, none⟩ v4).cell? ⟨g2, i, none⟩ = cs[i]?))
    (hm : W.cell? ⟨bm, 0, none⟩ = some z ∧ W.cell? ⟨bm, 1, none⟩ = some z ∧ W.cell? ⟨bm, 2, none⟩ = some z ∧ W.cell? ⟨bm, 3, none⟩ = some z ∧ W.cell? ⟨bm, 4, none⟩ = some z) (mf : ∀ i, W.frozen? ⟨bm, i, none⟩ = false) (mg : B ≤ bm) :
    ∃ b : Nat, Value.pointer (some ⟨bm, 0, none⟩) = .pointer (some ⟨b, 0, none⟩) ∧ B ≤ b ∧ (((((W.setCell ⟨bm, 0, none⟩ v0).setCell ⟨bm, 1, none⟩ v1).setCell ⟨bm, 2, none⟩ v2).setCell ⟨bm, 3, none⟩ v3).setCell ⟨bm, 4, none⟩ v4).cell? ⟨b, 0, none⟩ = some v0 ∧ (((((W.setCell ⟨bm, 0, none⟩ v0).setCell ⟨bm, 1, none⟩ v1).setCell ⟨bm, 2, none⟩ v2).setCell ⟨bm, 3, none⟩ v3).setCell ⟨bm, 4, none⟩ v4).cell? ⟨b, 1, none⟩ = some v1 ∧ (((((W.setCell ⟨bm, 0, none⟩ v0).setCell ⟨bm, 1, none⟩ v1).setCell ⟨bm, 2, none⟩ v2).setCell ⟨bm, 3, none⟩ v3).setCell ⟨bm, 4, none⟩ v4).cell? ⟨b, 2, none⟩ = some v2 ∧ (((((W.setCell ⟨bm, 0, none⟩ v0).setCell ⟨bm, 1, none⟩ v1).setCell ⟨bm, 2, none⟩ v2).setCell ⟨bm, 3, none⟩ v3).setCell ⟨bm, 4, none⟩ v4).cell? ⟨b, 3, none⟩ = some v3 ∧ (((((W.setCell ⟨bm, 0, none⟩ v0).setCell ⟨bm, 1, none⟩ v1).setCell ⟨bm, 2, none⟩ v2).setCell ⟨bm, 3, none⟩ v3).setCell ⟨bm, 4, none⟩ v4).cell? ⟨b, 4, none⟩ = some v4 ∧ (∀ i, (((((W.setCell ⟨bm, 0, none⟩ v0).setCell ⟨bm, 1, none⟩ v1).setCell ⟨bm, 2, none⟩ v2).setCell ⟨bm, 3, none⟩ v3).setCell ⟨bm, 4, none⟩ v4).frozen? ⟨b, i, none⟩ = false) ∧ (∀ i, (((((W.setCell ⟨bm, 0, none⟩ v0).setCell ⟨bm, 1, none⟩ v1).setCell ⟨bm, 2, none⟩ v2).setCell ⟨bm, 3, none⟩ v3).setCell ⟨bm, 4, none⟩ v4).cell? ⟨g1, i, none⟩ = cr[i]?) ∧ (∀ i, (((((W.setCell ⟨bm, 0, none⟩ v0).setCell ⟨bm, 1, none⟩ v1).setCell ⟨bm, 2, none⟩ v2).setCell ⟨bm, 3, none⟩ v3).setCell ⟨bm, 4, none⟩ v4).cell? ⟨g2, i, none⟩ = cs[i]?) ∧ Below B w0 (((((W.setCell ⟨bm, 0, none⟩ v0).setCell ⟨bm, 1, none⟩ v1).setCell ⟨bm, 2, none⟩ v2).setCell ⟨bm, 3, none⟩ v3).setCell ⟨bm, 4, none⟩ v4) :=
  ⟨bm, rfl, mg, stored5 hm 0 (by omega), stored5 hm 1 (by omega), stored5 hm 2 (by omega), stored5 hm 3 (by omega), stored5 hm 4 (by omega), fun i => by simp only [World.frozen?_setCell, mf], hS.2.2.1, hS.2.2.2, hS.1⟩
theorem meetB' {w0 W : World} {B g g1 g2 : Nat} {cu cr cs : Array Value} {v0 v1 v2 v3 v4 : Value} {t : TypeId} (hB : KeptB B g g1 g2 w0) (hs : w0.heap.size ≤ W.heap.size) (hS : Below B w0 (W.alloc (.cells #[v0, v1, v2, v3, v4] t)) ∧ (∀ i, (W.alloc (.cells #[v0, v1, v2, v3, v4] t)).cell? ⟨g, i, none⟩ = cu[i]?) ∧ (∀ i, (W.alloc (.cells #[v0, v1, v2, v3, v4] t)).cell? ⟨g1, i, none⟩ = cr[i]?) ∧ (∀ i, (W.alloc (.cells #[v0, v1, v2, v3, v4] t)).cell? ⟨g2, i, none⟩ = cs[i]?)) :
    ∃ b : Nat, Value.pointer (some ⟨W.heap.size, 0, none⟩) = .pointer (some ⟨b, 0, none⟩) ∧ B ≤ b ∧ (W.alloc (.cells #[v0, v1, v2, v3, v4] t)).cell? ⟨b, 0, none⟩ = some v0 ∧ (W.alloc (.cells #[v0, v1, v2, v3, v4] t)).cell? ⟨b, 1, none⟩ = some v1 ∧ (W.alloc (.cells #[v0, v1, v2, v3, v4] t)).cell? ⟨b, 2, none⟩ = some v2 ∧ (W.alloc (.cells #[v0, v1, v2, v3, v4] t)).cell? ⟨b, 3, none⟩ = some v3 ∧ (W.alloc (.cells #[v0, v1, v2, v3, v4] t)).cell? ⟨b, 4, none⟩ = some v4 ∧ (∀ i, (W.alloc (.cells #[v0, v1, v2, v3, v4] t)).frozen? ⟨b, i, none⟩ = false) ∧ (∀ i, (W.alloc (.cells #[v0, v1, v2, v3, v4] t)).cell? ⟨g1, i, none⟩ = cr[i]?) ∧ (∀ i, (W.alloc (.cells #[v0, v1, v2, v3, v4] t)).cell? ⟨g2, i, none⟩ = cs[i]?) ∧ Below B w0 (W.alloc (.cells #[v0, v1, v2, v3, v4] t)) := by
  have h1 := hB.d
  exact ⟨W.heap.size, rfl, by omega, World.cell?_alloc_new _ _ _ 0, World.cell?_alloc_new _ _ _ 1, World.cell?_alloc_new _ _ _ 2, World.cell?_alloc_new _ _ _ 3, World.cell?_alloc_new _ _ _ 4, fun i => World.frozen?_alloc_new _ _ _ i, hS.2.2.1, hS.2.2.2, hS.1⟩

theorem oneF_stop {n k b p sa sb : Int} {ta tb ba bt : Bool} (hA : decide (sa ≠ 0 ∧ sb ≠ 0 ∧ sa ≠ sb) = ba) (hT : ((ta || tb) && decide (k ≠ 3 ∧ n ≠ 3)) = bt)
    (hE : (decide (b = 0) || ba || (decide (n = 0) && decide (k ≠ 3)) || (decide (k = 0) && decide (p ≠ 3)) || bt) = true) : oneF n k b p sa sb ta tb = 0 := by
  subst hA; subst hT
  simp only [Bool.or_eq_true, Bool.and_eq_true, decide_eq_true_eq] at hE
  rw [oneF, if_pos]
  rcases hE with (((h | h) | h) | h) | h
  · exact .inl h
  · exact .inr (.inl h)
  · exact .inr (.inr (.inl h))
  · exact .inr (.inr (.inr (.inl h)))
  · exact .inr (.inr (.inr (.inr ⟨h.1, h.2⟩)))
theorem oneF_go {n k b p sa sb : Int} {ta tb ba bt : Bool} (hA : decide (sa ≠ 0 ∧ sb ≠ 0 ∧ sa ≠ sb) = ba) (hT : ((ta || tb) && decide (k ≠ 3 ∧ n ≠ 3)) = bt)
    (hE : (decide (b = 0) || ba || (decide (n = 0) && decide (k ≠ 3)) || (decide (k = 0) && decide (p ≠ 3)) || bt) = false) :
    oneF n k b p sa sb ta tb = if ((decide (k = 3) && decide (2 ≤ n)) || (decide (n = 3) && decide (b = 3) && decide (p = 3) && !ta && !tb)) = true then 2 else 1 := by
  subst hA; subst hT
  rw [oneF, if_neg]
  · simp only [Bool.or_eq_true, Bool.and_eq_true, decide_eq_true_eq, Bool.not_eq_true', and_assoc]
  · intro hc
    have : (decide (b = 0) || decide (sa ≠ 0 ∧ sb ≠ 0 ∧ sa ≠ sb) || (decide (n = 0) && decide (k ≠ 3)) || (decide (k = 0) && decide (p ≠ 3)) || ((ta || tb) && decide (k ≠ 3 ∧ n ≠ 3))) = true := by
      simp only [Bool.or_eq_true, Bool.and_eq_true, decide_eq_true_eq]
      rcases hc with h | h | h | h | h
      · exact .inl (.inl (.inl (.inl h)))
      · exact .inl (.inl (.inl (.inr h)))
      · exact .inl (.inl (.inr h))
      · exact .inl (.inr h)
      · exact .inr ⟨h.1, h.2⟩
    rw [this] at hE; cases hE
theorem cell_set_eq {w : World} {b i : Nat} {z v : Value} (h : w.cell? ⟨b, i, none⟩ = some z) : (w.setCell ⟨b, i, none⟩ v).cell? ⟨b, i, none⟩ = some v := by
  have := World.cell?_setCells_in b [v] i w (fun j hj => by
    obtain rfl : j = 0 := by simpa using hj
    rw [Nat.add_zero, h]; rfl) 0 (by simp)
  simpa [World.setCells] using this
theorem cell_set_ne {w : World} {b i j : Nat} {v : Value} (h : i ≠ j) : (w.setCell ⟨b, i, none⟩ v).cell? ⟨b, j, none⟩ = w.cell? ⟨b, j, none⟩ := by
  simp only [World.cell?, World.setCell, Array.getElem?_modify, if_pos]
  cases w.heap[b]? with
  | none => rfl
  | some o => cases o <;> simp [h]

theorem recB_parts {r : Rec} (h : recB r = true) : namesB r.names = true ∧ r.suf ≤ 2 ∧ (0 ≤ r.lo ∧ r.lo ≤ 100000) ∧ (0 ≤ r.hi ∧ r.hi ≤ 100000) ∧ (r.num.toList.isEmpty = false → r.num.size = 9) ∧ staysB r.stays = true := by
  simp only [recB, Bool.and_eq_true, decide_eq_true_eq] at h
  obtain ⟨⟨⟨⟨⟨_, h1⟩, h2⟩, h3⟩, h4⟩, h5⟩ := h
  simp only [daysB, inB, Bool.and_eq_true, decide_eq_true_eq] at h3
  refine ⟨h1, h2, by omega, by omega, fun he => ?_, h5⟩
  by_cases h0 : (r.num.size : Int) = 0
  · have : r.num.toList = [] := by rw [ByteArray.toList_eq]; exact List.eq_nil_of_length_eq_zero (by rw [len_size]; omega)
    rw [this] at he; cases he
  · rw [numB_some h0] at h4
    simp only [Bool.and_eq_true, decide_eq_true_eq] at h4
    omega
theorem wordy_of {l : List ByteArray} (h : namesB l = true) : Wordy l ∧ 0 < l.length ∧ l.length ≤ 5 := by
  simp only [namesB, inB, Bool.and_eq_true, decide_eq_true_eq, List.all_eq_true] at h
  refine ⟨fun x hx => ?_, by omega, by omega⟩
  have := h.2 x hx
  simp only [wordB, inB, Bool.and_eq_true, decide_eq_true_eq] at this
  omega

set_option maxRecDepth 100000 in
set_option maxHeartbeats 8000000 in
theorem refCompare_in (u : Rul) (r s : Rec) (A A' D D' : Option Addr) (c c' d d' : Nat) (w : World) (h : RecAt w w.heap.size A D r) (h' : RecAt w w.heap.size A' D' s) (hr : recB r = true) (hs : recB s = true) (hc : r.names.length ≤ c) (hc' : s.names.length ≤ c') :
    Calls Tryz.prog 34 #[.agg #[.int .i64 u.l, .int .i64 u.d, .int .i64 u.y, .int .i64 u.t], .agg #[.int .i64 r.id, .slice A r.names.length c, .int .u8 r.suf, .int .i64 r.lo, .int .i64 r.hi, .string r.num, .bool r.twin, .slice D r.stays.length d], .agg #[.int .i64 s.id, .slice A' s.names.length c', .int .u8 s.suf, .int .i64 s.lo, .int .i64 s.hi, .string s.num, .bool s.twin, .slice D' s.stays.length d']] w fun e w' => e = .returned (.agg #[.int .u8 (matF u r s).names, .int .u8 (matF u r s).num, .int .u8 (matF u r s).born, .int .u8 (matF u r s).place, .int .u8 (matF u r s).one]) ∧ Below w.heap.size w w' := by
  have b0 : Below w.heap.size w ((((w.alloc (.cells #[.int .i64 u.l, .int .i64 u.d, .int .i64 u.y, .int .i64 u.t] 23)).alloc (.cells #[.int .i64 r.id, .slice A r.names.length c, .int .u8 r.suf, .int .i64 r.lo, .int .i64 r.hi, .string r.num, .bool r.twin, .slice D r.stays.length d] 47)).alloc (.cells #[.int .i64 s.id, .slice A' s.names.length c', .int .u8 s.suf, .int .i64 s.lo, .int .i64 s.hi, .string s.num, .bool s.twin, .slice D' s.stays.length d'] 47)).alloc (.cells #[.int .u8 0, .int .u8 0, .int .u8 0, .int .u8 0, .int .u8 0] 54)) := ((((Below.refl _ _).alloc (Nat.le_refl _) _).alloc (by simp) _).alloc (by simp; omega) _).alloc (by simp; omega) _
  have hz : ((((w.alloc (.cells #[.int .i64 u.l, .int .i64 u.d, .int .i64 u.y, .int .i64 u.t] 23)).alloc (.cells #[.int .i64 r.id, .slice A r.names.length c, .int .u8 r.suf, .int .i64 r.lo, .int .i64 r.hi, .string r.num, .bool r.twin, .slice D r.stays.length d] 47)).alloc (.cells #[.int .i64 s.id, .slice A' s.names.length c', .int .u8 s.suf, .int .i64 s.lo, .int .i64 s.hi, .string s.num, .bool s.twin, .slice D' s.stays.length d'] 47)).alloc (.cells #[.int .u8 0, .int .u8 0, .int .u8 0, .int .u8 0, .int .u8 0] 54)).heap.size = w.heap.size + 4 := by simp
  have c0 : ∀ i, ((((w.alloc (.cells #[.int .i64 u.l, .int .i64 u.d, .int .i64 u.y, .int .i64 u.t] 23)).alloc (.cells #[.int .i64 r.id, .slice A r.names.length c, .int .u8 r.suf, .int .i64 r.lo, .int .i64 r.hi, .string r.num, .bool r.twin, .slice D r.stays.length d] 47)).alloc (.cells #[.int .i64 s.id, .slice A' s.names.length c', .int .u8 s.suf, .int .i64 s.lo, .int .i64 s.hi, .string s.num, .bool s.twin, .slice D' s.stays.length d'] 47)).alloc (.cells #[.int .u8 0, .int .u8 0, .int .u8 0, .int .u8 0, .int .u8 0] 54)).cell? ⟨w.heap.size, i, none⟩ = (#[.int .i64 u.l, .int .i64 u.d, .int .i64 u.y, .int .i64 u.t] : Array Value)[i]? := cells_kept ((((Below.refl _ _).alloc (by simp) _).alloc (by simp) _).alloc (by simp) _)
  have c1 : ∀ i, ((((w.alloc (.cells #[.int .i64 u.l, .int .i64 u.d, .int .i64 u.y, .int .i64 u.t] 23)).alloc (.cells #[.int .i64 r.id, .slice A r.names.length c, .int .u8 r.suf, .int .i64 r.lo, .int .i64 r.hi, .string r.num, .bool r.twin, .slice D r.stays.length d] 47)).alloc (.cells #[.int .i64 s.id, .slice A' s.names.length c', .int .u8 s.suf, .int .i64 s.lo, .int .i64 s.hi, .string s.num, .bool s.twin, .slice D' s.stays.length d'] 47)).alloc (.cells #[.int .u8 0, .int .u8 0, .int .u8 0, .int .u8 0, .int .u8 0] 54)).cell? ⟨w.heap.size + 1, i, none⟩ = (#[.int .i64 r.id, .slice A r.names.length c, .int .u8 r.suf, .int .i64 r.lo, .int .i64 r.hi, .string r.num, .bool r.twin, .slice D r.stays.length d] : Array Value)[i]? := by
    have := cells_kept (w := w.alloc (.cells #[.int .i64 u.l, .int .i64 u.d, .int .i64 u.y, .int .i64 u.t] 23)) (((Below.refl _ _).alloc (by simp) (.cells #[.int .i64 s.id, .slice A' s.names.length c', .int .u8 s.suf, .int .i64 s.lo, .int .i64 s.hi, .string s.num, .bool s.twin, .slice D' s.stays.length d'] 47)).alloc (by simp) (.cells #[.int .u8 0, .int .u8 0, .int .u8 0, .int .u8 0, .int .u8 0] 54)) (cs := #[.int .i64 r.id, .slice A r.names.length c, .int .u8 r.suf, .int .i64 r.lo, .int .i64 r.hi, .string r.num, .bool r.twin, .slice D r.stays.length d]) (t := 47)
    simpa only [World.size_alloc] using this
  have c2 : ∀ i, ((((w.alloc (.cells #[.int .i64 u.l, .int .i64 u.d, .int .i64 u.y, .int .i64 u.t] 23)).alloc (.cells #[.int .i64 r.id, .slice A r.names.length c, .int .u8 r.suf, .int .i64 r.lo, .int .i64 r.hi, .string r.num, .bool r.twin, .slice D r.stays.length d] 47)).alloc (.cells #[.int .i64 s.id, .slice A' s.names.length c', .int .u8 s.suf, .int .i64 s.lo, .int .i64 s.hi, .string s.num, .bool s.twin, .slice D' s.stays.length d'] 47)).alloc (.cells #[.int .u8 0, .int .u8 0, .int .u8 0, .int .u8 0, .int .u8 0] 54)).cell? ⟨w.heap.size + 1 + 1, i, none⟩ = (#[.int .i64 s.id, .slice A' s.names.length c', .int .u8 s.suf, .int .i64 s.lo, .int .i64 s.hi, .string s.num, .bool s.twin, .slice D' s.stays.length d'] : Array Value)[i]? := by
    have := cells_kept (w := (w.alloc (.cells #[.int .i64 u.l, .int .i64 u.d, .int .i64 u.y, .int .i64 u.t] 23)).alloc (.cells #[.int .i64 r.id, .slice A r.names.length c, .int .u8 r.suf, .int .i64 r.lo, .int .i64 r.hi, .string r.num, .bool r.twin, .slice D r.stays.length d] 47)) ((Below.refl _ _).alloc (by simp) (.cells #[.int .u8 0, .int .u8 0, .int .u8 0, .int .u8 0, .int .u8 0] 54)) (cs := #[.int .i64 s.id, .slice A' s.names.length c', .int .u8 s.suf, .int .i64 s.lo, .int .i64 s.hi, .string s.num, .bool s.twin, .slice D' s.stays.length d']) (t := 47)
    simpa only [World.size_alloc] using this
  have c3 : ∀ i, ((((w.alloc (.cells #[.int .i64 u.l, .int .i64 u.d, .int .i64 u.y, .int .i64 u.t] 23)).alloc (.cells #[.int .i64 r.id, .slice A r.names.length c, .int .u8 r.suf, .int .i64 r.lo, .int .i64 r.hi, .string r.num, .bool r.twin, .slice D r.stays.length d] 47)).alloc (.cells #[.int .i64 s.id, .slice A' s.names.length c', .int .u8 s.suf, .int .i64 s.lo, .int .i64 s.hi, .string s.num, .bool s.twin, .slice D' s.stays.length d'] 47)).alloc (.cells #[.int .u8 0, .int .u8 0, .int .u8 0, .int .u8 0, .int .u8 0] 54)).cell? ⟨w.heap.size + 1 + 1 + 1, i, none⟩ = (#[.int .u8 0, .int .u8 0, .int .u8 0, .int .u8 0, .int .u8 0] : Array Value)[i]? := fun i => by
    have := World.cell?_alloc_new ((w.alloc (.cells #[.int .i64 u.l, .int .i64 u.d, .int .i64 u.y, .int .i64 u.t] 23)).alloc (.cells #[.int .i64 r.id, .slice A r.names.length c, .int .u8 r.suf, .int .i64 r.lo, .int .i64 r.hi, .string r.num, .bool r.twin, .slice D r.stays.length d] 47) |>.alloc (.cells #[.int .i64 s.id, .slice A' s.names.length c', .int .u8 s.suf, .int .i64 s.lo, .int .i64 s.hi, .string s.num, .bool s.twin, .slice D' s.stays.length d'] 47)) #[.int .u8 0, .int .u8 0, .int .u8 0, .int .u8 0, .int .u8 0] 54 i
    simpa only [World.size_alloc] using this
  have f3 : ∀ i, ((((w.alloc (.cells #[.int .i64 u.l, .int .i64 u.d, .int .i64 u.y, .int .i64 u.t] 23)).alloc (.cells #[.int .i64 r.id, .slice A r.names.length c, .int .u8 r.suf, .int .i64 r.lo, .int .i64 r.hi, .string r.num, .bool r.twin, .slice D r.stays.length d] 47)).alloc (.cells #[.int .i64 s.id, .slice A' s.names.length c', .int .u8 s.suf, .int .i64 s.lo, .int .i64 s.hi, .string s.num, .bool s.twin, .slice D' s.stays.length d'] 47)).alloc (.cells #[.int .u8 0, .int .u8 0, .int .u8 0, .int .u8 0, .int .u8 0] 54)).frozen? ⟨w.heap.size + 1 + 1 + 1, i, none⟩ = false := fun i => by
    have := World.frozen?_alloc_new (w := ((w.alloc (.cells #[.int .i64 u.l, .int .i64 u.d, .int .i64 u.y, .int .i64 u.t] 23)).alloc (.cells #[.int .i64 r.id, .slice A r.names.length c, .int .u8 r.suf, .int .i64 r.lo, .int .i64 r.hi, .string r.num, .bool r.twin, .slice D r.stays.length d] 47) |>.alloc (.cells #[.int .i64 s.id, .slice A' s.names.length c', .int .u8 s.suf, .int .i64 s.lo, .int .i64 s.hi, .string s.num, .bool s.twin, .slice D' s.stays.length d'] 47))) #[.int .u8 0, .int .u8 0, .int .u8 0, .int .u8 0, .int .u8 0] 54 i
    simpa only [World.size_alloc] using this
  obtain ⟨pn, psuf, plo, phi, pnum, pst⟩ := recB_parts hr
  obtain ⟨qn, qsuf, qlo, qhi, qnum, qst⟩ := recB_parts hs
  obtain ⟨wr, pr0, pr5⟩ := wordy_of pn
  obtain ⟨ws, qs0, qs5⟩ := wordy_of qn
  have Hn := Lib.hid (fun W h1 h2 => refNames_any u r.names s.names A A' c c' W h1 h2 pr5 qs5 hc hc' wr ws pr0 qs0)
  have Hk := Lib.hid (fun W => refNumbers_any u r.num s.num W pnum qnum)
  have Hb := Lib.hid (fun W => refBirths_any u r.lo r.hi s.lo s.hi W plo phi qlo qhi)
  have Hp := Lib.hid (fun W h1 h2 => refPlaces_any u r.stays s.stays D D' d d' W h1 h2 pst qst)
  have tn := h.strs.below b0
  have tn' := h'.strs.below b0
  have ts := h.stays.below b0
  have ts' := h'.stays.below b0
  dsimp only [matF]
  generalize namesS u.l r.names s.names = vn at Hn ⊢
  generalize numS u.d r.num s.num = vk at Hk ⊢
  generalize birS u.y r.lo r.hi s.lo s.hi = vb at Hb ⊢
  generalize placesF u.t r.stays s.stays = vp at Hp ⊢
  clear h h' hr hs pn plo phi pnum pst qn qlo qhi qnum qst wr ws pr0 pr5 qs0 qs5
  go_enter Tryz.func34, Tryz.ntmps34
  go_upto_region 1 with fail
  generalize hW0 : (((w.alloc (.cells #[.int .i64 u.l, .int .i64 u.d, .int .i64 u.y, .int .i64 u.t] 23)).alloc (.cells #[.int .i64 r.id, .slice A r.names.length c, .int .u8 r.suf, .int .i64 r.lo, .int .i64 r.hi, .string r.num, .bool r.twin, .slice D r.stays.length d] 47)).alloc (.cells #[.int .i64 s.id, .slice A' s.names.length c', .int .u8 s.suf, .int .i64 s.lo, .int .i64 s.hi, .string s.num, .bool s.twin, .slice D' s.stays.length d'] 47)).alloc (.cells #[.int .u8 0, .int .u8 0, .int .u8 0, .int .u8 0, .int .u8 0] 54) = W0 at *
  have hKB : KeptB (w.heap.size + 4) w.heap.size (w.heap.size + 1) (w.heap.size + 1 + 1) W0 := ⟨by omega, by omega, by omega, by omega⟩
  have hz3 : w.heap.size ≤ w.heap.size + 4 := by omega
  have hz5 : w.heap.size + 4 ≤ W0.heap.size := by omega
  have hs0 : W0.heap.size ≤ W0.heap.size := Nat.le_refl _
  have hb34 : w.heap.size + 1 + 1 + 1 < w.heap.size + 4 := by omega
  have hb03 : w.heap.size ≤ w.heap.size + 1 + 1 + 1 := by omega
  have hd0 : Below (w.heap.size + 4) W0 W0.drew := (Below.refl _ _).drew
  clear hz hW0
  generalize w.heap.size + 4 = B4 at *
  generalize hg3 : w.heap.size + 1 + 1 + 1 = B3 at *
  generalize hg2 : w.heap.size + 1 + 1 = g2 at *
  generalize hg1 : w.heap.size + 1 = g1 at *
  generalize hg0 : w.heap.size = g0 at *
  clear hg2 hg1 hg3
  go_cut [7] (fun s7 wx => ∃ bm : Nat, s7 = .pointer (some ⟨bm, 0, none⟩) ∧ B4 ≤ bm ∧ wx.cell? ⟨bm, 0, none⟩ = some (.int .u8 vn) ∧ wx.cell? ⟨bm, 1, none⟩ = some (.int .u8 vk) ∧ wx.cell? ⟨bm, 2, none⟩ = some (.int .u8 vb) ∧ wx.cell? ⟨bm, 3, none⟩ = some (.int .u8 vp) ∧ wx.cell? ⟨bm, 4, none⟩ = some (.int .u8 0) ∧ (∀ i, wx.frozen? ⟨bm, i, none⟩ = false) ∧ (∀ i, wx.cell? ⟨g1, i, none⟩ = (#[.int .i64 r.id, .slice A r.names.length c, .int .u8 r.suf, .int .i64 r.lo, .int .i64 r.hi, .string r.num, .bool r.twin, .slice D r.stays.length d] : Array Value)[i]?) ∧ (∀ i, wx.cell? ⟨g2, i, none⟩ = (#[.int .i64 s.id, .slice A' s.names.length c', .int .u8 s.suf, .int .i64 s.lo, .int .i64 s.hi, .string s.num, .bool s.twin, .slice D' s.stays.length d'] : Array Value)[i]?) ∧ Below B4 W0 wx)
  case first =>
    go_region_held3 (fun W => Below B4 W0 W ∧ (∀ i, W.cell? ⟨g0, i, none⟩ = (#[.int .i64 u.l, .int .i64 u.d, .int .i64 u.y, .int .i64 u.t] : Array Value)[i]?) ∧ (∀ i, W.cell? ⟨g1, i, none⟩ = (#[.int .i64 r.id, .slice A r.names.length c, .int .u8 r.suf, .int .i64 r.lo, .int .i64 r.hi, .string r.num, .bool r.twin, .slice D r.stays.length d] : Array Value)[i]?) ∧ (∀ i, W.cell? ⟨g2, i, none⟩ = (#[.int .i64 s.id, .slice A' s.names.length c', .int .u8 s.suf, .int .i64 s.lo, .int .i64 s.hi, .string s.num, .bool s.twin, .slice D' s.stays.length d'] : Array Value)[i]?)) (first | (with_reducible refine keptC_call hKB (by with_reducible assumption) (by with_reducible assumption)) | (with_reducible refine keptC_alloc (.cells #[.int .u8 0, .int .u8 0, .int .u8 0, .int .u8 0, .int .u8 0] 54) hKB (by with_reducible assumption)) | (with_reducible refine keptC_refill (o := (.cells #[.int .u8 0, .int .u8 0, .int .u8 0, .int .u8 0, .int .u8 0] 54)) _ hKB (by with_reducible assumption) (by with_reducible assumption)) | (with_reducible refine keptC_set hKB (by with_reducible assumption) (keptC_set hKB (by with_reducible assumption) (keptC_set hKB (by with_reducible assumption) (keptC_set hKB (by with_reducible assumption) (keptC_set hKB (by with_reducible assumption) ?_)))); with_reducible assumption) | (exact ⟨hd0, c0, c1, c2⟩) | (exact keptC_drew (keptC_alloc (.cells #[.int .u8 0, .int .u8 0, .int .u8 0, .int .u8 0, .int .u8 0] 54) hKB ⟨Below.refl _ _, c0, c1, c2⟩)) | (simp [*]; done))
      (first
        | (go_at_call 62; refine (Hn.out _ (tn.late (g := B4) hz3 hz5 (by with_reducible assumption)) (tn'.late (g := B4) hz3 hz5 (by with_reducible assumption))).mono ?_; rintro e w1 ⟨rfl, hb1⟩; have hs1 := kept_le hb1 (by with_reducible assumption); first | ((with_reducible (have hq := made_one hKB (by with_reducible assumption) hb1 (by with_reducible assumption)));  obtain ⟨bm, hbm, hMade⟩ := hq; have hM := hMade; obtain ⟨⟨m0, m1, m2, m3, m4⟩, mf, ml, mg⟩ := hM; rw [← hbm]; clear hbm) | ((with_reducible (have hq := made_one' hKB (by with_reducible assumption) hb1 (by with_reducible assumption)));  obtain ⟨bm, hbm, hMade⟩ := hq; have hM := hMade; obtain ⟨⟨m0, m1, m2, m3, m4⟩, mf, ml, mg⟩ := hM; rw [← hbm]; clear hbm) | ((with_reducible (have hq := made_on hb1 (by with_reducible assumption)));  have hM := hq; obtain ⟨⟨m0, m1, m2, m3, m4⟩, mf, ml, mg⟩ := hM) | skip)
        | (go_at_call 63; refine (Hk.out _).mono ?_; rintro e w2 ⟨rfl, hb2⟩; have hs2 := kept_le hb2 (by with_reducible assumption); first | ((with_reducible (have hq := made_one hKB (by with_reducible assumption) hb2 (by with_reducible assumption)));  obtain ⟨bm, hbm, hMade⟩ := hq; have hM := hMade; obtain ⟨⟨m0, m1, m2, m3, m4⟩, mf, ml, mg⟩ := hM; rw [← hbm]; clear hbm) | ((with_reducible (have hq := made_one' hKB (by with_reducible assumption) hb2 (by with_reducible assumption)));  obtain ⟨bm, hbm, hMade⟩ := hq; have hM := hMade; obtain ⟨⟨m0, m1, m2, m3, m4⟩, mf, ml, mg⟩ := hM; rw [← hbm]; clear hbm) | ((with_reducible (have hq := made_on hb2 (by with_reducible assumption)));  have hM := hq; obtain ⟨⟨m0, m1, m2, m3, m4⟩, mf, ml, mg⟩ := hM) | skip)
        | (go_at_call 64; refine (Hb.out _).mono ?_; rintro e w3 ⟨rfl, hb3⟩; have hs3 := kept_le hb3 (by with_reducible assumption); first | ((with_reducible (have hq := made_one hKB (by with_reducible assumption) hb3 (by with_reducible assumption)));  obtain ⟨bm, hbm, hMade⟩ := hq; have hM := hMade; obtain ⟨⟨m0, m1, m2, m3, m4⟩, mf, ml, mg⟩ := hM; rw [← hbm]; clear hbm) | ((with_reducible (have hq := made_one' hKB (by with_reducible assumption) hb3 (by with_reducible assumption)));  obtain ⟨bm, hbm, hMade⟩ := hq; have hM := hMade; obtain ⟨⟨m0, m1, m2, m3, m4⟩, mf, ml, mg⟩ := hM; rw [← hbm]; clear hbm) | ((with_reducible (have hq := made_on hb3 (by with_reducible assumption)));  have hM := hq; obtain ⟨⟨m0, m1, m2, m3, m4⟩, mf, ml, mg⟩ := hM) | skip)
        | (go_at_call 65; refine (Hp.out _ (ts.late (g := B4) hz3 hz5 (by with_reducible assumption)) (ts'.late (g := B4) hz3 hz5 (by with_reducible assumption))).mono ?_; rintro e w4 ⟨rfl, hb4⟩; have hs4 := kept_le hb4 (by with_reducible assumption); first | ((with_reducible (have hq := made_one hKB (by with_reducible assumption) hb4 (by with_reducible assumption)));  obtain ⟨bm, hbm, hMade⟩ := hq; have hM := hMade; obtain ⟨⟨m0, m1, m2, m3, m4⟩, mf, ml, mg⟩ := hM; rw [← hbm]; clear hbm) | ((with_reducible (have hq := made_one' hKB (by with_reducible assumption) hb4 (by with_reducible assumption)));  obtain ⟨bm, hbm, hMade⟩ := hq; have hM := hMade; obtain ⟨⟨m0, m1, m2, m3, m4⟩, mf, ml, mg⟩ := hM; rw [← hbm]; clear hbm) | ((with_reducible (have hq := made_on hb4 (by with_reducible assumption)));  have hM := hq; obtain ⟨⟨m0, m1, m2, m3, m4⟩, mf, ml, mg⟩ := hM) | skip))
    all_goals (go_step; go_step; go_meet)
    all_goals first
      | with_reducible exact meetB' hKB (by with_reducible assumption) (by with_reducible assumption)
      | with_reducible exact meetA (by with_reducible assumption) ⟨m0, m1, m2, m3, m4⟩ mf mg
  case rest =>
    obtain ⟨bm, rfl, hge, m0, m1, m2, m3, m4, mf, k1, k2, hbel⟩ := hcut
    have q0 : wc.cell? ⟨B3, 0, none⟩ = some (.int .u8 0) := (hbel.cell (p := ⟨B3, 0, none⟩) hb34).trans (c3 0)
    have q1 : wc.cell? ⟨B3, 1, none⟩ = some (.int .u8 0) := (hbel.cell (p := ⟨B3, 1, none⟩) hb34).trans (c3 1)
    have q2 : wc.cell? ⟨B3, 2, none⟩ = some (.int .u8 0) := (hbel.cell (p := ⟨B3, 2, none⟩) hb34).trans (c3 2)
    have q3 : wc.cell? ⟨B3, 3, none⟩ = some (.int .u8 0) := (hbel.cell (p := ⟨B3, 3, none⟩) hb34).trans (c3 3)
    have q4 : wc.cell? ⟨B3, 4, none⟩ = some (.int .u8 0) := (hbel.cell (p := ⟨B3, 4, none⟩) hb34).trans (c3 4)
    have qf : ∀ i, wc.frozen? ⟨B3, i, none⟩ = false := fun i => (hbel.frozen (p := ⟨B3, i, none⟩) hb34).trans (f3 i)
    have hlt0 : w.heap.size ≤ B3 := hg0 ▸ hb03
    have hne : bm ≠ B3 := by omega
    have hne' : B3 ≠ bm := by omega
    clear Hn Hk Hb Hp tn tn' ts ts' c0 c1 c2 hd0 c3 f3
    generalize Value.agg #[.int .i64 r.id, .slice A r.names.length c, .int .u8 r.suf, .int .i64 r.lo, .int .i64 r.hi, .string r.num, .bool r.twin, .slice D r.stays.length d] = ra
    generalize Value.agg #[.int .i64 s.id, .slice A' s.names.length c', .int .u8 s.suf, .int .i64 s.lo, .int .i64 s.hi, .string s.num, .bool s.twin, .slice D' s.stays.length d'] = rb
    go_upto_region 2 with fail
    go_cut [8] (fun x wx => x = .bool (decide (r.suf ≠ 0 ∧ s.suf ≠ 0 ∧ r.suf ≠ s.suf)) ∧ wx = wc)
    case first =>
      go_wp2
      all_goals go_meet
      all_goals exact ⟨by simp_all <;> rfl, rfl⟩
    case rest =>
      obtain ⟨rfl, rfl⟩ := hcut
      generalize hA : decide (r.suf ≠ 0 ∧ s.suf ≠ 0 ∧ r.suf ≠ s.suf) = ba
      have HA := Lib.hid hA
      clear hA
      go_upto_region 3 with fail
      go_cut [9] (fun x wx => x = .bool ((r.twin || s.twin) && decide (vk ≠ 3 ∧ vn ≠ 3)) ∧ wx = wc)
      case first =>
        go_wp2
        all_goals go_meet
        all_goals exact ⟨by simp_all <;> rfl, rfl⟩
      case rest =>
        obtain ⟨rfl, rfl⟩ := hcut
        generalize hT : ((r.twin || s.twin) && decide (vk ≠ 3 ∧ vn ≠ 3)) = bt
        have HT := Lib.hid hT
        clear hT
        go_upto_region 4 with fail
        go_cut [94] (fun x wx => x = .bool (decide (vb = 0) || ba || (decide (vn = 0) && decide (vk ≠ 3)) || (decide (vk = 0) && decide (vp ≠ 3)) || bt) ∧ wx = wc)
        case first =>
          clear HA HT
          cases ba <;> cases bt
          all_goals go_wp2
          all_goals go_meet
          all_goals exact ⟨by simp_all <;> rfl, rfl⟩
        case rest =>
          obtain ⟨rfl, rfl⟩ := hcut
          have hwc : Below w.heap.size w wc := by
            rw [hg0]; exact b0.trans (hbel.mono (by omega))
          have hlb : w.heap.size ≤ bm := by omega
          have hne1 : g1 ≠ bm := by have := hKB.b; omega
          have hne2 : g2 ≠ bm := by have := hKB.c; omega
          clear hbel hKB hz3 hz5 hs0 hb34 hb03 hge b0
          cases hE : (decide (vb = 0) || ba || (decide (vn = 0) && decide (vk ≠ 3)) || (decide (vk = 0) && decide (vp ≠ 3)) || bt) with
          | true =>
            have HO := Lib.hid (oneF_stop (sa := r.suf) (sb := s.suf) (ta := r.twin) (tb := s.twin) HA.out HT.out hE)
            clear hE HA HT
            go_wp2_with fail
            have hfin : ∀ i, i < 5 → ((((((wc).setCell ⟨B3, 0, none⟩ (.int .u8 vn)).setCell ⟨B3, 1, none⟩ (.int .u8 vk)).setCell ⟨B3, 2, none⟩ (.int .u8 vb)).setCell ⟨B3, 3, none⟩ (.int .u8 vp)).setCell ⟨B3, 4, none⟩ (.int .u8 0)).cell? ⟨B3, i, none⟩ = (#[.int .u8 vn, .int .u8 vk, .int .u8 vb, .int .u8 vp, .int .u8 0] : Array Value)[i]? := fun i hi => stored5 ⟨q0, q1, q2, q3, q4⟩ i hi
            have hlow : Below w.heap.size w ((((((wc).setCell ⟨B3, 0, none⟩ (.int .u8 vn)).setCell ⟨B3, 1, none⟩ (.int .u8 vk)).setCell ⟨B3, 2, none⟩ (.int .u8 vb)).setCell ⟨B3, 3, none⟩ (.int .u8 vp)).setCell ⟨B3, 4, none⟩ (.int .u8 0)) := below_set5 hwc hlt0 _ _ _ _ _
            generalize (((((wc).setCell ⟨B3, 0, none⟩ (.int .u8 vn)).setCell ⟨B3, 1, none⟩ (.int .u8 vk)).setCell ⟨B3, 2, none⟩ (.int .u8 vb)).setCell ⟨B3, 3, none⟩ (.int .u8 vp)).setCell ⟨B3, 4, none⟩ (.int .u8 0) = Wf at *
            have r0 := hfin 0 (by omega)
            have r1 := hfin 1 (by omega)
            have r2 := hfin 2 (by omega)
            have r3 := hfin 3 (by omega)
            have r4 := hfin 4 (by omega)
            clear hfin
            refine bodyPost_ret (v := .agg #[.int .u8 vn, .int .u8 vk, .int .u8 vb, .int .u8 vp, .int .u8 0]) ?hres rfl ?hpost
            case hres => simp [results, Tryz.results34, go_sem, r0, r1, r2, r3, r4]
            case hpost => exact ⟨by rw [HO.out], hlow⟩
          | false =>
            have HO := Lib.hid (oneF_go (sa := r.suf) (sb := s.suf) (ta := r.twin) (tb := s.twin) HA.out HT.out hE)
            clear hE HA HT
            go_upto_region 7 with fail
            have n0 : (wc.setCell ⟨bm, 4, none⟩ (.int .u8 1)).cell? ⟨bm, 0, none⟩ = some (.int .u8 vn) := (cell_set_ne (by omega)).trans m0
            have n1 : (wc.setCell ⟨bm, 4, none⟩ (.int .u8 1)).cell? ⟨bm, 1, none⟩ = some (.int .u8 vk) := (cell_set_ne (by omega)).trans m1
            have n2 : (wc.setCell ⟨bm, 4, none⟩ (.int .u8 1)).cell? ⟨bm, 2, none⟩ = some (.int .u8 vb) := (cell_set_ne (by omega)).trans m2
            have n3 : (wc.setCell ⟨bm, 4, none⟩ (.int .u8 1)).cell? ⟨bm, 3, none⟩ = some (.int .u8 vp) := (cell_set_ne (by omega)).trans m3
            have n4 : (wc.setCell ⟨bm, 4, none⟩ (.int .u8 1)).cell? ⟨bm, 4, none⟩ = some (.int .u8 1) := cell_set_eq m4
            have nf : ∀ i, (wc.setCell ⟨bm, 4, none⟩ (.int .u8 1)).frozen? ⟨bm, i, none⟩ = false := fun i => by rw [World.frozen?_setCell]; exact mf i
            have hfar : ∀ b i, b ≠ bm → (wc.setCell ⟨bm, 4, none⟩ (.int .u8 1)).cell? ⟨b, i, none⟩ = wc.cell? ⟨b, i, none⟩ := fun b i hb => World.cell?_of_block (w := wc) (Below.heap_setCell _ _ _ _ hb)
            have p1 : ∀ i, (wc.setCell ⟨bm, 4, none⟩ (.int .u8 1)).cell? ⟨g1, i, none⟩ = (#[.int .i64 r.id, .slice A r.names.length c, .int .u8 r.suf, .int .i64 r.lo, .int .i64 r.hi, .string r.num, .bool r.twin, .slice D r.stays.length d] : Array Value)[i]? := fun i => (hfar _ i hne1).trans (k1 i)
            have p2 : ∀ i, (wc.setCell ⟨bm, 4, none⟩ (.int .u8 1)).cell? ⟨g2, i, none⟩ = (#[.int .i64 s.id, .slice A' s.names.length c', .int .u8 s.suf, .int .i64 s.lo, .int .i64 s.hi, .string s.num, .bool s.twin, .slice D' s.stays.length d'] : Array Value)[i]? := fun i => (hfar _ i hne2).trans (k2 i)
            have s0 := (hfar B3 0 hne').trans q0
            have s1 := (hfar B3 1 hne').trans q1
            have s2 := (hfar B3 2 hne').trans q2
            have s3 := (hfar B3 3 hne').trans q3
            have s4 := (hfar B3 4 hne').trans q4
            have sf : ∀ i, (wc.setCell ⟨bm, 4, none⟩ (.int .u8 1)).frozen? ⟨B3, i, none⟩ = false := fun i => by rw [World.frozen?_setCell]; exact qf i
            have hw1 : Below w.heap.size w (wc.setCell ⟨bm, 4, none⟩ (.int .u8 1)) := hwc.setCell (p := ⟨bm, 4, none⟩) hlb _
            clear hfar m0 m1 m2 m3 m4 mf q0 q1 q2 q3 q4 qf hwc k1 k2
            generalize wc.setCell ⟨bm, 4, none⟩ (.int .u8 1) = W1 at *
            clear wc
            have m0 := n0
            have m1 := n1
            have m2 := n2
            have m3 := n3
            have m4 := n4
            have mf := nf
            have q0 := s0
            have q1 := s1
            have q2 := s2
            have q3 := s3
            have q4 := s4
            have qf := sf
            clear n0 n1 n2 n3 n4 nf s0 s1 s2 s3 s4 sf
            go_cut [129] (fun x wx => x = .bool ((decide (vk = 3) && decide (2 ≤ vn)) || (decide (vn = 3) && decide (vb = 3) && decide (vp = 3) && !r.twin && !s.twin)) ∧ wx = W1)
            case first =>
              clear HO
              go_wp2
              all_goals go_meet
              all_goals exact ⟨by simp_all <;> first | rfl | omega, rfl⟩
            case rest =>
            obtain ⟨rfl, rfl⟩ := hcut
            generalize ((decide (vk = 3) && decide (2 ≤ vn)) || (decide (vn = 3) && decide (vb = 3) && decide (vp = 3) && !r.twin && !s.twin)) = bc at HO ⊢
            clear p1 p2
            cases bc with
            | false =>
              go_wp2_with fail
              have hfin : ∀ i, i < 5 → ((((((wc).setCell ⟨B3, 0, none⟩ (.int .u8 vn)).setCell ⟨B3, 1, none⟩ (.int .u8 vk)).setCell ⟨B3, 2, none⟩ (.int .u8 vb)).setCell ⟨B3, 3, none⟩ (.int .u8 vp)).setCell ⟨B3, 4, none⟩ (.int .u8 1)).cell? ⟨B3, i, none⟩ = (#[.int .u8 vn, .int .u8 vk, .int .u8 vb, .int .u8 vp, .int .u8 1] : Array Value)[i]? := fun i hi => stored5 ⟨q0, q1, q2, q3, q4⟩ i hi
              have hlow : Below w.heap.size w ((((((wc).setCell ⟨B3, 0, none⟩ (.int .u8 vn)).setCell ⟨B3, 1, none⟩ (.int .u8 vk)).setCell ⟨B3, 2, none⟩ (.int .u8 vb)).setCell ⟨B3, 3, none⟩ (.int .u8 vp)).setCell ⟨B3, 4, none⟩ (.int .u8 1)) := below_set5 hw1 hlt0 _ _ _ _ _
              generalize (((((wc).setCell ⟨B3, 0, none⟩ (.int .u8 vn)).setCell ⟨B3, 1, none⟩ (.int .u8 vk)).setCell ⟨B3, 2, none⟩ (.int .u8 vb)).setCell ⟨B3, 3, none⟩ (.int .u8 vp)).setCell ⟨B3, 4, none⟩ (.int .u8 1) = Wf at *
              have r0 := hfin 0 (by omega)
              have r1 := hfin 1 (by omega)
              have r2 := hfin 2 (by omega)
              have r3 := hfin 3 (by omega)
              have r4 := hfin 4 (by omega)
              clear hfin
              refine bodyPost_ret (v := .agg #[.int .u8 vn, .int .u8 vk, .int .u8 vb, .int .u8 vp, .int .u8 1]) ?hres rfl ?hpost
              case hres => simp [results, Tryz.results34, go_sem, r0, r1, r2, r3, r4]
              case hpost => first | exact ⟨by rw [HO.out]; rfl, hlow⟩ | exact ⟨by rw [HO.out]; rfl, hg0 ▸ hlow⟩
            | true =>
              go_upto_region 9 with fail
              have n0 : (wc.setCell ⟨bm, 4, none⟩ (.int .u8 2)).cell? ⟨bm, 0, none⟩ = some (.int .u8 vn) := (cell_set_ne (by omega)).trans m0
              have n1 : (wc.setCell ⟨bm, 4, none⟩ (.int .u8 2)).cell? ⟨bm, 1, none⟩ = some (.int .u8 vk) := (cell_set_ne (by omega)).trans m1
              have n2 : (wc.setCell ⟨bm, 4, none⟩ (.int .u8 2)).cell? ⟨bm, 2, none⟩ = some (.int .u8 vb) := (cell_set_ne (by omega)).trans m2
              have n3 : (wc.setCell ⟨bm, 4, none⟩ (.int .u8 2)).cell? ⟨bm, 3, none⟩ = some (.int .u8 vp) := (cell_set_ne (by omega)).trans m3
              have n4 : (wc.setCell ⟨bm, 4, none⟩ (.int .u8 2)).cell? ⟨bm, 4, none⟩ = some (.int .u8 2) := cell_set_eq m4
              have nf : ∀ i, (wc.setCell ⟨bm, 4, none⟩ (.int .u8 2)).frozen? ⟨bm, i, none⟩ = false := fun i => by rw [World.frozen?_setCell]; exact mf i
              have hfar : ∀ b i, b ≠ bm → (wc.setCell ⟨bm, 4, none⟩ (.int .u8 2)).cell? ⟨b, i, none⟩ = wc.cell? ⟨b, i, none⟩ := fun b i hb => World.cell?_of_block (w := wc) (Below.heap_setCell _ _ _ _ hb)
              have s0 := (hfar B3 0 hne').trans q0
              have s1 := (hfar B3 1 hne').trans q1
              have s2 := (hfar B3 2 hne').trans q2
              have s3 := (hfar B3 3 hne').trans q3
              have s4 := (hfar B3 4 hne').trans q4
              have sf : ∀ i, (wc.setCell ⟨bm, 4, none⟩ (.int .u8 2)).frozen? ⟨B3, i, none⟩ = false := fun i => by rw [World.frozen?_setCell]; exact qf i
              have hw2 : Below w.heap.size w (wc.setCell ⟨bm, 4, none⟩ (.int .u8 2)) := hw1.setCell (p := ⟨bm, 4, none⟩) hlb _
              clear hfar m0 m1 m2 m3 m4 mf q0 q1 q2 q3 q4 qf hw1
              generalize wc.setCell ⟨bm, 4, none⟩ (.int .u8 2) = W2 at *
              have m0 := n0
              have m1 := n1
              have m2 := n2
              have m3 := n3
              have m4 := n4
              have mf := nf
              have q0 := s0
              have q1 := s1
              have q2 := s2
              have q3 := s3
              have q4 := s4
              have qf := sf
              have hw1 := hw2
              clear n0 n1 n2 n3 n4 nf s0 s1 s2 s3 s4 sf hw2
              go_wp2_with fail
              have hfin : ∀ i, i < 5 → ((((((W2).setCell ⟨B3, 0, none⟩ (.int .u8 vn)).setCell ⟨B3, 1, none⟩ (.int .u8 vk)).setCell ⟨B3, 2, none⟩ (.int .u8 vb)).setCell ⟨B3, 3, none⟩ (.int .u8 vp)).setCell ⟨B3, 4, none⟩ (.int .u8 2)).cell? ⟨B3, i, none⟩ = (#[.int .u8 vn, .int .u8 vk, .int .u8 vb, .int .u8 vp, .int .u8 2] : Array Value)[i]? := fun i hi => stored5 ⟨q0, q1, q2, q3, q4⟩ i hi
              have hlow : Below w.heap.size w ((((((W2).setCell ⟨B3, 0, none⟩ (.int .u8 vn)).setCell ⟨B3, 1, none⟩ (.int .u8 vk)).setCell ⟨B3, 2, none⟩ (.int .u8 vb)).setCell ⟨B3, 3, none⟩ (.int .u8 vp)).setCell ⟨B3, 4, none⟩ (.int .u8 2)) := below_set5 hw1 hlt0 _ _ _ _ _
              generalize (((((W2).setCell ⟨B3, 0, none⟩ (.int .u8 vn)).setCell ⟨B3, 1, none⟩ (.int .u8 vk)).setCell ⟨B3, 2, none⟩ (.int .u8 vb)).setCell ⟨B3, 3, none⟩ (.int .u8 vp)).setCell ⟨B3, 4, none⟩ (.int .u8 2) = Wf at *
              have r0 := hfin 0 (by omega)
              have r1 := hfin 1 (by omega)
              have r2 := hfin 2 (by omega)
              have r3 := hfin 3 (by omega)
              have r4 := hfin 4 (by omega)
              clear hfin
              refine bodyPost_ret (v := .agg #[.int .u8 vn, .int .u8 vk, .int .u8 vb, .int .u8 vp, .int .u8 2]) ?hres rfl ?hpost
              case hres => simp [results, Tryz.results34, go_sem, r0, r1, r2, r3, r4]
              case hpost => first | exact ⟨by rw [HO.out]; rfl, hlow⟩ | exact ⟨by rw [HO.out]; rfl, hg0 ▸ hlow⟩

end Go.Proofs.YtbkmfomdhjhkpaaGreat
