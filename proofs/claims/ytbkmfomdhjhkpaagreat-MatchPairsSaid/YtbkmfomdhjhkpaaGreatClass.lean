/- A region that draws its order, whose operations read and whose callees make memory alone: one walk serves every order, in the class of all worlds in which what was there is as it was. -/
import Derived.Test.YtbkmfomdhjhkpaaGreatGiven
namespace Go.Proofs.YtbkmfomdhjhkpaaGreat
open Go.RowKit

/-- The worlds in which what lay below block B is as it was. -/
def After (B : Nat) (w : World) : Type := {W : World // Below B w W}

instance (B : Nat) (w : World) : Nonempty (After B w) := ⟨⟨w, Below.refl _ _⟩⟩

theorem wp_region_class_lit {P : Program} {C : World → Prop} {id : Nat} {Q : Exit → Act → World → Prop} {a : Act} {w : World} {l : List Oper} (hm : P.follows .mixedOrders = true) (hB : Region.lexB .any l.toArray = true) (hC : C w.drew)
    (h : wpQuiet P l.toArray C (fun a' => ∀ w', C w' → Q .normal a' w') l a) : (Code.region id l.toArray true).wp P Q a w :=
  wp_region_quiet (C := C) hm hB hC (by simpa using h)

theorem after_of {P : Program} {f : FuncId} {args : Array Value} {B : Nat} {w : World} (hB : B ≤ w.heap.size) (x : After B w) {v : Value} (h : Calls P f args x.val fun e w' => e = .returned v ∧ Below x.val.heap.size x.val w') :
    Calls P f args x.val fun e w' => e = .returned v ∧ ∃ y : After B w, w' = y.val :=
  h.mono fun _ w' ⟨he, hb⟩ => ⟨he, ⟨w', x.property.trans (hb.mono (Nat.le_trans hB x.property.size))⟩, rfl⟩
theorem after_of_same {P : Program} {f : FuncId} {args : Array Value} {B : Nat} {w : World} (x : After B w) {v : Value} (h : Calls P f args x.val fun e w' => e = .returned v ∧ x.val = w') :
    Calls P f args x.val fun e w' => e = .returned v ∧ ∃ y : After B w, w' = y.val :=
  h.mono fun _ _ ⟨he, hw⟩ => ⟨he, x, hw.symm⟩
theorem after_of_draw {P : Program} {f : FuncId} {args : Array Value} {B : Nat} {w : World} (x : After B w) {v : Value} (h : Calls P f args x.val fun e w' => e = .returned v ∧ ∃ n, w' = x.val.drewN n) :
    Calls P f args x.val fun e w' => e = .returned v ∧ ∃ y : After B w, w' = y.val :=
  h.mono fun _ w' ⟨he, n, hw⟩ => ⟨he, ⟨w', hw ▸ below_drewN x.property n⟩, rfl⟩
theorem After.cell {B : Nat} {w : World} {b o : Nat} {v : Value} (h : w.cell? ⟨b, o, none⟩ = some v) (hb : b < B) (x : After B w) : x.val.cell? ⟨b, o, none⟩ = some v := (x.property.cell (p := ⟨b, o, none⟩) hb).trans h
theorem After.cells {B : Nat} {w : World} {g : Nat} {cs : Array Value} (h : ∀ i, w.cell? ⟨g, i, none⟩ = cs[i]?) (hb : g < B) (x : After B w) (i : Nat) : x.val.cell? ⟨g, i, none⟩ = cs[i]? := (x.property.cell (p := ⟨g, i, none⟩) hb).trans (h i)
theorem Strs.after {w0 : World} {B : Nat} {A : Option Addr} {l : List ByteArray} (h : Strs w0 B A l) (hB : B ≤ w0.heap.size) (x : After B w0) : Strs x.val x.val.heap.size A l := (h.below x.property).more (Nat.le_trans hB x.property.size)
theorem Stays.after {w0 : World} {B : Nat} {A : Option Addr} {l : List Stay} (h : Stays w0 B A l) (hB : B ≤ w0.heap.size) (x : After B w0) : Stays x.val x.val.heap.size A l := (h.below x.property).more (Nat.le_trans hB x.property.size)

end Go.Proofs.YtbkmfomdhjhkpaaGreat
