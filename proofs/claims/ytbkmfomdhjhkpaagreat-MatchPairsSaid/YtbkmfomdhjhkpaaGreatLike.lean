/- The closure that tells whether two words are like each other; regions inside a fence. -/
import Derived.Test.YtbkmfomdhjhkpaaGreatValues
import Derived.Sort.BigQuietIn
namespace Go.Proofs.YtbkmfomdhjhkpaaGreat
open Go.RowKit Go.Shelf

set_option maxHeartbeats 400000 in
theorem likeClosure_any (u : Rul) (b : Nat) (x y : ByteArray) (w : World) (hb : Blk w b #[.int .i64 u.l, .int .i64 u.d, .int .i64 u.y, .int .i64 u.t] 23) (ha : 0 < x.size ∧ x.size ≤ 20) (hy : 0 < y.size ∧ y.size ≤ 20) (hn : 0 ≤ u.l) :
    Calls Tryz.prog 81 #[.string x, .string y, .pointer (some ⟨b, 0, none⟩)] w fun e w' => e = .returned (.bool (fitL u.l x y)) ∧ Below w.heap.size w w' := by
  have k := hb.cell
  go_enter Tryz.func81, Tryz.ntmps81
  go_wp2_with (go_at_call 82; refine (likeWords_any _ _ _ _ ha.1 hy.1 ha.2 hy.2 hn).mono ?_; rintro e w' ⟨rfl, hb1⟩)
  go_ret
  exact ⟨rfl, hb1⟩

theorem wpIn_region_class_lit {F : Fence} {n : Nat} {P : Program} {C : World → Prop} {id : Nat} {Q : Exit → Act → World → Prop} {a : Act} {w : World} {l : List Oper} (hro : F.round = none) (hm : P.follows .mixedOrders = true) (hB : Region.lexB .any l.toArray = true) (hC : C w.drew)
    (h : wpQuietIn F n P l.toArray C (fun a' => ∀ w', C w' → Q .normal a' w') l a) : (Code.region id l.toArray true).wpIn F n P Q a w :=
  wpIn_region_quiet (C := C) hro hm hB hC (by simpa using h)

theorem afterIn_of {F : Fence} {r : Nat} {P : Program} {f : FuncId} {args : Array Value} {B : Nat} {w : World} (hB : B ≤ w.heap.size) (x : After B w) {v : Value} (h : CallsIn F r P f args x.val fun e w' => e = .returned v ∧ Below x.val.heap.size x.val w') :
    CallsIn F r P f args x.val fun e w' => e = .returned v ∧ ∃ y : After B w, w' = y.val :=
  h.mono fun _ w' ⟨he, hb⟩ => ⟨he, ⟨w', x.property.trans (hb.mono (Nat.le_trans hB x.property.size))⟩, rfl⟩

end Go.Proofs.YtbkmfomdhjhkpaaGreat
