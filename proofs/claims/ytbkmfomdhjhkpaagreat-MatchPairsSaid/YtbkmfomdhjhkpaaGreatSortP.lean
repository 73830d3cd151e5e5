/- Persons put in order by their numbers: what the program's inOrder does at persons, and what the library's SortedFunc, Collect, AppendSeq and Values do there. -/
import Derived.Test.YtbkmfomdhjhkpaaGreatShelf
import Derived.Test.YtbkmfomdhjhkpaaGreatRecs
import Derived.Test.YtbkmfomdhjhkpaaGreatValues
import Derived.Maps.AppendAt
namespace Go.Proofs.YtbkmfomdhjhkpaaGreat
open Go.RowKit Go.Shelf

/-- A record at work, with where its slices and its map lie. -/
structure PD where
  r : Rec
  A : Option Addr
  c : Nat
  D : Option Addr
  d : Nat
  m : Nat
instance : Inhabited PD := ⟨⟨⟨0, [], 0, 0, 0, ByteArray.empty, false, []⟩, none, 0, none, 0, 0⟩⟩
def PD.cells (x : PD) : List Value := [.int .i64 x.r.id, .slice x.A x.r.names.length x.c, .int .u8 x.r.suf, .int .i64 x.r.lo, .int .i64 x.r.hi, .string x.r.num, .bool x.r.twin, .slice x.D x.r.stays.length x.d, .map (some x.m)]
theorem PD.cells_length (x : PD) : x.cells.length = 9 := rfl
theorem PD.cells_one (x : PD) : ∀ v ∈ x.cells, v.oneCell' = true := by
  intro v hv
  simp only [PD.cells, List.mem_cons, List.not_mem_nil, or_false] at hv
  rcases hv with rfl | rfl | rfl | rfl | rfl | rfl | rfl | rfl | rfl <;> rfl
def pdCells (l : List PD) : List Value := l.flatMap PD.cells
theorem pdCells_length (l : List PD) : (pdCells l).length = l.length * 9 := by
  unfold pdCells
  induction l with
  | nil => rfl
  | cons x l ih => simp [List.flatMap_cons, ih, PD.cells_length]; omega
theorem pdCells_snoc (l : List PD) (x : PD) : pdCells (l ++ [x]) = pdCells l ++ x.cells := by simp [pdCells]
theorem pdCells_get : ∀ (l : List PD) (i : Nat) (h : i < l.length) (j : Nat), j < 9 → (pdCells l)[i * 9 + j]? = (l[i].cells)[j]?
  | x :: l, 0, _, j, hj => by
    rw [show pdCells (x :: l) = x.cells ++ pdCells l from rfl, Nat.zero_mul, Nat.zero_add, List.getElem?_append_left (by rw [PD.cells_length]; exact hj)]
    rfl
  | x :: l, i + 1, h, j, hj => by
    rw [show pdCells (x :: l) = x.cells ++ pdCells l from rfl, List.getElem?_append_right (by rw [PD.cells_length]; omega), PD.cells_length, show (i + 1) * 9 + j - 9 = i * 9 + j by omega]
    exact pdCells_get l i (by simpa using h) j hj

/-- The slice of persons at A holds the cells of l, below block B. -/
def PCells (w : World) (B : Nat) (A : Option Addr) (l : List PD) : Prop :=
  ∀ k, (h : k < l.length) → ∃ b off, A = some ⟨b, off, none⟩ ∧ b < B ∧ ∀ i, i < 9 → w.cell? ⟨b, off + k * 9 + i, none⟩ = (l[k].cells)[i]?
theorem PCells.below {w w' : World} {B : Nat} {A : Option Addr} {l : List PD} (h : PCells w B A l) (hb : Below B w w') : PCells w' B A l := fun k hk => by
  obtain ⟨b, off, e, h1, h2⟩ := h k hk
  exact ⟨b, off, e, h1, fun i hi => (hb.cell (p := ⟨b, off + k * 9 + i, none⟩) h1).trans (h2 i hi)⟩
theorem PCells.more {w : World} {B B' : Nat} {A : Option Addr} {l : List PD} (h : PCells w B A l) (hB : B ≤ B') : PCells w B' A l := fun k hk => by
  obtain ⟨b, off, e, h1, h2⟩ := h k hk
  exact ⟨b, off, e, by omega, h2⟩
theorem PCells.of_own {w : World} {base : Nat} {A : Option Addr} {n c : Nat} {l : List PD} (h : w.ownsRow base 83 9 (.slice A n c) n (pdCells l)) : PCells w w.heap.size A l := by
  intro k hk
  have hn : n = l.length := by have := h.1; rw [pdCells_length] at this; omega
  obtain ⟨g, cap, hv, hb, hlt⟩ := h.form (by omega)
  injection hv with hA
  subst hA
  refine ⟨g, 0, rfl, hlt, fun i hi => ?_⟩
  rw [← pdCells_get l k hk i hi, Nat.zero_add]
  exact h.cellAt (k * 9 + i) (by omega)
/-- Nine cells of a person, one after the other. -/
structure Cells9 (w : World) (b o : Nat) (x : PD) : Prop where
  c0 : w.cell? ⟨b, o, none⟩ = some (.int .i64 x.r.id)
  c1 : w.cell? ⟨b, o + 1, none⟩ = some (.slice x.A x.r.names.length x.c)
  c2 : w.cell? ⟨b, o + 2, none⟩ = some (.int .u8 x.r.suf)
  c3 : w.cell? ⟨b, o + 3, none⟩ = some (.int .i64 x.r.lo)
  c4 : w.cell? ⟨b, o + 4, none⟩ = some (.int .i64 x.r.hi)
  c5 : w.cell? ⟨b, o + 5, none⟩ = some (.string x.r.num)
  c6 : w.cell? ⟨b, o + 6, none⟩ = some (.bool x.r.twin)
  c7 : w.cell? ⟨b, o + 7, none⟩ = some (.slice x.D x.r.stays.length x.d)
  c8 : w.cell? ⟨b, o + 8, none⟩ = some (.map (some x.m))
theorem PCells.nine {w : World} {B : Nat} {A : Option Addr} {l : List PD} (h : PCells w B A l) {k : Nat} (hk : k < l.length) : ∃ b off, A = some ⟨b, off, none⟩ ∧ b < B ∧ Cells9 w b (off + k * 9) l[k] := by
  obtain ⟨b, off, e, h1, h2⟩ := h k hk
  exact ⟨b, off, e, h1, ⟨h2 0 (by omega), h2 1 (by omega), h2 2 (by omega), h2 3 (by omega), h2 4 (by omega), h2 5 (by omega), h2 6 (by omega), h2 7 (by omega), h2 8 (by omega)⟩⟩

/-! The comparison. -/
set_option maxHeartbeats 400000 in
theorem peopleKey_any (x : PD) (W : World) :
    Calls Tryz.prog 56 #[.agg #[.int .i64 x.r.id, .slice x.A x.r.names.length x.c, .int .u8 x.r.suf, .int .i64 x.r.lo, .int .i64 x.r.hi, .string x.r.num, .bool x.r.twin, .slice x.D x.r.stays.length x.d, .map (some x.m)]] W fun e w' => e = .returned (.int .i64 x.r.id) ∧ w' = W.alloc (.cells #[.int .i64 x.r.id, .slice x.A x.r.names.length x.c, .int .u8 x.r.suf, .int .i64 x.r.lo, .int .i64 x.r.hi, .string x.r.num, .bool x.r.twin, .slice x.D x.r.stays.length x.d, .map (some x.m)] 83) := by
  go_enter Tryz.func56, Tryz.ntmps56
  go_wp2
  go_ret
  exact ⟨rfl, rfl⟩

/-- The worlds that come of W by draws and new blocks behind it. -/
def Grown (W : World) : Type := {V : World // ∃ q os, V = Sort.grow (W.drewN q) os}
theorem Grown.zero (W : World) : ∃ q os, W = Sort.grow (W.drewN q) os := ⟨0, #[], by rw [Sort.grow_empty]; rfl⟩
instance (W : World) : Nonempty (Grown W) := ⟨⟨W, Grown.zero W⟩⟩
theorem Grown.trans {W V U : World} (h : ∃ q os, V = Sort.grow (W.drewN q) os) (k : ∃ q os, U = Sort.grow (V.drewN q) os) : ∃ q os, U = Sort.grow (W.drewN q) os := by
  obtain ⟨q, os, rfl⟩ := h
  obtain ⟨q', os', rfl⟩ := k
  refine ⟨q + q', os ++ os', ?_⟩
  rw [← Sort.grow_grow]
  show Sort.grow (Sort.grow ((W.drewN q).drewN q') os) os' = _
  rw [show (W.drewN q).drewN q' = W.drewN (q + q') by simp [World.drewN, Nat.add_assoc]]
theorem Grown.alloc (W : World) (o : Obj) : ∃ q os, W.alloc o = Sort.grow (W.drewN q) os := ⟨0, #[o], by rw [Sort.alloc_eq_grow]; rfl⟩
theorem Grown.drew (W : World) : ∃ q os, W.drew = Sort.grow (W.drewN q) os := ⟨1, #[], by rw [Sort.grow_empty]; rfl⟩
theorem Grown.cell {W : World} {b o : Nat} {v : Value} (h : W.cell? ⟨b, o, none⟩ = some v) (hb : b < W.heap.size) (x : Grown W) : x.val.cell? ⟨b, o, none⟩ = some v := by
  obtain ⟨V, q, os, rfl⟩ := x
  exact (Sort.cell?_grow (W.drewN q) os ⟨b, o, none⟩ hb).trans h
theorem Grown.cells {W : World} {g : Nat} {cs : Array Value} (h : ∀ i, W.cell? ⟨g, i, none⟩ = cs[i]?) (hb : g < W.heap.size) (x : Grown W) (i : Nat) : x.val.cell? ⟨g, i, none⟩ = cs[i]? := by
  obtain ⟨V, q, os, rfl⟩ := x
  exact (Sort.cell?_grow (W.drewN q) os ⟨g, i, none⟩ hb).trans (h i)
theorem grown_of {P : Program} {f : FuncId} {args : Array Value} {W : World} (x : Grown W) {v : Value} (h : Calls P f args x.val fun e w' => e = .returned v ∧ ∃ q os, w' = Sort.grow (x.val.drewN q) os) :
    Calls P f args x.val fun e w' => e = .returned v ∧ ∃ y : Grown W, w' = y.val :=
  h.mono fun _ w' ⟨he, hw⟩ => ⟨he, ⟨w', Grown.trans x.property hw⟩, rfl⟩

theorem cmpInt_any (x y : Int) (W : World) : Calls Tryz.prog 70 #[.int .i64 x, .int .i64 y] W fun e w' => e = .returned (.int .i64 (Lib.compareInt x y)) ∧ w' = W :=
  AnyG.cmp_Compare_int Tryz.cmpInt x y W

set_option maxRecDepth 100000 in
set_option maxHeartbeats 1000000 in
theorem personCmp_any (x y : PD) (kb : Nat) (W : World) (hk : W.cell? ⟨kb, 0, none⟩ = some (.func (.func 56) #[] #[])) (hkb : kb < W.heap.size) :
    Calls Tryz.prog 80 #[.agg #[.int .i64 x.r.id, .slice x.A x.r.names.length x.c, .int .u8 x.r.suf, .int .i64 x.r.lo, .int .i64 x.r.hi, .string x.r.num, .bool x.r.twin, .slice x.D x.r.stays.length x.d, .map (some x.m)], .agg #[.int .i64 y.r.id, .slice y.A y.r.names.length y.c, .int .u8 y.r.suf, .int .i64 y.r.lo, .int .i64 y.r.hi, .string y.r.num, .bool y.r.twin, .slice y.D y.r.stays.length y.d, .map (some y.m)], .pointer (some ⟨kb, 0, none⟩)] W fun e w' => e = .returned (.int .i64 (Lib.compareInt x.r.id y.r.id)) ∧ ∃ q os, w' = Sort.grow (W.drewN q) os := by
  have HX := Lib.hid (fun V => peopleKey_any x V)
  have HY := Lib.hid (fun V => peopleKey_any y V)
  have HC := Lib.hid (fun V => cmpInt_any x.r.id y.r.id V)
  generalize Lib.compareInt x.r.id y.r.id = res at HC ⊢
  go_enter Tryz.func80, Tryz.ntmps80
  go_wp2_with fail
  have k0 := (Blk.new W #[.int .i64 x.r.id, .slice x.A x.r.names.length x.c, .int .u8 x.r.suf, .int .i64 x.r.lo, .int .i64 x.r.hi, .string x.r.num, .bool x.r.twin, .slice x.D x.r.stays.length x.d, .map (some x.m)] 83).alloc (.cells #[.int .i64 y.r.id, .slice y.A y.r.names.length y.c, .int .u8 y.r.suf, .int .i64 y.r.lo, .int .i64 y.r.hi, .string y.r.num, .bool y.r.twin, .slice y.D y.r.stays.length y.d, .map (some y.m)] 83)
  have k1 := Blk.new (W.alloc (.cells #[.int .i64 x.r.id, .slice x.A x.r.names.length x.c, .int .u8 x.r.suf, .int .i64 x.r.lo, .int .i64 x.r.hi, .string x.r.num, .bool x.r.twin, .slice x.D x.r.stays.length x.d, .map (some x.m)] 83)) #[.int .i64 y.r.id, .slice y.A y.r.names.length y.c, .int .u8 y.r.suf, .int .i64 y.r.lo, .int .i64 y.r.hi, .string y.r.num, .bool y.r.twin, .slice y.D y.r.stays.length y.d, .map (some y.m)] 83
  rw [World.size_alloc] at k1
  have hk2 : ((W.alloc (.cells #[.int .i64 x.r.id, .slice x.A x.r.names.length x.c, .int .u8 x.r.suf, .int .i64 x.r.lo, .int .i64 x.r.hi, .string x.r.num, .bool x.r.twin, .slice x.D x.r.stays.length x.d, .map (some x.m)] 83)).alloc (.cells #[.int .i64 y.r.id, .slice y.A y.r.names.length y.c, .int .u8 y.r.suf, .int .i64 y.r.lo, .int .i64 y.r.hi, .string y.r.num, .bool y.r.twin, .slice y.D y.r.stays.length y.d, .map (some y.m)] 83)).cell? ⟨kb, 0, none⟩ = some (.func (.func 56) #[] #[]) :=
    ((((Below.refl _ _).alloc (Nat.le_refl _) _).alloc (by simp) _).cell (p := ⟨kb, 0, none⟩) hkb).trans hk
  have hg := Grown.trans (Grown.alloc W (.cells #[.int .i64 x.r.id, .slice x.A x.r.names.length x.c, .int .u8 x.r.suf, .int .i64 x.r.lo, .int .i64 x.r.hi, .string x.r.num, .bool x.r.twin, .slice x.D x.r.stays.length x.d, .map (some x.m)] 83)) (Grown.alloc _ (.cells #[.int .i64 y.r.id, .slice y.A y.r.names.length y.c, .int .u8 y.r.suf, .int .i64 y.r.lo, .int .i64 y.r.hi, .string y.r.num, .bool y.r.twin, .slice y.D y.r.stays.length y.d, .map (some y.m)] 83))
  generalize hW2 : (W.alloc (.cells #[.int .i64 x.r.id, .slice x.A x.r.names.length x.c, .int .u8 x.r.suf, .int .i64 x.r.lo, .int .i64 x.r.hi, .string x.r.num, .bool x.r.twin, .slice x.D x.r.stays.length x.d, .map (some x.m)] 83)).alloc (.cells #[.int .i64 y.r.id, .slice y.A y.r.names.length y.c, .int .u8 y.r.suf, .int .i64 y.r.lo, .int .i64 y.r.hi, .string y.r.num, .bool y.r.twin, .slice y.D y.r.stays.length y.d, .map (some y.m)] 83) = W2 at *
  have hlt : kb < W2.heap.size := by rw [← hW2]; simp; omega
  clear hW2 hk
  have g0 := Grown.cells k0.cell k0.lt
  have g1 := Grown.cells k1.cell k1.lt
  have gk := Grown.cell hk2 hlt
  clear k0 k1 hk2
  refine wp_region_class_lit (C := fun w' => ∃ z : Grown W2, w' = z.val) (by kernel_rfl) (by kernel_rfl) ⟨⟨_, Grown.drew W2⟩, rfl⟩ ?_
  repeat (go_big_quiet_step ((first
    | (go_at_call 56; with_reducible exact grown_of _ ((HX.out _).mono fun _ _ ⟨h1, h2⟩ => ⟨h1, h2 ▸ Grown.alloc _ _⟩))
    | (go_at_call 56; with_reducible exact grown_of _ ((HY.out _).mono fun _ _ ⟨h1, h2⟩ => ⟨h1, h2 ▸ Grown.alloc _ _⟩))
    | (go_at_call 70; with_reducible exact grown_of _ ((HC.out _).mono fun _ _ ⟨h1, h2⟩ => ⟨h1, h2 ▸ Grown.zero _⟩)))))
  refine wpQuiet_nil ?_
  intro _ hw'
  obtain ⟨⟨wz, hz⟩, hw''⟩ := hw'
  dsimp only at hw''
  subst hw''
  go_wp2
  go_ret
  exact ⟨rfl, Grown.trans hg hz⟩

end Go.Proofs.YtbkmfomdhjhkpaaGreat
