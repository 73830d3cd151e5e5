/- What 'open' has made behind its drawn statement, whatever came first. Written by genof.py. -/
import Derived.Test.YtkpaikampmeooaaGreatDoorTCardP6
import Derived.Test.YtkpaikampmeooaaGreatDoorTCardP5
import Derived.Laws.StructEq
import Derived.Laws.AppendOwnNone

namespace Go.Proofs.YtkpaikampmeooaaGreatDoor
open Go.RowKit Go.Maps

theorem lawMade' {w : World} {m : Nat} (h : m = w.heap.size) : LawFn (w.alloc (.map #[] 0)) m 0 [] := h ▸ MapFn.made w _ _
theorem LawFn.later {W W' : World} {m n : Nat} {laws : List LawT} (h : LawFn W m n laws) (hb : Below W.heap.size W W') : LawFn W' m n laws := MapFn.below h hb (MapFn.lt h)
theorem LawFn.set {W : World} {m n : Nat} {laws : List LawT} (h : LawFn W m n laws) {a : Addr} (ha : a.block ≠ m) (u : Value) : LawFn (W.setCell a u) m n laws := MapFn.setCell h (fun e => ha e.symm) u
def StartAt (W : World) (q : Nat) (v : Value) : Prop := q < W.heap.size ∧ W.cell? ⟨q, 0, none⟩ = some v
theorem StartAt.later {W W' : World} {q : Nat} {v : Value} (h : StartAt W q v) (hb : Below W.heap.size W W') : StartAt W' q v := ⟨Nat.lt_of_lt_of_le h.1 hb.size, (hb.cell (p := ⟨q, 0, none⟩) h.1).trans h.2⟩
theorem StartAt.set {W : World} {q : Nat} {v : Value} (h : StartAt W q v) {a : Addr} (ha : a.block ≠ q) (u : Value) : StartAt (W.setCell a u) q v :=
  ⟨by simpa using h.1, (World.cell?_of_block (Below.heap_setCell _ _ _ _ (by show q ≠ a.block; omega))).trans h.2⟩
theorem LandFn.set {W : World} {p : Nat} {homes : List HomeT} (h : LandFn W p homes) {a : Addr} (ha : a.block ≠ p) (ha2 : a.block + 1 ≠ p) (u : Value) : LandFn (W.setCell a u) p homes := by
  obtain ⟨m, h0, h1, h2, h3⟩ := h
  exact ⟨m, h0, by simpa using h1, (World.cell?_of_block (Below.heap_setCell _ _ _ _ (by show p ≠ a.block; omega))).trans h2, h3.setCell (by omega) u⟩
theorem bel_al {B : Nat} {w w' : World} (h : Below B w w') (hB : B ≤ w.heap.size) (o : Obj) : Below B w (w'.alloc o) := h.alloc (Nat.le_trans hB h.size) o
theorem bel_alloc (W : World) (o : Obj) : Below W.heap.size W (W.alloc o) := (Below.refl _ _).alloc (Nat.le_refl _) o
/-- Behind the drawn region: all that a bureau holds, its map of laws still empty. -/
def OpenPost (V : World) (X0 X1 X2 X3 : Value) (homes : List HomeT) (s : Value) (W : World) : Prop :=
  ∃ g m p q, s = .pointer (some ⟨g, 0, none⟩) ∧ Hid (Blk W g #[X0, X1, X2, X3, .map (some m), landFn p, .nilFunc, .func (.func 58) #[] #[], .func (.func 59) #[] #[], .func (.func 60) #[] #[.pointer (some ⟨q, 0, none⟩)]] 51 ∧
    LawFn W m 0 [] ∧ LandFn W p homes ∧ StartAt W q X3 ∧ (V.heap.size ≤ m ∧ V.heap.size < p ∧ V.heap.size ≤ q ∧ V.heap.size ≤ g ∧ m + 1 ≠ p) ∧ Below V.heap.size V W)
/-- The bureau's block made last. -/
theorem openPost_new {V Y : World} {g m p q : Nat} {X0 X1 X2 X3 : Value} {homes : List HomeT} (hg : g = Y.heap.size) (hl : LawFn Y m 0 []) (hd : LandFn Y p homes) (hs : StartAt Y q X3) (hsz : V.heap.size ≤ m ∧ V.heap.size < p ∧ V.heap.size ≤ q ∧ V.heap.size ≤ g ∧ m + 1 ≠ p) (hb : Below V.heap.size V Y) :
    OpenPost V X0 X1 X2 X3 homes (.pointer (some ⟨g, 0, none⟩)) (Y.alloc (.cells #[X0, X1, X2, X3, .map (some m), landFn p, .nilFunc, .func (.func 58) #[] #[], .func (.func 59) #[] #[], .func (.func 60) #[] #[.pointer (some ⟨q, 0, none⟩)]] 51)) :=
  ⟨g, m, p, q, rfl, Lib.hid ⟨newAt' _ _ _ hg, hl.later (bel_alloc _ _), hd.below (bel_alloc _ _), hs.later (bel_alloc _ _), hsz, bel_al hb (Nat.le_refl _) _⟩⟩
/-- The bureau's block made but for the map. -/
theorem openPost_new_map {V Y : World} {g m p q : Nat} {X0 X1 X2 X3 : Value} {homes : List HomeT} (hg : g = Y.heap.size) (hm : m = Y.heap.size + 1) (hd : LandFn Y p homes) (hs : StartAt Y q X3) (hsz : V.heap.size ≤ m ∧ V.heap.size < p ∧ V.heap.size ≤ q ∧ V.heap.size ≤ g ∧ m + 1 ≠ p) (hb : Below V.heap.size V Y) :
    OpenPost V X0 X1 X2 X3 homes (.pointer (some ⟨g, 0, none⟩)) ((Y.alloc (.cells #[X0, X1, X2, X3, .map (some m), landFn p, .nilFunc, .func (.func 58) #[] #[], .func (.func 59) #[] #[], .func (.func 60) #[] #[.pointer (some ⟨q, 0, none⟩)]] 51)).alloc (.map #[] 0)) :=
  ⟨g, m, p, q, rfl, Lib.hid ⟨(newAt' _ _ _ hg).alloc _, lawMade' (by rw [hm, World.size_alloc]), (hd.below (bel_alloc _ _)).below (bel_alloc _ _), (hs.later (bel_alloc _ _)).later (bel_alloc _ _), hsz, bel_al (bel_al hb (Nat.le_refl _) _) (Nat.le_refl _) _⟩⟩
set_option maxHeartbeats 4000000 in
/-- The bureau's block made before: ten cells set. -/
theorem openPost_set {V Y : World} {g m p q : Nat} {X0 X1 X2 X3 : Value} {homes : List HomeT} (kz : Blk Y g #[.slice none 0 0, .slice none 0 0, .int .i64 0, .slice none 0 0, .map none, .nilFunc, .nilFunc, .nilFunc, .nilFunc, .nilFunc] 51) (hl : LawFn Y m 0 []) (hd : LandFn Y p homes) (hs : StartAt Y q X3) (hne : g ≠ m ∧ g ≠ p ∧ g + 1 ≠ p ∧ g ≠ q) (hsz : V.heap.size ≤ m ∧ V.heap.size < p ∧ V.heap.size ≤ q ∧ V.heap.size ≤ g ∧ m + 1 ≠ p) (hb : Below V.heap.size V Y) :
    OpenPost V X0 X1 X2 X3 homes (.pointer (some ⟨g, 0, none⟩)) ((((((((((Y.setCell ⟨g, 0, none⟩ (X0)).setCell ⟨g, 1, none⟩ (X1)).setCell ⟨g, 2, none⟩ (X2)).setCell ⟨g, 3, none⟩ (X3)).setCell ⟨g, 4, none⟩ (.map (some m))).setCell ⟨g, 5, none⟩ (landFn p)).setCell ⟨g, 6, none⟩ (.nilFunc)).setCell ⟨g, 7, none⟩ (.func (.func 58) #[] #[])).setCell ⟨g, 8, none⟩ (.func (.func 59) #[] #[])).setCell ⟨g, 9, none⟩ (.func (.func 60) #[] #[.pointer (some ⟨q, 0, none⟩)])) :=
  ⟨g, m, p, q, rfl, Lib.hid ⟨(by have k := ((((((((((kz.set 0 (X0)).set 1 (X1)).set 2 (X2)).set 3 (X3)).set 4 (.map (some m))).set 5 (landFn p)).set 6 (.nilFunc)).set 7 (.func (.func 58) #[] #[])).set 8 (.func (.func 59) #[] #[])).set 9 (.func (.func 60) #[] #[.pointer (some ⟨q, 0, none⟩)])); simpa using k), (LawFn.set (LawFn.set (LawFn.set (LawFn.set (LawFn.set (LawFn.set (LawFn.set (LawFn.set (LawFn.set (LawFn.set hl (a := ⟨g, 0, none⟩) hne.1 (X0)) (a := ⟨g, 1, none⟩) hne.1 (X1)) (a := ⟨g, 2, none⟩) hne.1 (X2)) (a := ⟨g, 3, none⟩) hne.1 (X3)) (a := ⟨g, 4, none⟩) hne.1 (.map (some m))) (a := ⟨g, 5, none⟩) hne.1 (landFn p)) (a := ⟨g, 6, none⟩) hne.1 (.nilFunc)) (a := ⟨g, 7, none⟩) hne.1 (.func (.func 58) #[] #[])) (a := ⟨g, 8, none⟩) hne.1 (.func (.func 59) #[] #[])) (a := ⟨g, 9, none⟩) hne.1 (.func (.func 60) #[] #[.pointer (some ⟨q, 0, none⟩)])), (LandFn.set (LandFn.set (LandFn.set (LandFn.set (LandFn.set (LandFn.set (LandFn.set (LandFn.set (LandFn.set (LandFn.set hd (a := ⟨g, 0, none⟩) hne.2.1 hne.2.2.1 (X0)) (a := ⟨g, 1, none⟩) hne.2.1 hne.2.2.1 (X1)) (a := ⟨g, 2, none⟩) hne.2.1 hne.2.2.1 (X2)) (a := ⟨g, 3, none⟩) hne.2.1 hne.2.2.1 (X3)) (a := ⟨g, 4, none⟩) hne.2.1 hne.2.2.1 (.map (some m))) (a := ⟨g, 5, none⟩) hne.2.1 hne.2.2.1 (landFn p)) (a := ⟨g, 6, none⟩) hne.2.1 hne.2.2.1 (.nilFunc)) (a := ⟨g, 7, none⟩) hne.2.1 hne.2.2.1 (.func (.func 58) #[] #[])) (a := ⟨g, 8, none⟩) hne.2.1 hne.2.2.1 (.func (.func 59) #[] #[])) (a := ⟨g, 9, none⟩) hne.2.1 hne.2.2.1 (.func (.func 60) #[] #[.pointer (some ⟨q, 0, none⟩)])), (StartAt.set (StartAt.set (StartAt.set (StartAt.set (StartAt.set (StartAt.set (StartAt.set (StartAt.set (StartAt.set (StartAt.set hs (a := ⟨g, 0, none⟩) hne.2.2.2 (X0)) (a := ⟨g, 1, none⟩) hne.2.2.2 (X1)) (a := ⟨g, 2, none⟩) hne.2.2.2 (X2)) (a := ⟨g, 3, none⟩) hne.2.2.2 (X3)) (a := ⟨g, 4, none⟩) hne.2.2.2 (.map (some m))) (a := ⟨g, 5, none⟩) hne.2.2.2 (landFn p)) (a := ⟨g, 6, none⟩) hne.2.2.2 (.nilFunc)) (a := ⟨g, 7, none⟩) hne.2.2.2 (.func (.func 58) #[] #[])) (a := ⟨g, 8, none⟩) hne.2.2.2 (.func (.func 59) #[] #[])) (a := ⟨g, 9, none⟩) hne.2.2.2 (.func (.func 60) #[] #[.pointer (some ⟨q, 0, none⟩)])), hsz, ((((((((((hb.setCell (p := ⟨g, 0, none⟩) hsz.2.2.2.1 (X0)).setCell (p := ⟨g, 1, none⟩) hsz.2.2.2.1 (X1)).setCell (p := ⟨g, 2, none⟩) hsz.2.2.2.1 (X2)).setCell (p := ⟨g, 3, none⟩) hsz.2.2.2.1 (X3)).setCell (p := ⟨g, 4, none⟩) hsz.2.2.2.1 (.map (some m))).setCell (p := ⟨g, 5, none⟩) hsz.2.2.2.1 (landFn p)).setCell (p := ⟨g, 6, none⟩) hsz.2.2.2.1 (.nilFunc)).setCell (p := ⟨g, 7, none⟩) hsz.2.2.2.1 (.func (.func 58) #[] #[])).setCell (p := ⟨g, 8, none⟩) hsz.2.2.2.1 (.func (.func 59) #[] #[])).setCell (p := ⟨g, 9, none⟩) hsz.2.2.2.1 (.func (.func 60) #[] #[.pointer (some ⟨q, 0, none⟩)]))⟩⟩
set_option maxHeartbeats 4000000 in
/-- The same, the map made last. -/
theorem openPost_set_map {V Y : World} {g m p q : Nat} {X0 X1 X2 X3 : Value} {homes : List HomeT} (kz : Blk Y g #[.slice none 0 0, .slice none 0 0, .int .i64 0, .slice none 0 0, .map none, .nilFunc, .nilFunc, .nilFunc, .nilFunc, .nilFunc] 51) (hm : m = Y.heap.size) (hd : LandFn Y p homes) (hs : StartAt Y q X3) (hne : g ≠ p ∧ g + 1 ≠ p ∧ g ≠ q) (hsz : V.heap.size ≤ m ∧ V.heap.size < p ∧ V.heap.size ≤ q ∧ V.heap.size ≤ g ∧ m + 1 ≠ p) (hb : Below V.heap.size V Y) :
    OpenPost V X0 X1 X2 X3 homes (.pointer (some ⟨g, 0, none⟩)) (((((((((((Y.setCell ⟨g, 0, none⟩ (X0)).setCell ⟨g, 1, none⟩ (X1)).setCell ⟨g, 2, none⟩ (X2)).setCell ⟨g, 3, none⟩ (X3)).setCell ⟨g, 4, none⟩ (.map (some m))).setCell ⟨g, 5, none⟩ (landFn p)).setCell ⟨g, 6, none⟩ (.nilFunc)).setCell ⟨g, 7, none⟩ (.func (.func 58) #[] #[])).setCell ⟨g, 8, none⟩ (.func (.func 59) #[] #[])).setCell ⟨g, 9, none⟩ (.func (.func 60) #[] #[.pointer (some ⟨q, 0, none⟩)])).alloc (.map #[] 0)) :=
  ⟨g, m, p, q, rfl, Lib.hid ⟨Blk.alloc (w := ((((((((((Y.setCell ⟨g, 0, none⟩ (X0)).setCell ⟨g, 1, none⟩ (X1)).setCell ⟨g, 2, none⟩ (X2)).setCell ⟨g, 3, none⟩ (X3)).setCell ⟨g, 4, none⟩ (.map (some m))).setCell ⟨g, 5, none⟩ (landFn p)).setCell ⟨g, 6, none⟩ (.nilFunc)).setCell ⟨g, 7, none⟩ (.func (.func 58) #[] #[])).setCell ⟨g, 8, none⟩ (.func (.func 59) #[] #[])).setCell ⟨g, 9, none⟩ (.func (.func 60) #[] #[.pointer (some ⟨q, 0, none⟩)]))) (by have k := ((((((((((kz.set 0 (X0)).set 1 (X1)).set 2 (X2)).set 3 (X3)).set 4 (.map (some m))).set 5 (landFn p)).set 6 (.nilFunc)).set 7 (.func (.func 58) #[] #[])).set 8 (.func (.func 59) #[] #[])).set 9 (.func (.func 60) #[] #[.pointer (some ⟨q, 0, none⟩)])); simpa using k) _, lawMade' (by simpa using hm), LandFn.below (W := ((((((((((Y.setCell ⟨g, 0, none⟩ (X0)).setCell ⟨g, 1, none⟩ (X1)).setCell ⟨g, 2, none⟩ (X2)).setCell ⟨g, 3, none⟩ (X3)).setCell ⟨g, 4, none⟩ (.map (some m))).setCell ⟨g, 5, none⟩ (landFn p)).setCell ⟨g, 6, none⟩ (.nilFunc)).setCell ⟨g, 7, none⟩ (.func (.func 58) #[] #[])).setCell ⟨g, 8, none⟩ (.func (.func 59) #[] #[])).setCell ⟨g, 9, none⟩ (.func (.func 60) #[] #[.pointer (some ⟨q, 0, none⟩)]))) (LandFn.set (LandFn.set (LandFn.set (LandFn.set (LandFn.set (LandFn.set (LandFn.set (LandFn.set (LandFn.set (LandFn.set hd (a := ⟨g, 0, none⟩) hne.1 hne.2.1 (X0)) (a := ⟨g, 1, none⟩) hne.1 hne.2.1 (X1)) (a := ⟨g, 2, none⟩) hne.1 hne.2.1 (X2)) (a := ⟨g, 3, none⟩) hne.1 hne.2.1 (X3)) (a := ⟨g, 4, none⟩) hne.1 hne.2.1 (.map (some m))) (a := ⟨g, 5, none⟩) hne.1 hne.2.1 (landFn p)) (a := ⟨g, 6, none⟩) hne.1 hne.2.1 (.nilFunc)) (a := ⟨g, 7, none⟩) hne.1 hne.2.1 (.func (.func 58) #[] #[])) (a := ⟨g, 8, none⟩) hne.1 hne.2.1 (.func (.func 59) #[] #[])) (a := ⟨g, 9, none⟩) hne.1 hne.2.1 (.func (.func 60) #[] #[.pointer (some ⟨q, 0, none⟩)])) (bel_alloc _ _), StartAt.later (W := ((((((((((Y.setCell ⟨g, 0, none⟩ (X0)).setCell ⟨g, 1, none⟩ (X1)).setCell ⟨g, 2, none⟩ (X2)).setCell ⟨g, 3, none⟩ (X3)).setCell ⟨g, 4, none⟩ (.map (some m))).setCell ⟨g, 5, none⟩ (landFn p)).setCell ⟨g, 6, none⟩ (.nilFunc)).setCell ⟨g, 7, none⟩ (.func (.func 58) #[] #[])).setCell ⟨g, 8, none⟩ (.func (.func 59) #[] #[])).setCell ⟨g, 9, none⟩ (.func (.func 60) #[] #[.pointer (some ⟨q, 0, none⟩)]))) (StartAt.set (StartAt.set (StartAt.set (StartAt.set (StartAt.set (StartAt.set (StartAt.set (StartAt.set (StartAt.set (StartAt.set hs (a := ⟨g, 0, none⟩) hne.2.2 (X0)) (a := ⟨g, 1, none⟩) hne.2.2 (X1)) (a := ⟨g, 2, none⟩) hne.2.2 (X2)) (a := ⟨g, 3, none⟩) hne.2.2 (X3)) (a := ⟨g, 4, none⟩) hne.2.2 (.map (some m))) (a := ⟨g, 5, none⟩) hne.2.2 (landFn p)) (a := ⟨g, 6, none⟩) hne.2.2 (.nilFunc)) (a := ⟨g, 7, none⟩) hne.2.2 (.func (.func 58) #[] #[])) (a := ⟨g, 8, none⟩) hne.2.2 (.func (.func 59) #[] #[])) (a := ⟨g, 9, none⟩) hne.2.2 (.func (.func 60) #[] #[.pointer (some ⟨q, 0, none⟩)])) (bel_alloc _ _), hsz, bel_al ((((((((((hb.setCell (p := ⟨g, 0, none⟩) hsz.2.2.2.1 (X0)).setCell (p := ⟨g, 1, none⟩) hsz.2.2.2.1 (X1)).setCell (p := ⟨g, 2, none⟩) hsz.2.2.2.1 (X2)).setCell (p := ⟨g, 3, none⟩) hsz.2.2.2.1 (X3)).setCell (p := ⟨g, 4, none⟩) hsz.2.2.2.1 (.map (some m))).setCell (p := ⟨g, 5, none⟩) hsz.2.2.2.1 (landFn p)).setCell (p := ⟨g, 6, none⟩) hsz.2.2.2.1 (.nilFunc)).setCell (p := ⟨g, 7, none⟩) hsz.2.2.2.1 (.func (.func 58) #[] #[])).setCell (p := ⟨g, 8, none⟩) hsz.2.2.2.1 (.func (.func 59) #[] #[])).setCell (p := ⟨g, 9, none⟩) hsz.2.2.2.1 (.func (.func 60) #[] #[.pointer (some ⟨q, 0, none⟩)])) (Nat.le_refl _) _⟩⟩
end Go.Proofs.YtkpaikampmeooaaGreatDoor

namespace Go.Proofs.YtkpaikampmeooaaGreatDoor
open Go.RowKit Go.Maps

def greatT (a b c d : Nat) : Bool := decide (60 < a) || decide (40 < b) || decide (80 < c) || decide (80 < d)

set_option maxRecDepth 100000 in
set_option maxHeartbeats 1000000 in
theorem greatT_any (A S H R : Option Addr) (a b n r c cs ch cr : Nat) (w : World) :
    Calls Tryz.prog 4 #[.agg #[.slice A a c, .slice S b cs], .slice H n ch, .slice R r cr] w fun e w' => e = .returned (.bool (greatT a b n r)) ∧ Below w.heap.size w w' := by
  have b1 := (Below.refl w.heap.size w).alloc (Nat.le_refl _) (.cells #[.slice A a c, .slice S b cs] 25)
  by_cases h1 : 60 < a
  · have hi : (60 : Int) < (a : Int) := by omega
    have Hv : Hid (greatT a b n r = true) := Lib.hid (by unfold greatT; rw [decide_eq_true h1]; rfl)
    clear h1
    go_enter Tryz.func4, Tryz.ntmps4
    go_wp2_with fail
    go_ret
    exact ⟨by rw [Hv.out]; first | rfl | (simp [*]; done), b1⟩
  by_cases h2 : 40 < b
  · have hi1 : ¬ (60 : Int) < (a : Int) := by omega
    have hi : (40 : Int) < (b : Int) := by omega
    have Hv : Hid (greatT a b n r = true) := Lib.hid (by unfold greatT; rw [decide_eq_true h2]; simp)
    clear h1 h2
    go_enter Tryz.func4, Tryz.ntmps4
    go_wp2_with fail
    go_ret
    exact ⟨by rw [Hv.out]; first | rfl | (simp [*]; done), b1⟩
  by_cases h3 : 80 < n
  · have hi1 : ¬ (60 : Int) < (a : Int) := by omega
    have hi2 : ¬ (40 : Int) < (b : Int) := by omega
    have hi : (80 : Int) < (n : Int) := by omega
    have Hv : Hid (greatT a b n r = true) := Lib.hid (by unfold greatT; rw [decide_eq_true h3]; simp)
    clear h1 h2 h3
    go_enter Tryz.func4, Tryz.ntmps4
    go_wp2_with fail
    go_ret
    exact ⟨by rw [Hv.out]; first | rfl | (simp [*]; done), b1⟩
  have hi1 : ¬ (60 : Int) < (a : Int) := by omega
  have hi2 : ¬ (40 : Int) < (b : Int) := by omega
  have hi3 : ¬ (80 : Int) < (n : Int) := by omega
  by_cases h4 : 80 < r
  · have hi : (80 : Int) < (r : Int) := by omega
    have Hv : Hid (greatT a b n r = true) := Lib.hid (by unfold greatT; rw [decide_eq_true h4]; simp)
    clear h1 h2 h3 h4
    go_enter Tryz.func4, Tryz.ntmps4
    go_wp2_with fail
    go_ret
    exact ⟨by rw [Hv.out]; first | rfl | (simp [*]; done), b1⟩
  · have hi : ¬ (80 : Int) < (r : Int) := by omega
    have Hv : Hid (greatT a b n r = false) := Lib.hid (by unfold greatT; rw [decide_eq_false h1, decide_eq_false h2, decide_eq_false h3, decide_eq_false h4]; rfl)
    clear h1 h2 h3 h4
    go_enter Tryz.func4, Tryz.ntmps4
    go_wp2_with fail
    go_ret
    exact ⟨by rw [Hv.out]; first | rfl | (simp [*]; done), b1⟩

set_option maxRecDepth 100000 in
set_option maxHeartbeats 1000000 in
theorem sameInts3_any (l : List Int) (A A2 : Option Addr) (c c2 : Nat) (w : World) (h : Flat 1 intC w w.heap.size A l) (h2 : Flat 1 intC w w.heap.size A2 l) (hl : l.length ≤ 1000) :
    Calls Tryz.prog 12 #[.slice A l.length c, .slice A2 l.length c2] w fun e w' => e = .returned (.bool true) ∧ Below w.heap.size w w' := by
  have hne : ((l.length : Int) != (l.length : Int)) = false := by simp
  go_enter Tryz.func12, Tryz.ntmps12
  go_wp2_with fail
  go_loopw [5] (fun ii wr => ∃ i : Nat, i ≤ l.length ∧ ii = .int .i64 i ∧ Hid (Below w.heap.size w wr)) (fun ii _ => l.length - (vInt ii).toNat)
  case atStart => exact ⟨0, Nat.zero_le _, rfl, Lib.hid (Below.refl _ _)⟩
  case round =>
    obtain ⟨i, hi, rfl, hR⟩ := hrel
    by_cases hlt : i < l.length
    · have hil : (i : Int) < (l.length : Int) := by omega
      have hB := hR.out
      obtain ⟨b, off, rfl, hb, hc⟩ := (h.later hB) i hlt
      obtain ⟨b2, off2, rfl, hb2, hc2⟩ := (h2.later hB) i hlt
      generalize l[i] = r at *
      have c0 : wr.cell? ⟨b, off + i, none⟩ = some (.int .i64 r) := by have := hc 0 (by omega); simpa [intC] using this
      have d0 : wr.cell? ⟨b2, off2 + i, none⟩ = some (.int .i64 r) := by have := hc2 0 (by omega); simpa [intC] using this
      have hne2 : (r != r) = false := by simp
      clear hR hc hc2
      go_upto_region 6 with fail
      go_region
      all_goals (go_wp2_with fail)
      go_roundw
      case rel => exact ⟨i + 1, by omega, by go_num, Lib.hid (hB.drew)⟩
      case measure => simp [vInt]; omega
    · have hil : ¬ (i : Int) < (l.length : Int) := by omega
      have hfin := hR.out
      clear hR
      go_wp2_with fail
      go_ret
      exact ⟨rfl, hfin⟩

end Go.Proofs.YtkpaikampmeooaaGreatDoor

namespace Go.Proofs.YtkpaikampmeooaaGreatDoor
open Go.RowKit Go.Maps

theorem home_neq (r : HomeT) (W : World) : (binOp .neq 83 (.agg #[.int .i64 r.acc, .int .i64 r.land]) (.agg #[.int .i64 r.acc, .int .i64 r.land])).run Tryz.prog W = .ok (.bool false) W := by
  go_simp
theorem law_neq (r : LawT) (W : World) : (binOp .neq 79 (.agg #[.int .i64 r.land, .int .u8 r.kind, .int .u8 r.base, .int .i64 r.keep]) (.agg #[.int .i64 r.land, .int .u8 r.kind, .int .u8 r.base, .int .i64 r.keep])).run Tryz.prog W = .ok (.bool false) W := by
  go_simp
theorem still_neq (r : StillT) (W : World) : (binOp .neq 81 (.agg #[.int .i64 r.land, .int .i64 r.days, .int .u8 r.means]) (.agg #[.int .i64 r.land, .int .i64 r.days, .int .u8 r.means])).run Tryz.prog W = .ok (.bool false) W := by
  go_simp

set_option maxRecDepth 100000 in
set_option maxHeartbeats 1000000 in
theorem sameHomes_any (l : List HomeT) (A A2 : Option Addr) (c c2 : Nat) (w : World) (h : HomesAt w w.heap.size A l) (h2 : HomesAt w w.heap.size A2 l) (hl : l.length ≤ 1000) :
    Calls Tryz.prog 14 #[.slice A l.length c, .slice A2 l.length c2] w fun e w' => e = .returned (.bool true) ∧ Below w.heap.size w w' := by
  have hne : ((l.length : Int) != (l.length : Int)) = false := by simp
  go_enter Tryz.func14, Tryz.ntmps14
  go_wp2_with fail
  go_loopw [5] (fun ii wr => ∃ i : Nat, i ≤ l.length ∧ ii = .int .i64 i ∧ Hid (Below w.heap.size w wr)) (fun ii _ => l.length - (vInt ii).toNat)
  case atStart => exact ⟨0, Nat.zero_le _, rfl, Lib.hid (Below.refl _ _)⟩
  case round =>
    obtain ⟨i, hi, rfl, hR⟩ := hrel
    by_cases hlt : i < l.length
    · have hil : (i : Int) < (l.length : Int) := by omega
      have hB := hR.out
      obtain ⟨b, off, rfl, hb, C⟩ := homes_at (h.later hB) hlt
      obtain ⟨b2, off2, rfl, hb2, C2⟩ := homes_at (h2.later hB) hlt
      generalize l[i] = r at *
      obtain ⟨c0, c1⟩ := C
      obtain ⟨d0, d1⟩ := C2
      have hne2 := fun W => home_neq r W
      clear hR
      go_upto_region 6 with fail
      go_region
      all_goals (go_wp2_with fail)
      go_roundw
      case rel => exact ⟨i + 1, by omega, by go_num, Lib.hid (hB.drew)⟩
      case measure => simp [vInt]; omega
    · have hil : ¬ (i : Int) < (l.length : Int) := by omega
      have hfin := hR.out
      clear hR
      go_wp2_with fail
      go_ret
      exact ⟨rfl, hfin⟩

set_option maxRecDepth 100000 in
set_option maxHeartbeats 2000000 in
theorem sameCode_any (l : List LawT) (s : List StillT) (A A2 S S2 : Option Addr) (c c2 cs cs2 : Nat) (w : World) (h : Laws w w.heap.size A l) (h2 : Laws w w.heap.size A2 l) (g : Stills w w.heap.size S s) (g2 : Stills w w.heap.size S2 s) (hl : l.length ≤ 1000) (hsl : s.length ≤ 1000) :
    Calls Tryz.prog 13 #[.agg #[.slice A l.length c, .slice S s.length cs], .agg #[.slice A2 l.length c2, .slice S2 s.length cs2]] w fun e w' => e = .returned (.bool true) ∧ Below w.heap.size w w' := by
  have hne : ((l.length : Int) != (l.length : Int)) = false := by simp
  have hnes : ((s.length : Int) != (s.length : Int)) = false := by simp
  have b1 := ((Below.refl w.heap.size w).alloc (Nat.le_refl _) (.cells #[.slice A l.length c, .slice S s.length cs] 25)).alloc (by simp) (.cells #[.slice A2 l.length c2, .slice S2 s.length cs2] 25)
  have k1 := (Blk.new w #[.slice A l.length c, .slice S s.length cs] 25).alloc (.cells #[.slice A2 l.length c2, .slice S2 s.length cs2] 25)
  have k2 := Blk.new (w.alloc (.cells #[.slice A l.length c, .slice S s.length cs] 25)) #[.slice A2 l.length c2, .slice S2 s.length cs2] 25
  simp only [World.size_alloc] at k2
  have H1 := Lib.hid (h.later b1)
  have H2 := Lib.hid (h2.later b1)
  have G1 := Lib.hid (g.later b1)
  have G2 := Lib.hid (g2.later b1)
  clear h h2 g g2
  go_enter Tryz.func13, Tryz.ntmps13
  go_upto_region 1 with fail
  generalize hW1 : (w.alloc (.cells #[.slice A l.length c, .slice S s.length cs] 25)).alloc (.cells #[.slice A2 l.length c2, .slice S2 s.length cs2] 25) = W1 at *
  clear hW1
  have q1 := k1.lt
  have q2 := k2.lt
  have k1c := k1.cell
  have k2c := k2.cell
  go_wp2_with fail
  clear k1c k2c
  go_loopw [5] (fun ii wr => ∃ i : Nat, i ≤ l.length ∧ ii = .int .i64 i ∧ Hid (Below W1.heap.size W1 wr)) (fun ii _ => l.length - (vInt ii).toNat)
  case atStart => exact ⟨0, Nat.zero_le _, rfl, Lib.hid (Below.refl _ _)⟩
  case round =>
    obtain ⟨i, hi, rfl, hR⟩ := hrel
    have hB := hR.out
    have k1c := (k1.below hB q1).cell
    have k2c := (k2.below hB q2).cell
    by_cases hlt : i < l.length
    · have hil : (i : Int) < (l.length : Int) := by omega
      obtain ⟨b, off, rfl, hb, C⟩ := laws_at (H1.out.later hB) hlt
      obtain ⟨b2, off2, rfl, hb2, C2⟩ := laws_at (H2.out.later hB) hlt
      generalize l[i] = r at *
      obtain ⟨c0, c1, c2', c3⟩ := C
      obtain ⟨d0, d1, d2, d3⟩ := C2
      have hne2 := fun W => law_neq r W
      clear hR k1 k2
      go_upto_region 6 with fail
      go_region
      all_goals (go_wp2_with fail)
      go_roundw
      case rel => exact ⟨i + 1, by omega, by go_num, Lib.hid (hB.drew)⟩
      case measure => simp [vInt]; omega
    · have hil : ¬ (i : Int) < (l.length : Int) := by omega
      obtain ⟨W9, rfl⟩ : ∃ W9 : World, W9 = wr := ⟨_, rfl⟩
      have k1d := k1.below hB q1
      have k2d := k2.below hB q2
      have G1d := Lib.hid (G1.out.later hB)
      have G2d := Lib.hid (G2.out.later hB)
      have b9 := b1.trans (hB.mono b1.size)
      have q1d := k1d.lt
      have q2d := k2d.lt
      clear hR k1 k2 G1 G2 H1 H2
      go_wp2_with fail
      clear k1c k2c
      go_loopw [6] (fun ii wr => ∃ i : Nat, i ≤ s.length ∧ ii = .int .i64 i ∧ Hid (Below W9.heap.size W9 wr)) (fun ii _ => s.length - (vInt ii).toNat)
      case atStart => exact ⟨0, Nat.zero_le _, rfl, Lib.hid (Below.refl _ _)⟩
      case round =>
        obtain ⟨j, hj, rfl, hR⟩ := hrel
        have hB2 := hR.out
        have k1c := (k1d.below hB2 q1d).cell
        have k2c := (k2d.below hB2 q2d).cell
        by_cases hlt2 : j < s.length
        · have hil2 : (j : Int) < (s.length : Int) := by omega
          obtain ⟨b, off, rfl, hb, C⟩ := stills_at (G1d.out.later hB2) hlt2
          obtain ⟨b2, off2, rfl, hb2, C2⟩ := stills_at (G2d.out.later hB2) hlt2
          generalize s[j] = r at *
          obtain ⟨c0, c1, c2'⟩ := C
          obtain ⟨d0, d1, d2⟩ := C2
          have hne2 := fun W => still_neq r W
          clear hR k1d k2d
          go_upto_region 11 with fail
          go_region
          all_goals (go_wp2_with fail)
          go_roundw
          case rel => exact ⟨j + 1, by omega, by go_num, Lib.hid (hB2.drew)⟩
          case measure => simp [vInt]; omega
        · have hil2 : ¬ (j : Int) < (s.length : Int) := by omega
          clear hR
          go_wp2_with fail
          go_ret
          exact ⟨rfl, b9.trans (hB2.mono b9.size)⟩
end Go.Proofs.YtkpaikampmeooaaGreatDoor

namespace Go.Proofs.YtkpaikampmeooaaGreatDoor
open Go.RowKit Go.Maps

section
variable {P : Program} (w : World)
/-- Nothing is appended to a row of the call's own. -/
theorem run_append_nothing (base : Nat) (t ty e : TypeId) (i : TypeInfo) (size : Nat) (ht : P.underlying t = some (.slice e)) (hi : P.info? e = some i)
    (v : Value) (n : Nat) (xs : List Value) (hown : w.ownsRow base e size v n xs) (c : Nat) : (Builtin.append_ #[t, t] ty #[v, .slice none 0 c]).run P w = .ok v w := by
  rcases hown.2 with ⟨rfl, rfl⟩ | ⟨g, cap, cur, rfl, _, _, hnc, _⟩
  · simp [Builtin.append_, run_underlying ht, sizeOf, typeInfo, hi, Builtin.lenOf, Builtin.firstCells]
  · simp [Builtin.append_, run_underlying ht, sizeOf, typeInfo, hi, Builtin.lenOf, Builtin.firstCells, hnc, storeCells]

/-- 'append(out, src...)', out the call's own, src whatever: nil, empty or not. -/
theorem wpList_append_src {ops : Array Oper} {rest : List Oper} {o : Oper} {a : Act} {Q : Exit → Act → World → Prop} (hgd : o.guard = none) (s x : Operand) (t : TypeId)
    (ho : o.op = .call { callee := .builtin .append, args := #[s, x], argTypes := #[t, t] })
    (base : Nat) (e : TypeId) (i : TypeInfo) (z : Value) (size bytes : Nat) (ht : P.underlying t = some (.slice e)) (hi : P.info? e = some i) (hz : i.zero = some z)
    (hsize : i.size = size) (hby : i.bytes = bytes) (hzs : z.cells.size = size) (hsz : 0 < size)
    (v : Value) (n : Nat) (xs : List Value) (hs : a.eval s = v) (hown : w.ownsRow base e size v n xs)
    (A : Option Addr) (m c : Nat) (news : List Value) (hx : a.eval x = .slice A m c) (hl : news.length = m * size) (hA : A = none → m = 0) (hnews : ∀ ad, A = some ad → ∀ j u, news[j]? = some u → w.cell? (ad.add j) = some u)
    (h1 : ∀ u ∈ news, u.oneCell' = true) (h63 : n + m ≤ maxLen) (hbytes : (n + m) * bytes ≤ 140737488355328) (hbase : base ≤ w.heap.size)
    (h : ∀ v' w', w'.ownsRow base e size v' (n + m) (xs ++ news) → w.grownBy w' v.ownBlock → (v'.ownBlock = v.ownBlock ∨ v'.ownBlock = some w.heap.size) → wpList P ops Q rest (a.put o.dst v') w') : wpList P ops Q (o :: rest) a w := by
  cases A with
  | some ad => exact wpList_append_own_at w hgd s x t ho base e i z size bytes ht hi hz hsize hby hzs hsz v n xs hs hown ad m c news hx hl (hnews ad rfl) h1 h63 hbytes hbase fun v' w' h2 h3 _ h5 => h v' w' h2 h3 h5
  | none =>
    obtain rfl := hA rfl
    have hn : news = [] := List.eq_nil_of_length_eq_zero (by simpa using hl)
    subst hn
    refine wpList_plain hgd fun K hK => ?_
    have hrun := run_append_nothing (P := P) w base t o.type e i size ht hi v n xs hown c
    unfold Oper.wp execOp
    simp only [ho, resolve, invoke, builtin, Sem.run_bind, Sem.run_pure, Result.andThen_ok, List.map_toArray, List.map_cons, List.map_nil, hs, hx, hrun]
    exact hK _ _ (h v w (by simpa using hown) (World.grownBy.refl w _) (.inl rfl))
end
theorem own_far {w : World} {base : Nat} {e : TypeId} {size n : Nat} {v : Value} {xs : List Value} (h : w.ownsRow base e size v n xs) {p : Addr} (hp : p.block < base) (u : Value) : (w.setCell p u).ownsRow base e size v n xs := by
  refine ⟨h.1, ?_⟩
  rcases h.2 with h0 | ⟨g, cap, cur, h1, h2, h3, h4⟩
  · exact .inl h0
  · exact .inr ⟨g, cap, cur, h1, h2, (Below.heap_setCell _ _ _ _ (by omega)).trans h3, h4⟩
theorem lawInfo : (Tryz.prog.info? 79).map (fun i => (i.zero, i.size, i.bytes)) = some (some (.agg #[.int .i64 0, .int .u8 0, .int .u8 0, .int .i64 0]), 4, 24) := by kernel_rfl
theorem stillInfo : (Tryz.prog.info? 81).map (fun i => (i.zero, i.size, i.bytes)) = some (some (.agg #[.int .i64 0, .int .i64 0, .int .u8 0]), 3, 24) := by kernel_rfl
theorem homeInfo : (Tryz.prog.info? 83).map (fun i => (i.zero, i.size, i.bytes)) = some (some (.agg #[.int .i64 0, .int .i64 0]), 2, 16) := by kernel_rfl

set_option maxRecDepth 100000 in
set_option maxHeartbeats 4000000 in
theorem twin4_any (l : List LawT) (s : List StillT) (A S : Option Addr) (c cs : Nat) (w : World) (h : Laws w w.heap.size A l) (hs : Stills w w.heap.size S s) (hl : l.length ≤ 1000) (hsl : s.length ≤ 1000) :
    Calls Tryz.prog 5 #[.agg #[.slice A l.length c, .slice S s.length cs]] w fun e w' => ∃ A' c' S' cs', e = .returned (.agg #[.slice A' l.length c', .slice S' s.length cs']) ∧ Laws w' w'.heap.size A' l ∧ Stills w' w'.heap.size S' s ∧ Below w.heap.size w w' := by
  obtain ⟨i0, hi0, hz0, hz1, hz2⟩ := info_parts lawInfo
  obtain ⟨i1, hi1, hy0, hy1, hy2⟩ := info_parts stillInfo
  have b1 := ((Below.refl w.heap.size w).alloc (Nat.le_refl _) (.cells #[.slice A l.length c, .slice S s.length cs] 25)).alloc (by simp) (.cells #[.slice none 0 0, .slice none 0 0] 25)
  have k1 := (Blk.new w #[.slice A l.length c, .slice S s.length cs] 25).alloc (.cells #[.slice none 0 0, .slice none 0 0] 25)
  have k2 := Blk.new (w.alloc (.cells #[.slice A l.length c, .slice S s.length cs] 25)) #[.slice none 0 0, .slice none 0 0] 25
  simp only [World.size_alloc] at k2
  go_enter Tryz.func5, Tryz.ntmps5
  go_upto_region 1 with fail
  generalize hW1 : (w.alloc (.cells #[.slice A l.length c, .slice S s.length cs] 25)).alloc (.cells #[.slice none 0 0, .slice none 0 0] 25) = W1 at *
  clear hW1
  have q1 := k1.lt
  have q2 := k2.lt
  have k1c := k1.cell
  have hown0 := own_empty W1 79 4 W1.heap.size (Nat.le_refl _)
  have b2 := b1.alloc b1.size (.cells #[] 79)
  have h0 := h.later b2
  go_upto_region 2 with (at_builtin; refine wpList_append_src _ rfl (.tmp 3) (.tmp 5) 22 rfl W1.heap.size 79 i0 _ 4 24 Tryz.underlying22 hi0 hz0 hz1 hz2 rfl (by decide) _ 0 [] rfl hown0 A l.length c (l.flatMap lawC) rfl (flat_len lawC_len l) (by rintro rfl; exact h.none_) (h0.news lawC_len (by decide)) (flat_ones lawC_one l) (by unfold maxLen; omega) (by omega) (by simp) ?_; intro v1 w2 hown1 hg1 _; rw [Nat.zero_add, List.nil_append] at hown1; obtain ⟨A1, c1, rfl⟩ := own_slice hown1; have k1g := (k1.alloc (.cells #[] 79)).grown hg1 (by intro e; have := (hown0.lt _ e.symm).1; omega); have k2g := (k2.alloc (.cells #[] 79)).grown hg1 (by intro e; have := (hown0.lt _ e.symm).1; omega); have b3 := b2.grown hg1 b2.size (fun k e => by have := (hown0.lt k e).1; have := b1.size; omega); have k1gc := k1g.cell; have k1gf := k1g.free; have q1g := k1g.lt)
  have b4 := b3.setCell (p := ⟨w.heap.size, 0, none⟩) (Nat.le_refl _) (.slice A1 l.length c1)
  have k1s := k1g.set 0 (.slice A1 l.length c1)
  have k2s := k2g.far (p := ⟨w.heap.size, 0, none⟩) (by simp) (.slice A1 l.length c1)
  have o1 := own_far hown1 (p := ⟨w.heap.size, 0, none⟩) q1 (.slice A1 l.length c1)
  have hzw : W1.heap.size ≤ w2.heap.size := by have := hg1.size; simp at this; omega
  have hzU : W1.heap.size ≤ (w2.setCell ⟨w.heap.size, 0, none⟩ (.slice A1 l.length c1)).heap.size := by simpa using hzw
  clear hown0 hown1 hg1 k1 k2 k1c k1g k2g k1gc k1gf b2 b3 h0 q1g
  generalize hU : w2.setCell ⟨w.heap.size, 0, none⟩ (.slice A1 l.length c1) = U at *
  clear hU
  have k1t : Blk U w.heap.size #[.slice A1 l.length c1, .slice S s.length cs] 25 := k1s
  have k1tc := k1t.cell
  have q1u := k1t.lt
  have q2u := k2s.lt
  have L1 := Lib.hid (Flat.of_own lawC_len (by decide) o1)
  have hown0 := own_empty U 81 3 U.heap.size (Nat.le_refl _)
  have b5 := b4.alloc b4.size (.cells #[] 81)
  have h0 := hs.later b5
  have bU := (Below.refl U.heap.size U).alloc (Nat.le_refl _) (.cells #[] 81)
  go_upto_region 3 with (at_builtin; refine wpList_append_src _ rfl (.tmp 8) (.tmp 10) 23 rfl U.heap.size 81 i1 _ 3 24 Tryz.underlying23 hi1 hy0 hy1 hy2 rfl (by decide) _ 0 [] rfl hown0 S s.length cs (s.flatMap stillC) rfl (flat_len stillC_len s) (by rintro rfl; exact hs.none_) (h0.news stillC_len (by decide)) (flat_ones stillC_one s) (by unfold maxLen; omega) (by omega) (by simp) ?_; intro v2 w3 hown2 hg2 _; rw [Nat.zero_add, List.nil_append] at hown2; obtain ⟨S1, s1, rfl⟩ := own_slice hown2; have hb3 : Below U.heap.size U w3 := bU.grown hg2 bU.size (fun k e => (hown0.lt k e).1); have k1g := k1t.below hb3 q1u; have k2g := k2s.below hb3 q2u; have o1g := own_below o1 hb3; have k1gc := k1g.cell; have k1gf := k1g.free; have q1g := k1g.lt)
  have b6 := (b4.trans (hb3.mono b4.size)).setCell (p := ⟨w.heap.size, 1, none⟩) (Nat.le_refl _) (.slice S1 s.length s1)
  have k1v : Blk (w3.setCell ⟨w.heap.size, 1, none⟩ (.slice S1 s.length s1)) w.heap.size #[.slice A1 l.length c1, .slice S1 s.length s1] 25 := k1g.set 1 (.slice S1 s.length s1)
  have k2v := k2g.far (p := ⟨w.heap.size, 1, none⟩) (by simp) (.slice S1 s.length s1)
  have o1v := own_far o1g (p := ⟨w.heap.size, 1, none⟩) q1 (.slice S1 s.length s1)
  have o2v := own_far hown2 (p := ⟨w.heap.size, 1, none⟩) q1u (.slice S1 s.length s1)
  clear hown0 hown2 hg2 k1t k1tc k1s k2s k1g k2g k1gc k1gf b5 h0 q1g bU hb3 o1 o1g b4 L1
  generalize hV : w3.setCell ⟨w.heap.size, 1, none⟩ (.slice S1 s.length s1) = V at *
  clear hV
  have k1vc := k1v.cell
  have k2vc := k2v.cell
  have k2vf := k2v.free
  have q3 := k2v.lt
  have O1 := Lib.hid (own_far (own_far o1v (p := ⟨w.heap.size + 1, 0, none⟩) q2 (.slice A1 l.length c1)) (p := ⟨w.heap.size + 1, 1, none⟩) q2 (.slice S1 s.length s1))
  have O2 := Lib.hid (own_far (own_far o2v (p := ⟨w.heap.size + 1, 0, none⟩) q2u (.slice A1 l.length c1)) (p := ⟨w.heap.size + 1, 1, none⟩) q2u (.slice S1 s.length s1))
  have hn0 : Hid (w.heap.size ≤ w.heap.size + 1) := Lib.hid (by omega)
  have B7 := Lib.hid ((b6.setCell (p := ⟨w.heap.size + 1, 0, none⟩) hn0.out (.slice A1 l.length c1)).setCell (p := ⟨w.heap.size + 1, 1, none⟩) hn0.out (.slice S1 s.length s1))
  clear o1v o2v b6
  go_wp2_with fail
  have hrc := ((k2v.set 0 (.slice A1 l.length c1)).set 1 (.slice S1 s.length s1)).cell
  exact bodyPost_ret (v := .agg #[.slice A1 l.length c1, .slice S1 s.length s1]) (by simp [results, Tryz.results5, go_sem, hrc]) rfl ⟨A1, c1, S1, s1, rfl, Flat.of_own lawC_len (by decide) O1.out, Flat.of_own stillC_len (by decide) O2.out, B7.out⟩
end Go.Proofs.YtkpaikampmeooaaGreatDoor
