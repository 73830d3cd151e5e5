/- Those who are led: lists as data; the lists of leads when a loop's record is written. -/
import Derived.Test.YtbkekdbabkncfaaGreatVIt
import Derived.Test.YtbkekdbabkncfaaGreatW3

namespace Go.Proofs.YtbkekdbabkncfaaGreat
open Go.RowKit Go.Maps

theorem solL_append : ∀ (a b : List Eqn) (ls : List Led), solL ls (a ++ b) = solL (solL ls a) b
  | [], _, _ => rfl
  | x :: a, b, ls => solL_append a b (solS ls x)
theorem solB_append : ∀ (a b : List Eqn) (ls : List Led), solB ls (a ++ b) = (solB ls a && solB (solL ls a) b)
  | [], b, ls => by simp [solB, solL]
  | x :: a, b, ls => by
    rw [List.cons_append]
    simp only [solB, solL]
    rw [solB_append a b (solS ls x), Bool.and_assoc]
theorem joinL_len (ls : List Led) (x : Led) : (joinL ls x).length = ls.length + 1 := by unfold joinL; simp
theorem solS_len (ls : List Led) (e : Eqn) : (solS ls e).length ≤ ls.length + 1 := by
  unfold solS
  cases redE ls e with
  | none => simp
  | some x => simp only []; rw [joinL_len]; exact Nat.le_refl _
theorem solL_len : ∀ (l : List Eqn) (ls : List Led), (solL ls l).length ≤ ls.length + l.length
  | [], ls => by simp [solL]
  | e :: l, ls => by
    have h1 := solL_len l (solS ls e)
    have h2 := solS_len ls e
    simp only [solL, List.length_cons]; omega
theorem eqnL_len (ol : List SubD) (m : Nat) : ∀ (l : List Que) (k : Nat), (eqnL ol m k l).length ≤ l.length
  | [], _ => by simp [eqnL]
  | q :: l, k => by
    have := eqnL_len ol m l (k + 1)
    simp only [eqnL]
    split <;> simp <;> omega
/-- What a round needs of the bounds. -/
theorem sol_round {full : List Eqn} {pre : List EqD} {x : EqD} (hb : solB [] full = true) (hp : PreE full (pre ++ [x])) : solB1 (solL [] (pre.map EqD.v)) x.v = true ∧ solL [] ((pre ++ [x]).map EqD.v) = solS (solL [] (pre.map EqD.v)) x.v ∧ (solL [] (pre.map EqD.v)).length ≤ full.length := by
  obtain ⟨rest, rfl⟩ := hp
  rw [List.map_append, List.append_assoc, solB_append, Bool.and_eq_true] at hb
  have h2 := hb.2
  simp only [List.map_cons, List.map_nil, List.cons_append, List.nil_append, solB, Bool.and_eq_true] at h2
  refine ⟨h2.1, ?_, ?_⟩
  · rw [List.map_append, solL_append]; rfl
  · have := solL_len (pre.map EqD.v) []
    simp at this ⊢; omega
/-- Fractions do not lie in a block that has no two numbers. -/
theorem frcs_move {Q : Nat → Prop} {w w' : World} {A : Option Addr} {l : List Frc} {j : Nat} (h : FlatP 2 frcC w Q A l) (hs : w.heap.size ≤ w'.heap.size) (hb : ∀ b, b < w.heap.size → b ≠ j → w'.heap[b]? = w.heap[b]?) (hj : ∀ o n, w.cell? ⟨j, o, none⟩ ≠ some (.int .i64 n)) : FlatP 2 frcC w' Q A l := by
  intro k hk
  obtain ⟨b, off, e, hlt, hQ, hc⟩ := h k hk
  have hne : b ≠ j := by
    rintro rfl
    exact hj _ _ (hc 0 (by omega))
  exact ⟨b, off, e, Nat.lt_of_lt_of_le hlt hs, hQ, fun i hi => (World.cell?_of_block (hb b hlt hne)).trans (hc i hi)⟩
theorem loop_noInt {w : World} {j : Nat} {o : Obj} (hj : w.heap[j]? = some o) (ho : o.isCells = false) (a : Nat) (n : Int) : w.cell? ⟨j, a, none⟩ ≠ some (.int .i64 n) := by
  cases o <;> simp_all [World.cell?, Obj.isCells]
theorem box_noInt {w : World} {j n c : Nat} {A : Option Addr} {t : TypeId} (h : Blk w j #[.slice A n c] t) (a : Nat) (m : Int) : w.cell? ⟨j, a, none⟩ ≠ some (.int .i64 m) := by
  rw [h.cell a]
  cases a <;> simp
theorem leds_putLoop {B : Nat} {w : World} {A : Option Addr} {c : Nat} {L : List LedD} (h : LedsOwn B w A c L) {j : Nat} {o : Obj} (o' : Obj) (hj : w.heap[j]? = some o) (ho : o.isCells = false) : LedsOwn B (w.putObj j o') A c L :=
  ⟨ownsRow_putObj h.1 o' hj ho, fun x hx => ⟨frcs_move (h.2 x hx).1 (by simp) (fun b _ hb => World.putObj_heap_other (fun e => hb e)) (loop_noInt hj ho), frcs_move (h.2 x hx).2 (by simp) (fun b _ hb => World.putObj_heap_other (fun e => hb e)) (loop_noInt hj ho)⟩⟩
theorem leds_setBox {B : Nat} {w : World} {A A' : Option Addr} {c n c' : Nat} {L : List LedD} {t : TypeId} (h : LedsOwn B w A c L) {j : Nat} (v : Value) (hj : Blk w j #[.slice A' n c'] t) (hB : j < B) : LedsOwn B (w.setCell ⟨j, 0, none⟩ v) A c L :=
  ⟨ownsRow_setCell_below h.1 hB v, fun x hx => ⟨frcs_move (h.2 x hx).1 (by simp) (fun b _ hb => Below.heap_setCell _ _ _ _ (fun e => hb e)) (box_noInt hj), frcs_move (h.2 x hx).2 (by simp) (fun b _ hb => Below.heap_setCell _ _ _ _ (fun e => hb e)) (box_noInt hj)⟩⟩
end Go.Proofs.YtbkekdbabkncfaaGreat
