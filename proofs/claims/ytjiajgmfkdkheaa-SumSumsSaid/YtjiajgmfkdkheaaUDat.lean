/- Tables and questions (layer 10): as data, and how they lie in memory. -/
import Derived.Test.YtjiajgmfkdkheaaSBDat

namespace Go.Proofs.Ytjiajgmfkdkheaa
open Go.RowKit Go.Maps

structure Sub where
  id : Int
  vals : List Int
structure Whe where
  col : Int
  lo : Int
  hi : Int
structure Que where
  wheres : List Whe
  col : Int
  clip : Int
  step : Int
instance : Inhabited Sub := ⟨⟨0, []⟩⟩
instance : Inhabited Whe := ⟨⟨0, 0, 0⟩⟩
/-- A subject, and where its values lie. -/
structure SubD where
  v : Sub
  V : Option Addr
  c : Nat
instance : Inhabited SubD := ⟨⟨default, none, 0⟩⟩
structure QueD where
  v : Que
  W : Option Addr
  c : Nat
def subC (x : SubD) : List Value := [.int .i64 x.v.id, .slice x.V x.v.vals.length x.c]
def wheC (x : Whe) : List Value := [.int .i64 x.col, .int .i64 x.lo, .int .i64 x.hi]
def queC (x : QueD) : List Value := [.slice x.W x.v.wheres.length x.c, .int .i64 x.v.col, .int .i64 x.v.clip, .int .i64 x.v.step]
theorem subC_len (x : SubD) : (subC x).length = 2 := rfl
theorem wheC_len (x : Whe) : (wheC x).length = 3 := rfl
theorem queC_len (x : QueD) : (queC x).length = 4 := rfl
def WhesAt (w : World) (B : Nat) (A : Option Addr) (l : List Whe) : Prop := Flat 3 wheC w B A l
structure SubsAt (w : World) (B : Nat) (A : Option Addr) (l : List SubD) : Prop where
  row : Flat 2 subC w B A l
  each : ∀ x ∈ l, Flat 1 intC w B x.V x.v.vals
structure QuesAt (w : World) (B : Nat) (A : Option Addr) (l : List QueD) : Prop where
  row : Flat 4 queC w B A l
  each : ∀ x ∈ l, WhesAt w B x.W x.v.wheres
section
variable {w w' : World} {A : Option Addr} {B : Nat}
theorem SubsAt.below {l : List SubD} (h : SubsAt w B A l) (hb : Below B w w') : SubsAt w' B A l := ⟨h.row.below hb, fun x hx => (h.each x hx).below hb⟩
theorem SubsAt.later {l : List SubD} (h : SubsAt w w.heap.size A l) (hb : Below w.heap.size w w') : SubsAt w' w'.heap.size A l := ⟨h.row.later hb, fun x hx => (h.each x hx).later hb⟩
theorem QuesAt.below {l : List QueD} (h : QuesAt w B A l) (hb : Below B w w') : QuesAt w' B A l := ⟨h.row.below hb, fun x hx => (h.each x hx).below hb⟩
theorem QuesAt.later {l : List QueD} (h : QuesAt w w.heap.size A l) (hb : Below w.heap.size w w') : QuesAt w' w'.heap.size A l := ⟨h.row.later hb, fun x hx => (h.each x hx).later hb⟩
end

/-! What is valid. -/
def subB (columns : Int) (s : Sub) : Bool := inN s.id 0 999999 && decide ((s.vals.length : Int) = columns) && s.vals.all fun v => inN v 0 1000000
def tabB (columns : Int) (l : List Sub) : Bool := inN columns 1 5 && decide (l.length ≤ 16) && l.all (subB columns) && decide (l.map Sub.id).Nodup
def tabE (columns : Int) (l : List Sub) : Int := if tabB columns l = true then 0 else 100
def wheB (columns : Int) (x : Whe) : Bool := inN x.col 0 (columns - 1) && inN x.lo 0 1000000 && inN x.hi 0 1000000
def queB (columns : Int) (q : Que) : Bool := decide (q.wheres.length ≤ 4) && inN q.step 1 1000000 && q.wheres.all (wheB columns) && (if q.col = -1 then decide (q.clip = 1) else inN q.col 0 (columns - 1) && inN q.clip 1 1000000)
/-- The error of a table and a question. -/
def askE (columns : Int) (l : List Sub) (q : Que) : Int := if tabB columns l = true then (if queB columns q = true then 0 else 101) else 100

/-! Who is asked for, and the sum. -/
def askB (s : Sub) (q : Que) : Bool := q.wheres.all fun x => inN (s.vals.getD x.col.toNat 0) x.lo x.hi
def cntQ (s : Sub) (q : Que) : Int := if q.col = -1 then 1 else min (s.vals.getD q.col.toNat 0) q.clip
def metL (l : List Sub) (q : Que) : List Int := ordI ((l.filter fun s => askB s q).map Sub.id)
def sumN (l : List Sub) (q : Que) : Int := sumL ((l.filter fun s => askB s q).map fun s => cntQ s q)
def nearN (n step : Int) : Int := (n + step / 2) / step * step
def leastN (n step : Int) : Int := (n + step - 1) / step * step
/-- The two ways to round: the program's, and the reference's. -/
theorem near_eq (n step : Int) : (2 * n + step) / (2 * step) * step = nearN n step := by
  unfold nearN
  rw [← Int.ediv_ediv_of_nonneg (show (0 : Int) ≤ 2 by omega), show (2 * n + step) / 2 = n + step / 2 by omega]
theorem ask_parts {columns : Int} {l : List Sub} (h : tabB columns l = true) : (1 ≤ columns ∧ columns ≤ 5) ∧ l.length ≤ 16 ∧ (∀ s ∈ l, subB columns s = true) ∧ (l.map Sub.id).Nodup := by
  unfold tabB at h
  simp only [Bool.and_eq_true, decide_eq_true_eq, List.all_eq_true] at h
  exact ⟨inN_iff.1 h.1.1.1, h.1.1.2, h.1.2, h.2⟩
theorem sub_parts {columns : Int} {s : Sub} (h : subB columns s = true) : (0 ≤ s.id ∧ s.id ≤ 999999) ∧ (s.vals.length : Int) = columns ∧ ∀ v ∈ s.vals, 0 ≤ v ∧ v ≤ 1000000 := by
  unfold subB at h
  simp only [Bool.and_eq_true, decide_eq_true_eq, List.all_eq_true] at h
  exact ⟨inN_iff.1 h.1.1, h.1.2, fun v hv => inN_iff.1 (h.2 v hv)⟩
end Go.Proofs.Ytjiajgmfkdkheaa
