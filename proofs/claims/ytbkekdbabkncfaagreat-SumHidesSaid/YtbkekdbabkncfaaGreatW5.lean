/- Whether questions make an audit, by the program. Written by v18.py. -/
import Derived.Test.YtbkekdbabkncfaaGreatVP17
import Derived.Test.YtbkekdbabkncfaaGreatUPrg8
import Derived.Test.YtbkekdbabkncfaaGreatRM

namespace Go.Proofs.YtbkekdbabkncfaaGreat
open Go.RowKit Go.Maps

def avlB (columns : Int) (l : List QueD) : Bool := decide (l.length ≤ 8) && l.all (fun x : QueD => fitB columns (q0L l) x.v)
set_option maxRecDepth 100000 in
set_option maxHeartbeats 4000000 in
theorem auditValid_any (columns : Int) (l : List QueD) (A : Option Addr) (c : Nat) (w : World) (hcb : -1000 ≤ columns ∧ columns ≤ 1000) (h : QuesAt w w.heap.size A l) (hl : l.length ≤ 1000) (hql : ∀ x ∈ l, x.v.wheres.length ≤ maxLen) :
    Calls Tryz.prog 70 #[.int .i64 columns, .slice A l.length c] w fun e w' => e = .returned (.bool (avlB columns l)) ∧ Below w.heap.size w w' := by
  have b2 := ((Below.refl w.heap.size w).alloc (Nat.le_refl _) (.cells #[.int .i64 columns] 3)).alloc (by simp) (.cells #[.slice A l.length c] 35)
  have k1 := (Blk.new w #[.int .i64 columns] 3).alloc (.cells #[.slice A l.length c] 35)
  have k2 := newAt' (w.alloc (.cells #[.int .i64 columns] 3)) #[.slice A l.length c] 35 (g := w.heap.size + 1) (by simp)
  generalize hW2 : (w.alloc (.cells #[.int .i64 columns] 3)).alloc (.cells #[.slice A l.length c] 35) = W2 at *
  have g1 := k1.lt
  have g2 := k2.lt
  have HC := Lib.hid (fun W (hb : Below W2.heap.size W2 W) => containsUnfit_any columns l A c w.heap.size (w.heap.size + 1) W ((k1.below hb g1).cell 0) (k1.below hb g1).lt ((k2.below hb g2).cell 0) (k2.below hb g2).lt hcb ((h.later b2).later hb) hl hql)
  have k1c := k1.cell
  have k2c := k2.cell
  unfold avlB
  clear h hql
  generalize l.all (fun x : QueD => fitB columns (q0L l) x.v) = v at *
  by_cases h8 : l.length ≤ 8
  · have h8I : (l.length : Int) ≤ 8 := by omega
    go_enter Tryz.func70, Tryz.ntmps70
    go_wp2_with (go_at_call 100; (with_reducible refine (HC.out _ (Below.refl _ _)).mono ?_); rintro e w3 ⟨rfl, h3⟩)
    go_ret
    exact ⟨ret_bool (by simp [h8]), b2.trans (h3.mono b2.size)⟩
  · have h8I : ¬ (l.length : Int) ≤ 8 := by omega
    go_enter Tryz.func70, Tryz.ntmps70
    go_wp2_with fail
    go_ret
    exact ⟨ret_bool (by simp), b2⟩
end Go.Proofs.YtbkekdbabkncfaaGreat

namespace Go.Proofs.YtbkekdbabkncfaaGreat
open Go.RowKit Go.Maps

/-- An equation, and where its lists are. -/
structure EqD where
  v : Eqn
  F : Option Addr
  f : Nat
  P : Option Addr
  p : Nat
def encE (x : EqD) : Array Value := #[.agg #[.slice x.F x.v.fs.length x.f, .slice x.P x.v.ps.length x.p]]
def EqdAt (x : EqD) (w : World) : Prop := EqAt w w.heap.size x.F x.P x.v
theorem yieldAt_wide {m : Nat} (m' : Nat) {P : Program} {l : Nat} {args : Array Value} {W : World} {R : Ending → World → Prop} (h : YieldAt Fence.wide m P l args W R) : YieldAt Fence.wide m' P l args W R := by
  obtain ⟨fn, tmps, assign, body, hy, hR⟩ := h
  exact ⟨fn, tmps, assign, body, hy, hR.1, fun c cs _ => hR.2 c cs (fun d h => by cases h)⟩
theorem eqnL_snoc (ol : List SubD) (m : Nat) : ∀ (l : List Que) (k : Nat) (q : Que), eqnL ol m k (l ++ [q]) = eqnL ol m k l ++ if bitsN (askL q ol) = 0 then [] else [⟨digL (bitsN (askL q ol)) ol.length, digL (2 ^ (k + l.length)) m⟩]
  | [], k, q => by
    simp only [List.nil_append, eqnL, List.length_nil, Nat.add_zero]
  | x :: l, k, q => by
    rw [List.cons_append]
    simp only [eqnL]
    rw [eqnL_snoc ol m l (k + 1) q, List.length_cons, show k + 1 + l.length = k + (l.length + 1) by omega]
    split <;> simp

set_option maxRecDepth 100000 in
set_option maxHeartbeats 4000000 in
theorem equations_any (I : Option Addr) (n c m : Nat) (Q : Option Addr) (ql qc : Nat) (w : World) :
    Calls Tryz.prog 72 #[.agg #[.slice I n c, .map (some m)], .slice Q ql qc] w fun e w' => ∃ lb tb, e = .returned (.func (.func 105) #[] #[.pointer (some ⟨lb, 0, none⟩), .pointer (some ⟨tb, 0, none⟩)]) ∧ Blk w' lb #[.slice Q ql qc] 35 ∧ Blk w' tb #[.slice I n c, .map (some m)] 72 ∧ Below w.heap.size w w' := by
  have b2 := ((Below.refl w.heap.size w).alloc (Nat.le_refl _) (.cells #[.slice I n c, .map (some m)] 72)).alloc (by simp) (.cells #[.slice Q ql qc] 35)
  have k1 := (Blk.new w #[.slice I n c, .map (some m)] 72).alloc (.cells #[.slice Q ql qc] 35)
  have k2 := newAt' (w.alloc (.cells #[.slice I n c, .map (some m)] 72)) #[.slice Q ql qc] 35 (g := w.heap.size + 1) (by simp)
  go_enter Tryz.func72, Tryz.ntmps72
  go_wp2
  go_ret
  exact ⟨_, _, rfl, k2, k1, b2⟩
end Go.Proofs.YtbkekdbabkncfaaGreat
