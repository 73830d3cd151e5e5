/- The closure that asks, a table that grows, and the cases: for SumBut. -/
import Derived.Test.YtbkekdbabkncfaaGreatVBuD
import Derived.Test.YtbkekdbabkncfaaGreatVFew

namespace Go.Proofs.YtbkekdbabkncfaaGreat
open Go.RowKit Go.Maps

def u16C (z : Int) : List Value := [.int .u16 z]
def qC (cl lo hi : Int) : Que := ⟨[⟨0, lo, hi⟩], 1, 1 + cl, 1⟩
set_option maxRecDepth 100000 in
set_option maxHeartbeats 4000000 in
theorem askC_any (lo hi cl : Int) (p : Nat) (w : World) (hk : w.cell? ⟨p, 0, none⟩ = some (.int .u16 cl)) (hp : p < w.heap.size) (hcl : 0 ≤ cl ∧ cl ≤ 65535) : Calls Tryz.prog 37 #[.int .i64 lo, .int .i64 hi, .pointer (some ⟨p, 0, none⟩)] w fun e w' => ∃ W c, e = .returned (.agg #[.slice W 1 c, .int .i64 1, .int .i64 (1 + cl), .int .i64 1]) ∧ Hid (FlatP 3 wheC w' (fun b => w.heap.size ≤ b) W [⟨0, lo, hi⟩]) ∧ Below w.heap.size w w' := by
  have B2 := ((Below.refl w.heap.size w).alloc (Nat.le_refl _) (.cells #[.slice (some ⟨w.heap.size + 1, 0, none⟩) 1 1, .int .i64 1, .int .i64 (1 + cl), .int .i64 1] 25)).alloc (by simp) (.cells #[.int .i64 0, .int .i64 lo, .int .i64 hi] 68)
  have k1 := ((Blk.new w #[.slice (some ⟨w.heap.size + 1, 0, none⟩) 1 1, .int .i64 1, .int .i64 (1 + cl), .int .i64 1] 25).alloc (.cells #[.int .i64 0, .int .i64 lo, .int .i64 hi] 68)).cell
  have k2 := newAt' (w.alloc (.cells #[.slice (some ⟨w.heap.size + 1, 0, none⟩) 1 1, .int .i64 1, .int .i64 (1 + cl), .int .i64 1] 25)) #[.int .i64 0, .int .i64 lo, .int .i64 hi] 68 (g := w.heap.size + 1) (by simp)
  have hkA : ∀ o o', ((w.alloc o).alloc o').cell? ⟨p, 0, none⟩ = some (.int .u16 cl) := fun o o' => ((((Below.refl w.heap.size w).alloc (Nat.le_refl _) o).alloc (by simp) o').cell (p := ⟨p, 0, none⟩) hp).trans hk
  have hkB : ∀ o, (w.alloc o).cell? ⟨p, 0, none⟩ = some (.int .u16 cl) := fun o => (((Below.refl w.heap.size w).alloc (Nat.le_refl _) o).cell (p := ⟨p, 0, none⟩) hp).trans hk
  have hw1 : IntKind.i64.wrap cl = cl := IntWalk.i64_in _ (by omega)
  have hw2 : IntKind.i64.wrap (1 + cl) = 1 + cl := IntWalk.i64_in _ (by omega)
  go_enter Tryz.func37, Tryz.ntmps37
  go_wp2
  refine bodyPost_ret (v := .agg #[.slice (some ⟨w.heap.size + 1, 0, none⟩) 1 1, .int .i64 1, .int .i64 (1 + cl), .int .i64 1]) (by simp [results, Tryz.results37, go_sem, k1]) rfl ⟨_, _, rfl, Lib.hid ?_, B2⟩
  intro k hk
  obtain rfl : k = 0 := by simpa using hk
  refine ⟨_, 0, rfl, k2.lt, by omega, fun i hi => ?_⟩
  rw [k2.cell]
  have h2 : i = 0 ∨ i = 1 ∨ i = 2 := by omega
  rcases h2 with rfl | rfl | rfl <;> rfl
theorem avl_but {cl : Int} (hcl : 0 ≤ cl ∧ cl ≤ 65535) {qs : List QueD} (h : ∀ q ∈ qs, ∃ lo hi, q.v = qC cl lo hi ∧ (0 ≤ lo ∧ lo ≤ 1000000) ∧ 0 ≤ hi ∧ hi ≤ 1000000) (hl : qs.length ≤ 8) : avlB 2 qs = true := by
  have hq : ∀ lo hi, (0 ≤ lo ∧ lo ≤ 1000000) → (0 ≤ hi ∧ hi ≤ 1000000) → queB 2 (qC cl lo hi) = true := fun lo hi h1 h2 => by
    unfold queB qC wheB
    simp only [List.length_cons, List.length_nil, List.all_cons, List.all_nil, Bool.and_true, Bool.and_eq_true, decide_eq_true_eq, inN_iff]
    refine ⟨⟨⟨by omega, by omega⟩, ⟨by omega, by omega⟩, by omega⟩, ?_⟩
    rw [if_neg (by omega)]
    simp only [Bool.and_eq_true, inN_iff]
    omega
  rw [avl_v]
  unfold avlV
  simp only [Bool.and_eq_true, decide_eq_true_eq, List.length_map, List.all_eq_true]
  refine ⟨hl, fun x hx => ?_⟩
  rw [List.mem_map] at hx
  obtain ⟨y, hy, rfl⟩ := hx
  obtain ⟨lo, hi, e, h1, h2⟩ := h y hy
  have hh : ∃ lo' hi', (qs.map QueD.v).headD ⟨[], 0, 0, 0⟩ = qC cl lo' hi' := by
    cases qs with
    | nil => cases hy
    | cons z r =>
      obtain ⟨lo', hi', e', _⟩ := h z (by simp)
      exact ⟨lo', hi', e'⟩
  obtain ⟨lo', hi', e'⟩ := hh
  rw [e, e']
  unfold fitB
  rw [hq lo hi h1 h2]
  simp [qC]
theorem case_but {n k : Nat} (hn : n ≤ 16) (hk : k < n) : caseB n k = true := by
  have h1 := all_but
  unfold allB at h1
  rw [List.all_eq_true] at h1
  have h2 := h1 n (List.mem_range.2 (by omega))
  rw [List.all_eq_true] at h2
  exact h2 k (List.mem_range.2 hk)
/-- A table that may grow: its row is owned, its values lie elsewhere. -/
def SubsOwn (B : Nat) (w : World) (A : Option Addr) (c : Nat) (L : List SubD) : Prop := w.ownsRow B 56 2 (.slice A L.length c) L.length (L.flatMap subC) ∧ ∀ x ∈ L, FlatP 1 intC w (fun b => (Value.slice A L.length c).ownBlock ≠ some b) x.V x.v.vals
theorem SubsOwn.later {B : Nat} {w w' : World} {A : Option Addr} {c : Nat} {L : List SubD} (h : SubsOwn B w A c L) (hb : Below w.heap.size w w') : SubsOwn B w' A c L := ⟨own_below h.1 hb, fun x hx => (h.2 x hx).move (Fr.below hb)⟩
theorem SubsOwn.at {B : Nat} {w : World} {A : Option Addr} {c : Nat} {L : List SubD} (h : SubsOwn B w A c L) : SubsAt w w.heap.size A L := ⟨Flat.of_own (c := c) subC_len (by decide) h.1, fun x hx => (h.2 x hx).flat⟩
theorem subs_snoc {B : Nat} {w w3 : World} {A A' : Option Addr} {c c' : Nat} {L : List SubD} {x : SubD} (hO : SubsOwn B w A c L) (hx : FlatP 1 intC w (fun b => (Value.slice A L.length c).ownBlock ≠ some b) x.V x.v.vals) (hg : w.grownBy w3 (Value.slice A L.length c).ownBlock) (hor : (Value.slice A' (L.length + 1) c').ownBlock = (Value.slice A L.length c).ownBlock ∨ (Value.slice A' (L.length + 1) c').ownBlock = some w.heap.size) (hown : w3.ownsRow B 56 2 (.slice A' (L.length + 1) c') (L.length + 1) (L.flatMap subC ++ subC x)) : SubsOwn B w3 A' c' (L ++ [x]) := by
  have hmv : ∀ (F : Option Addr) (l : List Int), FlatP 1 intC w (fun b => (Value.slice A L.length c).ownBlock ≠ some b) F l → FlatP 1 intC w3 (fun b => (Value.slice A' (L.length + 1) c').ownBlock ≠ some b) F l := fun F l h => by
    refine ((h.imp (Q := fun b => (Value.slice A L.length c).ownBlock ≠ some b ∧ b < w.heap.size) (fun b hb h => ⟨h, hb⟩)).move (Fr.grown hg (fun b hb e => hb.1 e.symm))).imp (fun b _ hb e => ?_)
    rcases hor with h1 | h1
    · rw [h1] at e; exact hb.1 e
    · rw [h1] at e; cases e; omega
  refine ⟨?_, fun y hy => ?_⟩
  · rw [List.flatMap_append, List.length_append]
    simpa using hown
  · rw [List.length_append]
    rw [List.mem_append] at hy
    rcases hy with h1 | h1
    · exact hmv _ _ (hO.2 y h1)
    · rw [List.mem_singleton] at h1
      subst h1
      exact hmv _ _ hx
end Go.Proofs.YtbkekdbabkncfaaGreat
