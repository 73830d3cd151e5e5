/- The model of the examples. Written by a program. -/
import Derived.Test.YtpahcbhikmfamaaGreatRP7
import Derived.Test.YtpahcbhikmfamaaGreatRExSP1

namespace Go.Proofs.YtpahcbhikmfamaaGreat
open Go.RowKit Go.Maps

theorem flat_blk {α : Type} {n : Nat} {f : α → List Value} {w : World} {g : Nat} {cs : Array Value} {t : TypeId} {l : List α} (h : Blk w g cs t) (hn : ∀ x, (f x).length = n) (hc : cs.toList = l.flatMap f) : Flat n f w w.heap.size (some ⟨g, 0, none⟩) l := fun k hk => by
  refine ⟨g, 0, rfl, h.lt, fun i hi => ?_⟩
  rw [Nat.zero_add, h.cell, ← flat_get hn l k hk i hi, ← hc]
  simp
def exCards (g : Nat) : List CrdD := [⟨1000, 20, [⟨⟨[10, 20], [0, 15, 30], 5⟩, some ⟨g + 1, 0, none⟩, 2, some ⟨g + 1 + 1, 0, none⟩, 3⟩, ⟨⟨[100], [25, -10], 0⟩, some ⟨g + 1 + 1 + 1, 0, none⟩, 1, some ⟨g + 1 + 1 + 1 + 1, 0, none⟩, 2⟩], some ⟨g + 1 + 1 + 1 + 1 + 1, 0, none⟩, 2⟩]
def exTrees (g : Nat) : List TreD := [⟨⟨500, [⟨1, 50, 1, 2, 0⟩, ⟨-1, 0, 0, 0, 8⟩, ⟨-1, 0, 0, 0, -40⟩]⟩, some ⟨g + 1 + 1 + 1 + 1 + 1 + 1 + 1, 0, none⟩, 3⟩]
def exM : Mdl := ⟨2, [⟨1000, 20, [⟨[10, 20], [0, 15, 30], 5⟩, ⟨[100], [25, -10], 0⟩]⟩], [⟨500, [⟨1, 50, 1, 2, 0⟩, ⟨-1, 0, 0, 0, 8⟩, ⟨-1, 0, 0, 0, -40⟩]⟩], 50⟩
theorem ex_eq (g : Nat) : (⟨2, (exCards g).map CrdD.v, (exTrees g).map TreD.v, 50⟩ : Mdl) = exM := rfl
theorem ex_le (g : Nat) (C T : Option Addr) (c t : Nat) : MdlLe ⟨2, exCards g, C, c, exTrees g, T, t, 50⟩ := by
  refine ⟨by simp [exCards], by simp [exTrees], ?_, ?_, ?_⟩
  · intro y hy
    simp only [exCards, List.mem_singleton] at hy
    subst hy; simp
  · intro y hy s hs
    simp only [exCards, List.mem_singleton] at hy
    subst hy
    simp only [List.mem_cons, List.not_mem_nil, or_false] at hs
    rcases hs with rfl | rfl <;> exact ⟨by simp, by simp⟩
  · intro y hy
    simp only [exTrees, List.mem_singleton] at hy
    subst hy; simp
/-- The model's blocks; 'lo' is the lower branch of its first node. -/
def ModelK (lo : Int) (g : Nat) (W : World) : Prop := Blk W (g + 1) #[.int .i64 10, .int .i64 20] 3 ∧ Blk W (g + 1 + 1) #[.int .i64 0, .int .i64 15, .int .i64 30] 3 ∧ Blk W (g + 1 + 1 + 1) #[.int .i64 100] 3 ∧ Blk W (g + 1 + 1 + 1 + 1) #[.int .i64 25, .int .i64 (-10)] 3 ∧ Blk W (g + 1 + 1 + 1 + 1 + 1) #[.slice (some ⟨g + 1, 0, none⟩) 2 2, .slice (some ⟨g + 1 + 1, 0, none⟩) 3 3, .int .i64 5, .slice (some ⟨g + 1 + 1 + 1, 0, none⟩) 1 1, .slice (some ⟨g + 1 + 1 + 1 + 1, 0, none⟩) 2 2, .int .i64 0] 42 ∧ Blk W (g + 1 + 1 + 1 + 1 + 1 + 1) #[.int .i64 1000, .int .i64 20, .slice (some ⟨g + 1 + 1 + 1 + 1 + 1, 0, none⟩) 2 2] 37 ∧ Blk W (g + 1 + 1 + 1 + 1 + 1 + 1 + 1) #[.int .i64 1, .int .i64 50, .int .i64 lo, .int .i64 2, .int .i64 0, .int .i64 (-1), .int .i64 0, .int .i64 0, .int .i64 0, .int .i64 8, .int .i64 (-1), .int .i64 0, .int .i64 0, .int .i64 0, .int .i64 (-40)] 48 ∧ Blk W (g + 1 + 1 + 1 + 1 + 1 + 1 + 1 + 1) #[.int .i64 500, .slice (some ⟨g + 1 + 1 + 1 + 1 + 1 + 1 + 1, 0, none⟩) 3 3] 45
def exTreesK (lo : Int) (g : Nat) : List TreD := [⟨⟨500, [⟨1, 50, lo, 2, 0⟩, ⟨-1, 0, 0, 0, 8⟩, ⟨-1, 0, 0, 0, -40⟩]⟩, some ⟨g + 1 + 1 + 1 + 1 + 1 + 1 + 1, 0, none⟩, 3⟩]
theorem modelK_mdl {lo : Int} {g : Nat} {W : World} (h : ModelK lo g W) : MdlAt W W.heap.size ⟨2, exCards g, (some ⟨g + 1 + 1 + 1 + 1 + 1 + 1, 0, none⟩), 1, exTreesK lo g, (some ⟨g + 1 + 1 + 1 + 1 + 1 + 1 + 1 + 1, 0, none⟩), 1, 50⟩ := by
  obtain ⟨k1, k2, k3, k4, k5, k6, k7, k8⟩ := h
  refine ⟨⟨flat_blk k6 crdC_len rfl, ?_⟩, ⟨flat_blk k8 treC_len rfl, ?_⟩⟩
  · intro y hy
    have hy' : y ∈ exCards g := hy
    simp only [exCards, List.mem_singleton] at hy'
    subst hy'
    refine ⟨flat_blk k5 sclC_len rfl, ?_⟩
    intro z hz
    simp only [List.mem_cons, List.not_mem_nil, or_false] at hz
    rcases hz with rfl | rfl
    · exact ⟨flat_blk k1 intC_len rfl, flat_blk k2 intC_len rfl⟩
    · exact ⟨flat_blk k3 intC_len rfl, flat_blk k4 intC_len rfl⟩
  · intro y hy
    have hy' : y ∈ exTreesK lo g := hy
    simp only [exTreesK, List.mem_singleton] at hy'
    subst hy'
    exact flat_blk k7 nodC_len rfl
/-- The model as it is handed back. -/
def ModelS (w : World) (e : Ending) (w' : World) : Prop := e = .returned (.agg #[.int .i64 2, .slice (some ⟨w.heap.size + 1 + 1 + 1 + 1 + 1 + 1, 0, none⟩) 1 1, .slice (some ⟨w.heap.size + 1 + 1 + 1 + 1 + 1 + 1 + 1 + 1, 0, none⟩) 1 1, .int .i64 50]) ∧ MdlAt w' w'.heap.size ⟨2, exCards w.heap.size, (some ⟨w.heap.size + 1 + 1 + 1 + 1 + 1 + 1, 0, none⟩), 1, exTrees w.heap.size, (some ⟨w.heap.size + 1 + 1 + 1 + 1 + 1 + 1 + 1 + 1, 0, none⟩), 1, 50⟩ ∧ Below w.heap.size w w'
set_option maxRecDepth 100000 in
set_option maxHeartbeats 4000000 in
theorem model_full (w : World) : Calls Tryz.prog 9 #[] w fun e w' => e = .returned (.agg #[.int .i64 2, .slice (some ⟨w.heap.size + 1 + 1 + 1 + 1 + 1 + 1, 0, none⟩) 1 1, .slice (some ⟨w.heap.size + 1 + 1 + 1 + 1 + 1 + 1 + 1 + 1, 0, none⟩) 1 1, .int .i64 50]) ∧ ModelK 1 w.heap.size w' ∧ Below w.heap.size w w' := by
  go_enter Tryz.func9, Tryz.ntmps9
  go_wp2_with fail
  obtain ⟨W1, h1⟩ : ∃ W, W = w.alloc (.cells #[.int .i64 2, .slice (some ⟨w.heap.size + 1 + 1 + 1 + 1 + 1 + 1, 0, none⟩) 1 1, .slice (some ⟨w.heap.size + 1 + 1 + 1 + 1 + 1 + 1 + 1 + 1, 0, none⟩) 1 1, .int .i64 50] 25) := ⟨_, rfl⟩
  obtain ⟨W2, h2⟩ : ∃ W, W = W1.alloc (.cells #[.int .i64 10, .int .i64 20] 3) := ⟨_, rfl⟩
  obtain ⟨W3, h3⟩ : ∃ W, W = W2.alloc (.cells #[.int .i64 0, .int .i64 15, .int .i64 30] 3) := ⟨_, rfl⟩
  obtain ⟨W4, h4⟩ : ∃ W, W = W3.alloc (.cells #[.int .i64 100] 3) := ⟨_, rfl⟩
  obtain ⟨W5, h5⟩ : ∃ W, W = W4.alloc (.cells #[.int .i64 25, .int .i64 (-10)] 3) := ⟨_, rfl⟩
  obtain ⟨W6, h6⟩ : ∃ W, W = W5.alloc (.cells #[.slice (some ⟨w.heap.size + 1, 0, none⟩) 2 2, .slice (some ⟨w.heap.size + 1 + 1, 0, none⟩) 3 3, .int .i64 5, .slice (some ⟨w.heap.size + 1 + 1 + 1, 0, none⟩) 1 1, .slice (some ⟨w.heap.size + 1 + 1 + 1 + 1, 0, none⟩) 2 2, .int .i64 0] 42) := ⟨_, rfl⟩
  obtain ⟨W7, h7⟩ : ∃ W, W = W6.alloc (.cells #[.int .i64 1000, .int .i64 20, .slice (some ⟨w.heap.size + 1 + 1 + 1 + 1 + 1, 0, none⟩) 2 2] 37) := ⟨_, rfl⟩
  obtain ⟨W8, h8⟩ : ∃ W, W = W7.alloc (.cells #[.int .i64 1, .int .i64 50, .int .i64 1, .int .i64 2, .int .i64 0, .int .i64 (-1), .int .i64 0, .int .i64 0, .int .i64 0, .int .i64 8, .int .i64 (-1), .int .i64 0, .int .i64 0, .int .i64 0, .int .i64 (-40)] 48) := ⟨_, rfl⟩
  obtain ⟨W9, h9⟩ : ∃ W, W = W8.alloc (.cells #[.int .i64 500, .slice (some ⟨w.heap.size + 1 + 1 + 1 + 1 + 1 + 1 + 1, 0, none⟩) 3 3] 45) := ⟨_, rfl⟩
  have s1 : W1.heap.size = w.heap.size + 1 := by rw [h1, World.size_alloc]
  have s2 : W2.heap.size = w.heap.size + 1 + 1 := by rw [h2, World.size_alloc, s1]
  have s3 : W3.heap.size = w.heap.size + 1 + 1 + 1 := by rw [h3, World.size_alloc, s2]
  have s4 : W4.heap.size = w.heap.size + 1 + 1 + 1 + 1 := by rw [h4, World.size_alloc, s3]
  have s5 : W5.heap.size = w.heap.size + 1 + 1 + 1 + 1 + 1 := by rw [h5, World.size_alloc, s4]
  have s6 : W6.heap.size = w.heap.size + 1 + 1 + 1 + 1 + 1 + 1 := by rw [h6, World.size_alloc, s5]
  have s7 : W7.heap.size = w.heap.size + 1 + 1 + 1 + 1 + 1 + 1 + 1 := by rw [h7, World.size_alloc, s6]
  have s8 : W8.heap.size = w.heap.size + 1 + 1 + 1 + 1 + 1 + 1 + 1 + 1 := by rw [h8, World.size_alloc, s7]
  have s9 : W9.heap.size = w.heap.size + 1 + 1 + 1 + 1 + 1 + 1 + 1 + 1 + 1 := by rw [h9, World.size_alloc, s8]
  have b8 : Below W8.heap.size W8 W9 := by rw [h9]; exact (Below.refl _ _).alloc (Nat.le_refl _) _
  have b7 : Below W7.heap.size W7 W9 := (show Below W7.heap.size W7 W8 from by rw [h8]; exact (Below.refl _ _).alloc (Nat.le_refl _) _).trans (b8.mono (by rw [s8]; rw [s7]; omega))
  have b6 : Below W6.heap.size W6 W9 := (show Below W6.heap.size W6 W7 from by rw [h7]; exact (Below.refl _ _).alloc (Nat.le_refl _) _).trans (b7.mono (by rw [s7]; rw [s6]; omega))
  have b5 : Below W5.heap.size W5 W9 := (show Below W5.heap.size W5 W6 from by rw [h6]; exact (Below.refl _ _).alloc (Nat.le_refl _) _).trans (b6.mono (by rw [s6]; rw [s5]; omega))
  have b4 : Below W4.heap.size W4 W9 := (show Below W4.heap.size W4 W5 from by rw [h5]; exact (Below.refl _ _).alloc (Nat.le_refl _) _).trans (b5.mono (by rw [s5]; rw [s4]; omega))
  have b3 : Below W3.heap.size W3 W9 := (show Below W3.heap.size W3 W4 from by rw [h4]; exact (Below.refl _ _).alloc (Nat.le_refl _) _).trans (b4.mono (by rw [s4]; rw [s3]; omega))
  have b2 : Below W2.heap.size W2 W9 := (show Below W2.heap.size W2 W3 from by rw [h3]; exact (Below.refl _ _).alloc (Nat.le_refl _) _).trans (b3.mono (by rw [s3]; rw [s2]; omega))
  have b1 : Below W1.heap.size W1 W9 := (show Below W1.heap.size W1 W2 from by rw [h2]; exact (Below.refl _ _).alloc (Nat.le_refl _) _).trans (b2.mono (by rw [s2]; rw [s1]; omega))
  have b0 : Below w.heap.size w W9 := (show Below w.heap.size w W1 from by rw [h1]; exact (Below.refl _ _).alloc (Nat.le_refl _) _).trans (b1.mono (by rw [s1]; omega))
  have k0 : Blk W9 (w.heap.size) #[.int .i64 2, .slice (some ⟨w.heap.size + 1 + 1 + 1 + 1 + 1 + 1, 0, none⟩) 1 1, .slice (some ⟨w.heap.size + 1 + 1 + 1 + 1 + 1 + 1 + 1 + 1, 0, none⟩) 1 1, .int .i64 50] 25 := (show Blk W1 (w.heap.size) _ _ from by rw [h1]; exact (newAt' w #[.int .i64 2, .slice (some ⟨w.heap.size + 1 + 1 + 1 + 1 + 1 + 1, 0, none⟩) 1 1, .slice (some ⟨w.heap.size + 1 + 1 + 1 + 1 + 1 + 1 + 1 + 1, 0, none⟩) 1 1, .int .i64 50] 25 (g := w.heap.size) rfl)).below b1 (by rw [s1]; omega)
  have k1 : Blk W9 (w.heap.size + 1) #[.int .i64 10, .int .i64 20] 3 := (show Blk W2 (w.heap.size + 1) _ _ from by rw [h2]; exact (newAt' W1 #[.int .i64 10, .int .i64 20] 3 (g := w.heap.size + 1) (by rw [s1]))).below b2 (by rw [s2]; omega)
  have k2 : Blk W9 (w.heap.size + 1 + 1) #[.int .i64 0, .int .i64 15, .int .i64 30] 3 := (show Blk W3 (w.heap.size + 1 + 1) _ _ from by rw [h3]; exact (newAt' W2 #[.int .i64 0, .int .i64 15, .int .i64 30] 3 (g := w.heap.size + 1 + 1) (by rw [s2]))).below b3 (by rw [s3]; omega)
  have k3 : Blk W9 (w.heap.size + 1 + 1 + 1) #[.int .i64 100] 3 := (show Blk W4 (w.heap.size + 1 + 1 + 1) _ _ from by rw [h4]; exact (newAt' W3 #[.int .i64 100] 3 (g := w.heap.size + 1 + 1 + 1) (by rw [s3]))).below b4 (by rw [s4]; omega)
  have k4 : Blk W9 (w.heap.size + 1 + 1 + 1 + 1) #[.int .i64 25, .int .i64 (-10)] 3 := (show Blk W5 (w.heap.size + 1 + 1 + 1 + 1) _ _ from by rw [h5]; exact (newAt' W4 #[.int .i64 25, .int .i64 (-10)] 3 (g := w.heap.size + 1 + 1 + 1 + 1) (by rw [s4]))).below b5 (by rw [s5]; omega)
  have k5 : Blk W9 (w.heap.size + 1 + 1 + 1 + 1 + 1) #[.slice (some ⟨w.heap.size + 1, 0, none⟩) 2 2, .slice (some ⟨w.heap.size + 1 + 1, 0, none⟩) 3 3, .int .i64 5, .slice (some ⟨w.heap.size + 1 + 1 + 1, 0, none⟩) 1 1, .slice (some ⟨w.heap.size + 1 + 1 + 1 + 1, 0, none⟩) 2 2, .int .i64 0] 42 := (show Blk W6 (w.heap.size + 1 + 1 + 1 + 1 + 1) _ _ from by rw [h6]; exact (newAt' W5 #[.slice (some ⟨w.heap.size + 1, 0, none⟩) 2 2, .slice (some ⟨w.heap.size + 1 + 1, 0, none⟩) 3 3, .int .i64 5, .slice (some ⟨w.heap.size + 1 + 1 + 1, 0, none⟩) 1 1, .slice (some ⟨w.heap.size + 1 + 1 + 1 + 1, 0, none⟩) 2 2, .int .i64 0] 42 (g := w.heap.size + 1 + 1 + 1 + 1 + 1) (by rw [s5]))).below b6 (by rw [s6]; omega)
  have k6 : Blk W9 (w.heap.size + 1 + 1 + 1 + 1 + 1 + 1) #[.int .i64 1000, .int .i64 20, .slice (some ⟨w.heap.size + 1 + 1 + 1 + 1 + 1, 0, none⟩) 2 2] 37 := (show Blk W7 (w.heap.size + 1 + 1 + 1 + 1 + 1 + 1) _ _ from by rw [h7]; exact (newAt' W6 #[.int .i64 1000, .int .i64 20, .slice (some ⟨w.heap.size + 1 + 1 + 1 + 1 + 1, 0, none⟩) 2 2] 37 (g := w.heap.size + 1 + 1 + 1 + 1 + 1 + 1) (by rw [s6]))).below b7 (by rw [s7]; omega)
  have k7 : Blk W9 (w.heap.size + 1 + 1 + 1 + 1 + 1 + 1 + 1) #[.int .i64 1, .int .i64 50, .int .i64 1, .int .i64 2, .int .i64 0, .int .i64 (-1), .int .i64 0, .int .i64 0, .int .i64 0, .int .i64 8, .int .i64 (-1), .int .i64 0, .int .i64 0, .int .i64 0, .int .i64 (-40)] 48 := (show Blk W8 (w.heap.size + 1 + 1 + 1 + 1 + 1 + 1 + 1) _ _ from by rw [h8]; exact (newAt' W7 #[.int .i64 1, .int .i64 50, .int .i64 1, .int .i64 2, .int .i64 0, .int .i64 (-1), .int .i64 0, .int .i64 0, .int .i64 0, .int .i64 8, .int .i64 (-1), .int .i64 0, .int .i64 0, .int .i64 0, .int .i64 (-40)] 48 (g := w.heap.size + 1 + 1 + 1 + 1 + 1 + 1 + 1) (by rw [s7]))).below b8 (by rw [s8]; omega)
  have k8 : Blk W9 (w.heap.size + 1 + 1 + 1 + 1 + 1 + 1 + 1 + 1) #[.int .i64 500, .slice (some ⟨w.heap.size + 1 + 1 + 1 + 1 + 1 + 1 + 1, 0, none⟩) 3 3] 45 := by rw [h9]; exact (newAt' W8 #[.int .i64 500, .slice (some ⟨w.heap.size + 1 + 1 + 1 + 1 + 1 + 1 + 1, 0, none⟩) 3 3] 45 (g := w.heap.size + 1 + 1 + 1 + 1 + 1 + 1 + 1 + 1) (by rw [s8]))
  rw [← h1, ← h2, ← h3, ← h4, ← h5, ← h6, ← h7, ← h8, ← h9]
  have k0c := k0.cell
  refine bodyPost_ret (v := .agg #[.int .i64 2, .slice (some ⟨w.heap.size + 1 + 1 + 1 + 1 + 1 + 1, 0, none⟩) 1 1, .slice (some ⟨w.heap.size + 1 + 1 + 1 + 1 + 1 + 1 + 1 + 1, 0, none⟩) 1 1, .int .i64 50]) (by simp [results, Tryz.results9, go_sem, k0c]) rfl ⟨rfl, ⟨k1, k2, k3, k4, k5, k6, k7, k8⟩, b0⟩
theorem model_any (w : World) : Calls Tryz.prog 9 #[] w (ModelS w) := (model_full w).mono fun _ _ h => ⟨h.1, modelK_mdl h.2.1, h.2.2⟩
theorem ex_score : scN exM [12, 30] = 64000 ∧ scY exM [12, 30] = true ∧ forE exM [12, 30] = 0 := by decide +kernel
theorem ex_points : ptL exM [-1, 200] = [15, -40] ∧ forE exM [-1, 200] = 0 := by decide +kernel
theorem ex_spans : (betV exM [⟨0, 15⟩, ⟨40, 60⟩]).lo = 25000 ∧ (betV exM [⟨0, 15⟩, ⟨40, 60⟩]).hi = 64000 ∧ betE exM [⟨0, 15⟩, ⟨40, 60⟩] = 0 := by decide +kernel
theorem ex_reasons : reaS exM [5, 200] = [0, 1] ∧ reaV exM [5, 200] = [10, 0] ∧ reaE exM [5, 200] = 0 := by decide +kernel
end Go.Proofs.YtpahcbhikmfamaaGreat

namespace Go.Proofs.YtpahcbhikmfamaaGreat
open Go.RowKit Go.Maps

set_option maxRecDepth 100000 in
set_option maxHeartbeats 4000000 in
theorem sameInts_any (l : List Int) (A B : Option Addr) (a b : Nat) (w : World) (h1 : IntsAt w w.heap.size A l) (h2 : IntsAt w w.heap.size B l) (hl : l.length ≤ 1000) :
    Calls Tryz.prog 14 #[.slice A l.length a, .slice B l.length b] w fun e w' => e = .returned (.bool true) ∧ Below w.heap.size w w' := by
  have hne : ((l.length : Int) != (l.length : Int)) = false := by simp
  go_enter Tryz.func14, Tryz.ntmps14
  go_wp2_with fail
  go_loopw [5] (fun ii wr => ∃ i : Nat, i ≤ l.length ∧ ii = .int .i64 i ∧ Hid (Below w.heap.size w wr)) (fun ii _ => l.length - (vInt ii).toNat)
  case atStart => exact ⟨0, Nat.zero_le _, rfl, Lib.hid (Below.refl _ _)⟩
  case round =>
    obtain ⟨i, hi, rfl, hR⟩ := hrel
    have hB := hR.out
    by_cases hlt : i < l.length
    · have hil : (i : Int) < (l.length : Int) := by omega
      obtain ⟨b1, off, rfl, hb, c0⟩ := ints_at (h1.later hB) hlt
      obtain ⟨b', off', rfl, hb', c0'⟩ := ints_at (h2.later hB) hlt
      have hq : (l[i] != l[i]) = false := by simp
      have d0 := After.cell (B := wr.heap.size) c0 hb
      have d1 := After.cell (B := wr.heap.size) c0' hb'
      clear hR
      generalize l[i] = y at *
      go_upto_region 6 with fail
      refine wp_region_class_lit (C := fun w' => ∃ z : After wr.heap.size wr, w' = z.val) (by kernel_rfl) (by kernel_rfl) ⟨⟨_, (Below.refl _ _).drew⟩, rfl⟩ ?_
      repeat (go_big_quiet_step (fail))
      refine wpQuiet_nil ?_
      intro wq hw'
      obtain ⟨⟨wz, hz⟩, hw''⟩ := hw'
      dsimp only at hw''
      subst hw''
      go_wp2_with fail
      go_roundw
      case rel => exact ⟨i + 1, by omega, by go_num, Lib.hid (hB.trans (hz.mono hB.size))⟩
      case measure => simp [vInt]; omega
    · have hil : ¬ (i : Int) < (l.length : Int) := by omega
      go_wp2_with fail
      go_ret
      exact ⟨rfl, hB⟩

end Go.Proofs.YtpahcbhikmfamaaGreat
