/- The examples of scores: the other ones. Written by a program. -/
import Derived.Test.YtkimojiakabbcaaGreatRAlv

namespace Go.Proofs.YtkimojiakabbcaaGreat
open Go.RowKit Go.Shelf Go.Maps

/-- The model of the examples with a node that leads back to the first one. -/
def exTreesB (g : Nat) : List TreD := [⟨⟨500, [⟨1, 50, 0, 2, 0⟩, ⟨-1, 0, 0, 0, 8⟩, ⟨-1, 0, 0, 0, -40⟩]⟩, some ⟨g + 1 + 1 + 1 + 1 + 1 + 1 + 1, 0, none⟩, 3⟩]
def exB : Mdl := ⟨2, [⟨1000, 20, [⟨[10, 20], [0, 15, 30], 5⟩, ⟨[100], [25, -10], 0⟩]⟩], [⟨500, [⟨1, 50, 0, 2, 0⟩, ⟨-1, 0, 0, 0, 8⟩, ⟨-1, 0, 0, 0, -40⟩]⟩], 50⟩
theorem exB_eq (g : Nat) : (⟨2, (exCards g).map CrdD.v, (exTreesB g).map TreD.v, 50⟩ : Mdl) = exB := rfl
theorem exB_le (g : Nat) (C T : Option Addr) (c t : Nat) : MdlLe ⟨2, exCards g, C, c, exTreesB g, T, t, 50⟩ := by
  refine ⟨by simp [exCards], by simp [exTreesB], ?_, ?_, ?_⟩
  · intro y hy
    simp only [exCards, List.mem_singleton] at hy
    subst hy; simp
  · intro y hy s hs
    simp only [exCards, List.mem_singleton] at hy
    subst hy
    simp only [List.mem_cons, List.not_mem_nil, or_false] at hs
    rcases hs with rfl | rfl <;> exact ⟨by simp, by simp⟩
  · intro y hy
    simp only [exTreesB, List.mem_singleton] at hy
    subst hy; simp
theorem ex2_score : scN exM [5, 200] = -10000 ∧ scY exM [5, 200] = false ∧ forE exM [5, 200] = 0 := by decide +kernel
theorem ex2_points : ptL exM [12, 30] = [60, 8] ∧ forE exM [12, 30] = 0 := by decide +kernel
theorem ex2_reasons : reaS exM [12, 30] = [0] ∧ reaV exM [12, 30] = [0] ∧ reaE exM [12, 30] = 0 := by decide +kernel
theorem ex3_score : forE exM [1] = 61 := by decide +kernel
theorem ex3_points : forE exM [1, -2] = 61 := by decide +kernel
theorem ex3_reasons : reaE exM [1, 1000001] = 61 := by decide +kernel
theorem ex3_spans : betE exM [⟨0, 1⟩, ⟨2, 1⟩] = 61 := by decide +kernel
theorem ex3_bad : betE exB [] = 60 ∧ mdlE exB = 60 := by decide +kernel
theorem ex3_none : reaE ⟨1, [], [], 0⟩ [4] = 6 := by decide +kernel
theorem ex2Score (z : Int) (hz : z = -10000) (g b : Nat) (W : World) (hm : MdlAt W W.heap.size ⟨2, exCards g, (some ⟨g + 1 + 1 + 1 + 1 + 1 + 1, 0, none⟩), 1, exTrees g, (some ⟨g + 1 + 1 + 1 + 1 + 1 + 1 + 1 + 1, 0, none⟩), 1, 50⟩) (hx : IntsAt W W.heap.size (some ⟨b, 0, none⟩) [5, 200]) :
    Calls Tryz.prog 12 #[.agg #[.int .i64 2, .slice (some ⟨g + 1 + 1 + 1 + 1 + 1 + 1, 0, none⟩) 1 1, .slice (some ⟨g + 1 + 1 + 1 + 1 + 1 + 1 + 1 + 1, 0, none⟩) 1 1, .int .i64 50], .slice (some ⟨b, 0, none⟩) 2 2] W fun e w' => e = .returned (.tuple #[.int .i64 z, .bool false, .int .i64 0]) ∧ Below W.heap.size W w' := by
  subst hz
  have := scoreP_all 2 50 (exCards g) (exTrees g) (some ⟨g + 1 + 1 + 1 + 1 + 1 + 1, 0, none⟩) (some ⟨g + 1 + 1 + 1 + 1 + 1 + 1 + 1 + 1, 0, none⟩) 1 1 [5, 200] (some ⟨b, 0, none⟩) 2 W hm (ex_le g _ _ _ _) hx (by decide)
  rw [ex_eq, ex2_score.1, ex2_score.2.1, ex2_score.2.2] at this
  exact this
theorem ex2Points (g b : Nat) (W : World) (hm : MdlAt W W.heap.size ⟨2, exCards g, (some ⟨g + 1 + 1 + 1 + 1 + 1 + 1, 0, none⟩), 1, exTrees g, (some ⟨g + 1 + 1 + 1 + 1 + 1 + 1 + 1 + 1, 0, none⟩), 1, 50⟩) (hx : IntsAt W W.heap.size (some ⟨b, 0, none⟩) [12, 30]) :
    Calls Tryz.prog 14 #[.agg #[.int .i64 2, .slice (some ⟨g + 1 + 1 + 1 + 1 + 1 + 1, 0, none⟩) 1 1, .slice (some ⟨g + 1 + 1 + 1 + 1 + 1 + 1 + 1 + 1, 0, none⟩) 1 1, .int .i64 50], .slice (some ⟨b, 0, none⟩) 2 2] W (Two W 60 8 (fun s => .tuple #[s, .int .i64 0])) := by
  have := pointsP_all 2 50 (exCards g) (exTrees g) (some ⟨g + 1 + 1 + 1 + 1 + 1 + 1, 0, none⟩) (some ⟨g + 1 + 1 + 1 + 1 + 1 + 1 + 1 + 1, 0, none⟩) 1 1 [12, 30] (some ⟨b, 0, none⟩) 2 W hm (ex_le g _ _ _ _) hx (by decide)
  rw [ex_eq, ex2_points.1, ex2_points.2] at this
  refine this.mono ?_
  rintro e w' ⟨A', c', rfl, hown, hb⟩
  exact ⟨A', c', rfl, Flat.of_own intC_len (by decide) hown, hb⟩
/-- Two lists of one number. -/
def One2 (W : World) (x z : Int) (e : Ending) (w' : World) : Prop := ∃ A a B b, e = .returned (.tuple #[.slice A 1 a, .slice B 1 b, .int .i64 0]) ∧ IntsAt w' w'.heap.size A [x] ∧ IntsAt w' w'.heap.size B [z] ∧ Below W.heap.size W w'
theorem ex2Reasons (g b : Nat) (W : World) (hm : MdlAt W W.heap.size ⟨2, exCards g, (some ⟨g + 1 + 1 + 1 + 1 + 1 + 1, 0, none⟩), 1, exTrees g, (some ⟨g + 1 + 1 + 1 + 1 + 1 + 1 + 1 + 1, 0, none⟩), 1, 50⟩) (hx : IntsAt W W.heap.size (some ⟨b, 0, none⟩) [12, 30]) :
    Calls Tryz.prog 15 #[.agg #[.int .i64 2, .slice (some ⟨g + 1 + 1 + 1 + 1 + 1 + 1, 0, none⟩) 1 1, .slice (some ⟨g + 1 + 1 + 1 + 1 + 1 + 1 + 1 + 1, 0, none⟩) 1 1, .int .i64 50], .slice (some ⟨b, 0, none⟩) 2 2] W (One2 W 0 0) := by
  have := reasonsP_all 2 50 (exCards g) (exTrees g) (some ⟨g + 1 + 1 + 1 + 1 + 1 + 1, 0, none⟩) (some ⟨g + 1 + 1 + 1 + 1 + 1 + 1 + 1 + 1, 0, none⟩) 1 1 [12, 30] (some ⟨b, 0, none⟩) 2 W hm (ex_le g _ _ _ _) hx (by decide)
  refine this.mono ?_
  unfold ReaT
  rw [ex_eq, ex2_reasons.1, ex2_reasons.2.1, ex2_reasons.2.2]
  rintro e w' ⟨hb, A, a, B, b, rfl, hA, hB⟩
  exact ⟨A, a, B, b, rfl, hA, hB, hb⟩
theorem same1 (x : Int) (A B : Option Addr) (a b : Nat) (W : World) (h1 : IntsAt W W.heap.size A [x]) (h2 : IntsAt W W.heap.size B [x]) :
    Calls Tryz.prog 16 #[.slice A 1 a, .slice B 1 b] W fun e w' => e = .returned (.bool true) ∧ Below W.heap.size W w' := sameInts_any [x] A B a b W h1 h2 (by simp)
theorem ex3Score (g b : Nat) (W : World) (hm : MdlAt W W.heap.size ⟨2, exCards g, (some ⟨g + 1 + 1 + 1 + 1 + 1 + 1, 0, none⟩), 1, exTrees g, (some ⟨g + 1 + 1 + 1 + 1 + 1 + 1 + 1 + 1, 0, none⟩), 1, 50⟩) (hx : IntsAt W W.heap.size (some ⟨b, 0, none⟩) [1]) :
    Calls Tryz.prog 12 #[.agg #[.int .i64 2, .slice (some ⟨g + 1 + 1 + 1 + 1 + 1 + 1, 0, none⟩) 1 1, .slice (some ⟨g + 1 + 1 + 1 + 1 + 1 + 1 + 1 + 1, 0, none⟩) 1 1, .int .i64 50], .slice (some ⟨b, 0, none⟩) 1 1] W fun e w' => (∃ n y, e = .returned (.tuple #[.int .i64 n, .bool y, .int .i64 61])) ∧ Below W.heap.size W w' := by
  have := scoreP_all 2 50 (exCards g) (exTrees g) (some ⟨g + 1 + 1 + 1 + 1 + 1 + 1, 0, none⟩) (some ⟨g + 1 + 1 + 1 + 1 + 1 + 1 + 1 + 1, 0, none⟩) 1 1 [1] (some ⟨b, 0, none⟩) 1 W hm (ex_le g _ _ _ _) hx (by decide)
  rw [ex_eq, ex3_score] at this
  exact this.mono fun e w' ⟨he, hb⟩ => ⟨⟨_, _, he⟩, hb⟩
theorem ex3Points (g b : Nat) (W : World) (hm : MdlAt W W.heap.size ⟨2, exCards g, (some ⟨g + 1 + 1 + 1 + 1 + 1 + 1, 0, none⟩), 1, exTrees g, (some ⟨g + 1 + 1 + 1 + 1 + 1 + 1 + 1 + 1, 0, none⟩), 1, 50⟩) (hx : IntsAt W W.heap.size (some ⟨b, 0, none⟩) [1, -2]) :
    Calls Tryz.prog 14 #[.agg #[.int .i64 2, .slice (some ⟨g + 1 + 1 + 1 + 1 + 1 + 1, 0, none⟩) 1 1, .slice (some ⟨g + 1 + 1 + 1 + 1 + 1 + 1 + 1 + 1, 0, none⟩) 1 1, .int .i64 50], .slice (some ⟨b, 0, none⟩) 2 2] W fun e w' => (∃ A n c, e = .returned (.tuple #[.slice A n c, .int .i64 61])) ∧ Below W.heap.size W w' := by
  have := pointsP_all 2 50 (exCards g) (exTrees g) (some ⟨g + 1 + 1 + 1 + 1 + 1 + 1, 0, none⟩) (some ⟨g + 1 + 1 + 1 + 1 + 1 + 1 + 1 + 1, 0, none⟩) 1 1 [1, -2] (some ⟨b, 0, none⟩) 2 W hm (ex_le g _ _ _ _) hx (by decide)
  rw [ex_eq, ex3_points] at this
  refine this.mono ?_
  rintro e w' ⟨A', c', rfl, hown, hb⟩
  exact ⟨⟨A', _, c', rfl⟩, hb⟩
theorem ex3Reasons (g b : Nat) (W : World) (hm : MdlAt W W.heap.size ⟨2, exCards g, (some ⟨g + 1 + 1 + 1 + 1 + 1 + 1, 0, none⟩), 1, exTrees g, (some ⟨g + 1 + 1 + 1 + 1 + 1 + 1 + 1 + 1, 0, none⟩), 1, 50⟩) (hx : IntsAt W W.heap.size (some ⟨b, 0, none⟩) [1, 1000001]) :
    Calls Tryz.prog 15 #[.agg #[.int .i64 2, .slice (some ⟨g + 1 + 1 + 1 + 1 + 1 + 1, 0, none⟩) 1 1, .slice (some ⟨g + 1 + 1 + 1 + 1 + 1 + 1 + 1 + 1, 0, none⟩) 1 1, .int .i64 50], .slice (some ⟨b, 0, none⟩) 2 2] W fun e w' => (∃ A n c B k d, e = .returned (.tuple #[.slice A n c, .slice B k d, .int .i64 61])) ∧ Below W.heap.size W w' := by
  have := reasonsP_all 2 50 (exCards g) (exTrees g) (some ⟨g + 1 + 1 + 1 + 1 + 1 + 1, 0, none⟩) (some ⟨g + 1 + 1 + 1 + 1 + 1 + 1 + 1 + 1, 0, none⟩) 1 1 [1, 1000001] (some ⟨b, 0, none⟩) 2 W hm (ex_le g _ _ _ _) hx (by decide)
  refine this.mono ?_
  unfold ReaT
  rw [ex_eq, ex3_reasons]
  rintro e w' ⟨hb, A, a, B, b, rfl, hA, hB⟩
  exact ⟨⟨A, _, a, B, _, b, rfl⟩, hb⟩
theorem ex3Spans (g b : Nat) (W : World) (hm : MdlAt W W.heap.size ⟨2, exCards g, (some ⟨g + 1 + 1 + 1 + 1 + 1 + 1, 0, none⟩), 1, exTrees g, (some ⟨g + 1 + 1 + 1 + 1 + 1 + 1 + 1 + 1, 0, none⟩), 1, 50⟩) (hx : SpnsAt W W.heap.size (some ⟨b, 0, none⟩) [⟨0, 1⟩, ⟨2, 1⟩]) :
    Calls Tryz.prog 17 #[.agg #[.int .i64 2, .slice (some ⟨g + 1 + 1 + 1 + 1 + 1 + 1, 0, none⟩) 1 1, .slice (some ⟨g + 1 + 1 + 1 + 1 + 1 + 1 + 1 + 1, 0, none⟩) 1 1, .int .i64 50], .slice (some ⟨b, 0, none⟩) 2 2] W fun e w' => (∃ lo hi, e = .returned (.tuple #[.agg #[.int .i64 lo, .int .i64 hi], .int .i64 61])) ∧ Below W.heap.size W w' := by
  have := betweenP_all 2 50 (exCards g) (exTrees g) (some ⟨g + 1 + 1 + 1 + 1 + 1 + 1, 0, none⟩) (some ⟨g + 1 + 1 + 1 + 1 + 1 + 1 + 1 + 1, 0, none⟩) 1 1 [⟨0, 1⟩, ⟨2, 1⟩] (some ⟨b, 0, none⟩) 2 W hm (ex_le g _ _ _ _) hx (by decide)
  rw [ex_eq, ex3_spans] at this
  exact this.mono fun e w' ⟨he, hb⟩ => ⟨⟨_, _, he⟩, hb⟩
theorem ex3Bad (g : Nat) (W : World) (hm : MdlAt W W.heap.size ⟨2, exCards g, (some ⟨g + 1 + 1 + 1 + 1 + 1 + 1, 0, none⟩), 1, exTreesB g, (some ⟨g + 1 + 1 + 1 + 1 + 1 + 1 + 1 + 1, 0, none⟩), 1, 50⟩) :
    Calls Tryz.prog 17 #[.agg #[.int .i64 2, .slice (some ⟨g + 1 + 1 + 1 + 1 + 1 + 1, 0, none⟩) 1 1, .slice (some ⟨g + 1 + 1 + 1 + 1 + 1 + 1 + 1 + 1, 0, none⟩) 1 1, .int .i64 50], .slice none 0 0] W fun e w' => (∃ lo hi, e = .returned (.tuple #[.agg #[.int .i64 lo, .int .i64 hi], .int .i64 60])) ∧ Below W.heap.size W w' := by
  have := betweenP_all 2 50 (exCards g) (exTreesB g) (some ⟨g + 1 + 1 + 1 + 1 + 1 + 1, 0, none⟩) (some ⟨g + 1 + 1 + 1 + 1 + 1 + 1 + 1 + 1, 0, none⟩) 1 1 [] none 0 W hm (exB_le g _ _ _ _) (fun k hk => by simp at hk) (by decide)
  rw [exB_eq, ex3_bad.1] at this
  exact this.mono fun e w' ⟨he, hb⟩ => ⟨⟨_, _, he⟩, hb⟩
theorem ex3Check (g : Nat) (W : World) (hm : MdlAt W W.heap.size ⟨2, exCards g, (some ⟨g + 1 + 1 + 1 + 1 + 1 + 1, 0, none⟩), 1, exTreesB g, (some ⟨g + 1 + 1 + 1 + 1 + 1 + 1 + 1 + 1, 0, none⟩), 1, 50⟩) :
    Calls Tryz.prog 19 #[.agg #[.int .i64 2, .slice (some ⟨g + 1 + 1 + 1 + 1 + 1 + 1, 0, none⟩) 1 1, .slice (some ⟨g + 1 + 1 + 1 + 1 + 1 + 1 + 1 + 1, 0, none⟩) 1 1, .int .i64 50]] W fun e w' => e = .returned (.int .i64 60) ∧ Below W.heap.size W w' := by
  have : Calls Tryz.prog 19 #[.agg #[.int .i64 2, .slice (some ⟨g + 1 + 1 + 1 + 1 + 1 + 1, 0, none⟩) 1 1, .slice (some ⟨g + 1 + 1 + 1 + 1 + 1 + 1 + 1 + 1, 0, none⟩) 1 1, .int .i64 50]] W fun e w' => e = .returned (.int .i64 (mdlE ⟨2, (exCards g).map CrdD.v, (exTreesB g).map TreD.v, 50⟩)) ∧ Below W.heap.size W w' := checkP_any ⟨2, exCards g, (some ⟨g + 1 + 1 + 1 + 1 + 1 + 1, 0, none⟩), 1, exTreesB g, (some ⟨g + 1 + 1 + 1 + 1 + 1 + 1 + 1 + 1, 0, none⟩), 1, 50⟩ W hm (exB_le g _ _ _ _)
  rw [exB_eq, ex3_bad.2] at this
  exact this
theorem ex3None (b : Nat) (W : World) (hx : IntsAt W W.heap.size (some ⟨b, 0, none⟩) [4]) :
    Calls Tryz.prog 15 #[.agg #[.int .i64 1, .slice none 0 0, .slice none 0 0, .int .i64 0], .slice (some ⟨b, 0, none⟩) 1 1] W fun e w' => (∃ A n c B k d, e = .returned (.tuple #[.slice A n c, .slice B k d, .int .i64 6])) ∧ Below W.heap.size W w' := by
  have := reasonsP_all 1 0 [] [] none none 0 0 [4] (some ⟨b, 0, none⟩) 1 W ⟨⟨fun k hk => by simp at hk, fun y hy => by simp at hy⟩, ⟨fun k hk => by simp at hk, fun y hy => by simp at hy⟩⟩ ⟨by simp, by simp, fun y hy => by simp at hy, fun y hy => by simp at hy, fun y hy => by simp at hy⟩ hx (by decide)
  refine this.mono ?_
  unfold ReaT
  rw [List.map_nil, List.map_nil, ex3_none]
  rintro e w' ⟨hb, A, a, B, b, rfl, hA, hB⟩
  exact ⟨⟨A, _, a, B, _, b, rfl⟩, hb⟩
theorem ModelK.below {lo : Int} {g B : Nat} {W W' : World} (h : ModelK lo g W) (hb : Below B W W') (hg : g + 8 < B) : ModelK lo g W' := by
  obtain ⟨k1, k2, k3, k4, k5, k6, k7, k8⟩ := h
  exact ⟨k1.below hb (by omega), k2.below hb (by omega), k3.below hb (by omega), k4.below hb (by omega), k5.below hb (by omega), k6.below hb (by omega), k7.below hb (by omega), k8.below hb (by omega)⟩
theorem ModelK.bad {g : Nat} {W : World} (h : ModelK 1 g W) : ModelK 0 g (W.setCell ⟨g + 1 + 1 + 1 + 1 + 1 + 1 + 1, 2, none⟩ (.int .i64 0)) := by
  obtain ⟨k1, k2, k3, k4, k5, k6, k7, k8⟩ := h
  exact ⟨k1.far (by simp) _, k2.far (by simp) _, k3.far (by simp) _, k4.far (by simp) _, k5.far (by simp) _, k6.far (by simp) _, k7.set 2 _, k8.far (by simp) _⟩
theorem ModelK.mdlB {g : Nat} {W : World} (h : ModelK 0 g W) : MdlAt W W.heap.size ⟨2, exCards g, (some ⟨g + 1 + 1 + 1 + 1 + 1 + 1, 0, none⟩), 1, exTreesB g, (some ⟨g + 1 + 1 + 1 + 1 + 1 + 1 + 1 + 1, 0, none⟩), 1, 50⟩ := modelK_mdl h
end Go.Proofs.YtkimojiakabbcaaGreat
