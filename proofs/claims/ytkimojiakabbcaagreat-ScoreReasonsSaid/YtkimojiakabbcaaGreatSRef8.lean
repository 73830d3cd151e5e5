/- The score, and the points, by the reference: errors first. Written by a program. -/
import Derived.Test.YtkimojiakabbcaaGreatSRef7

namespace Go.Proofs.YtkimojiakabbcaaGreat
open Go.RowKit Go.Maps

def scN (m : Mdl) (x : List Int) : Int := if forE m x = 0 then scoreM m x else 0
def scY (m : Mdl) (x : List Int) : Bool := if forE m x = 0 then decide (1000 * m.need ≤ scoreM m x) else false
def ptL (m : Mdl) (x : List Int) : List Int := if forE m x = 0 then ptsL m x else []
theorem forE_zero {m : Mdl} {x : List Int} (h : forE m x = 0) : mdlB m = true ∧ valsB m.traits x = true := by
  unfold forE at h
  by_cases h1 : mdlB m = true
  · rw [if_pos h1] at h
    by_cases h2 : valsB m.traits x = true
    · exact ⟨h1, h2⟩
    · rw [if_neg h2] at h; omega
  · rw [if_neg h1] at h; omega
theorem mdlB_parts {m : Mdl} (h : mdlB m = true) : (1 ≤ m.traits ∧ m.traits ≤ 5) ∧ (-1000000 ≤ m.need ∧ m.need ≤ 1000000) ∧ m.cards.length ≤ 2 ∧ m.trees.length ≤ 2 ∧ (∀ c ∈ m.cards, crdB m.traits c = true) ∧ ∀ t ∈ m.trees, treB m.traits t = true := by
  unfold mdlB at h
  simp only [Bool.and_eq_true, decide_eq_true_eq, List.all_eq_true] at h
  exact ⟨inN_iff.1 h.1.1.1.1.1, ptB_iff.1 h.1.1.1.1.2, h.1.1.1.2, h.1.1.2, h.1.2, h.2⟩
theorem valsB_len {traits : Int} {x : List Int} (h : valsB traits x = true) : (x.length : Int) = traits := by
  unfold valsB at h
  simp only [Bool.and_eq_true, decide_eq_true_eq] at h
  exact h.1
theorem scoreM_bound {m : Mdl} {x : List Int} (h : mdlB m = true) (hv : valsB m.traits x = true) (hxl : x.length ≤ 10) : -44000000000 ≤ scoreM m x ∧ scoreM m x ≤ 44000000000 := by
  obtain ⟨_, _, h3, h4, h5, h6⟩ := mdlB_parts h
  have hl := valsB_len hv
  have := sumL_bound (prodL m x) (fun z hz => by
    unfold prodL at hz
    rcases List.mem_append.1 hz with hz | hz
    · obtain ⟨q, hq, rfl⟩ := List.mem_map.1 hz
      have h7 := h5 q hq
      rw [← hl] at h7
      exact mul_bound (crdB_parts h7).1 (onCrd_bound h7 hxl)
    · obtain ⟨q, hq, rfl⟩ := List.mem_map.1 hz
      have h7 := h6 q hq
      rw [← hl] at h7
      have := onTre_bound h7
      exact mul_bound (treB_parts h7).1 (by omega))
  have hlen : (prodL m x).length = m.cards.length + m.trees.length := by unfold prodL; simp
  rw [hlen] at this
  rw [scoreM_eq]
  omega

set_option maxRecDepth 100000 in
set_option maxHeartbeats 8000000 in
theorem scoreR_all (traits need : Int) (cl : List CrdD) (tl : List TreD) (C T : Option Addr) (c t : Nat) (x : List Int) (A : Option Addr) (a : Nat) (w : World) (h : MdlAt w w.heap.size ⟨traits, cl, C, c, tl, T, t, need⟩) (hls : MdlLe ⟨traits, cl, C, c, tl, T, t, need⟩) (hx : IntsAt w w.heap.size A x) (hxl : x.length ≤ 10) :
    Calls Tryz.prog 37 #[.agg #[.int .i64 traits, .slice C cl.length c, .slice T tl.length t, .int .i64 need], .slice A x.length a] w fun e w' => e = .returned (.tuple #[.int .i64 (scN ⟨traits, cl.map CrdD.v, tl.map TreD.v, need⟩ x), .bool (scY ⟨traits, cl.map CrdD.v, tl.map TreD.v, need⟩ x), .int .i64 (forE ⟨traits, cl.map CrdD.v, tl.map TreD.v, need⟩ x)]) ∧ Below w.heap.size w w' := by
  have b1 := (Below.refl w.heap.size w).alloc (Nat.le_refl _) (.cells #[.int .i64 traits, .slice C cl.length c, .slice T tl.length t, .int .i64 need] 29)
  have k1 := Blk.new w #[.int .i64 traits, .slice C cl.length c, .slice T tl.length t, .int .i64 need] 29
  have g1 := k1.lt
  have k1c := k1.cell
  have b1s := b1.size
  have HC := Lib.hid (check6_all traits need cl tl C T c t _ (h.later b1) hls)
  have HVa := Lib.hid (fun W hb => values6_any traits (.slice C cl.length c) (.slice T tl.length t) (.int .i64 need) x A a W (hx.later (w' := W) hb) hxl)
  cases q1 : mdlB ⟨traits, cl.map CrdD.v, tl.map TreD.v, need⟩ with
  | false =>
    have hf : mdlE ⟨traits, cl.map CrdD.v, tl.map TreD.v, need⟩ = 60 := by unfold mdlE; rw [if_neg (by rw [q1]; simp)]
    have hE : forE ⟨traits, cl.map CrdD.v, tl.map TreD.v, need⟩ x = 60 := by unfold forE; rw [if_neg (by rw [q1]; simp)]
    have HR : Hid (scN ⟨traits, cl.map CrdD.v, tl.map TreD.v, need⟩ x = 0 ∧ scY ⟨traits, cl.map CrdD.v, tl.map TreD.v, need⟩ x = false ∧ forE ⟨traits, cl.map CrdD.v, tl.map TreD.v, need⟩ x = 60) := Lib.hid ⟨by unfold scN; rw [hE]; rfl, by unfold scY; rw [hE]; rfl, hE⟩
    rw [hf] at HC
    clear h hls hx hf q1 HVa hE
    generalize scN ⟨traits, cl.map CrdD.v, tl.map TreD.v, need⟩ x = rn at *
    generalize scY ⟨traits, cl.map CrdD.v, tl.map TreD.v, need⟩ x = ry at *
    generalize forE ⟨traits, cl.map CrdD.v, tl.map TreD.v, need⟩ x = re at *
    go_enter Tryz.func37, Tryz.ntmps37
    go_wp2_with (go_at_call 27; (with_reducible refine (HC.out).mono ?_); rintro e w2 ⟨rfl, h2⟩)
    go_ret3
    exact ⟨by rw [HR.out.1, HR.out.2.1, HR.out.2.2]; rfl, b1.trans (h2.mono b1s)⟩
  | true =>
    have hf : mdlE ⟨traits, cl.map CrdD.v, tl.map TreD.v, need⟩ = 0 := by unfold mdlE; rw [if_pos q1]
    rw [hf] at HC
    cases q2 : valsB traits x with
    | false =>
      have hE : forE ⟨traits, cl.map CrdD.v, tl.map TreD.v, need⟩ x = 61 := by unfold forE; rw [if_pos q1, if_neg (by show ¬ valsB traits x = true; rw [q2]; simp)]
      have HR : Hid (scN ⟨traits, cl.map CrdD.v, tl.map TreD.v, need⟩ x = 0 ∧ scY ⟨traits, cl.map CrdD.v, tl.map TreD.v, need⟩ x = false ∧ forE ⟨traits, cl.map CrdD.v, tl.map TreD.v, need⟩ x = 61) := Lib.hid ⟨by unfold scN; rw [hE]; rfl, by unfold scY; rw [hE]; rfl, hE⟩
      rw [q2] at HVa
      clear h hls hx hf q1 q2 hE
      generalize scN ⟨traits, cl.map CrdD.v, tl.map TreD.v, need⟩ x = rn at *
      generalize scY ⟨traits, cl.map CrdD.v, tl.map TreD.v, need⟩ x = ry at *
      generalize forE ⟨traits, cl.map CrdD.v, tl.map TreD.v, need⟩ x = re at *
      go_enter Tryz.func37, Tryz.ntmps37
      go_wp2_with (first
        | (go_at_call 27; (with_reducible refine (HC.out).mono ?_); rintro e w2 ⟨rfl, h2⟩; have b2 := b1.trans (h2.mono b1s); have k2c := (k1.below h2 g1).cell)
        | (go_at_call 42; (with_reducible refine (HVa.out _ b2).mono ?_); rintro e w3 ⟨rfl, h3⟩))
      go_ret3
      exact ⟨by rw [HR.out.1, HR.out.2.1, HR.out.2.2]; rfl, b2.trans (h3.mono b2.size)⟩
    | true =>
      have hE : forE ⟨traits, cl.map CrdD.v, tl.map TreD.v, need⟩ x = 0 := by unfold forE; rw [if_pos q1]; exact if_pos q2
      have HR : Hid (scN ⟨traits, cl.map CrdD.v, tl.map TreD.v, need⟩ x = scoreM ⟨traits, cl.map CrdD.v, tl.map TreD.v, need⟩ x ∧ scY ⟨traits, cl.map CrdD.v, tl.map TreD.v, need⟩ x = decide (1000 * need ≤ scoreM ⟨traits, cl.map CrdD.v, tl.map TreD.v, need⟩ x) ∧ forE ⟨traits, cl.map CrdD.v, tl.map TreD.v, need⟩ x = 0) := Lib.hid ⟨by unfold scN; rw [hE]; rfl, by unfold scY; rw [hE]; rfl, hE⟩
      obtain ⟨_, hnd, p3, p4, p5, p6⟩ := mdlB_parts q1
      have hl := valsB_len q2
      have hsb := scoreM_bound q1 q2 hxl
      have HS := Lib.hid (fun W hb => score6_all traits need cl tl C T c t x A a W (h.later (w' := W) hb) (hx.later hb) (fun y hy => by rw [hl]; exact p5 _ (List.mem_map_of_mem hy)) (fun y hy => by rw [hl]; exact p6 _ (List.mem_map_of_mem hy)) hls.cards hls.trees hxl)
      rw [q2] at HVa
      have hw : IntKind.i64.wrap (1000 * need) = 1000 * need := IntWalk.i64_in _ (by have := hnd; simp only at this; omega)
      clear h hls hx hf q1 q2 hE hnd p3 p4 p5 p6 hl
      generalize scN ⟨traits, cl.map CrdD.v, tl.map TreD.v, need⟩ x = rn at *
      generalize scY ⟨traits, cl.map CrdD.v, tl.map TreD.v, need⟩ x = ry at *
      generalize forE ⟨traits, cl.map CrdD.v, tl.map TreD.v, need⟩ x = re at *
      generalize scoreM ⟨traits, cl.map CrdD.v, tl.map TreD.v, need⟩ x = sc at *
      go_enter Tryz.func37, Tryz.ntmps37
      go_upto_region 7 with (first
        | (go_at_call 27; (with_reducible refine (HC.out).mono ?_); rintro e w2 ⟨rfl, h2⟩; have b2 := b1.trans (h2.mono b1s); have k2 := k1.below h2 g1; have k2c := k2.cell)
        | (go_at_call 42; (with_reducible refine (HVa.out _ b2).mono ?_); rintro e w3 ⟨rfl, h3⟩; have b3 := b2.trans (h3.mono b2.size); have k3 := k2.below h3 k2.lt; have k3c := k3.cell)
        | (go_at_call 65; (with_reducible refine (HS.out _ b3).mono ?_); rintro e w4 ⟨rfl, h4⟩; have b4 := b3.trans (h4.mono b3.size); have k4 := k3.below h4 k3.lt))
      have k4a := After.cells (B := w4.heap.size) k4.cell k4.lt
      by_cases hy : 1000 * need ≤ sc
      · have HY : Hid (ry = true) := Lib.hid (by rw [HR.out.2.1, decide_eq_true hy])
        refine wp_region_class_lit (C := fun w' => ∃ z : After w4.heap.size w4, w' = z.val) (by kernel_rfl) (by kernel_rfl) ⟨⟨_, (Below.refl _ _).drew⟩, rfl⟩ ?_
        repeat (go_big_quiet_step (fail))
        refine wpQuiet_nil ?_
        intro wq hw'
        obtain ⟨⟨wz, hz⟩, hw''⟩ := hw'
        dsimp only at hw''
        subst hw''
        go_wp2_with fail
        go_ret3
        exact ⟨by rw [HR.out.1, HY.out, HR.out.2.2]; rfl, b4.trans (hz.mono b4.size)⟩
      · have HY : Hid (ry = false) := Lib.hid (by rw [HR.out.2.1, decide_eq_false hy])
        refine wp_region_class_lit (C := fun w' => ∃ z : After w4.heap.size w4, w' = z.val) (by kernel_rfl) (by kernel_rfl) ⟨⟨_, (Below.refl _ _).drew⟩, rfl⟩ ?_
        repeat (go_big_quiet_step (fail))
        refine wpQuiet_nil ?_
        intro wq hw'
        obtain ⟨⟨wz, hz⟩, hw''⟩ := hw'
        dsimp only at hw''
        subst hw''
        go_wp2_with fail
        go_ret3
        exact ⟨by rw [HR.out.1, HY.out, HR.out.2.2]; rfl, b4.trans (hz.mono b4.size)⟩

end Go.Proofs.YtkimojiakabbcaaGreat
