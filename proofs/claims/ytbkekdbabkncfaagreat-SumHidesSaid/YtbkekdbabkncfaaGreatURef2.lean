/- What a subject counts, by the reference. -/
import Derived.Test.YtbkekdbabkncfaaGreatURef1

namespace Go.Proofs.YtbkekdbabkncfaaGreat
open Go.RowKit Go.Maps

set_option maxRecDepth 100000 in
set_option maxHeartbeats 4000000 in
theorem counts10_any (id : Int) (vals : List Int) (V : Option Addr) (vc : Nat) (wh : List Whe) (col clip step : Int) (W : Option Addr) (wc : Nat) (w : World) (hs : IntsAt w w.heap.size V vals) (hc : col = -1 ∨ ∃ k : Nat, col = k ∧ k < vals.length) :
    Calls Tryz.prog 33 #[.agg #[.int .i64 id, .slice V vals.length vc], .agg #[.slice W wh.length wc, .int .i64 col, .int .i64 clip, .int .i64 step]] w fun e w' => e = .returned (.int .i64 (cntQ ⟨id, vals⟩ ⟨wh, col, clip, step⟩)) ∧ Below w.heap.size w w' := by
  have b2 := ((Below.refl w.heap.size w).alloc (Nat.le_refl _) (.cells #[.int .i64 id, .slice V vals.length vc] 56)).alloc (by simp) (.cells #[.slice W wh.length wc, .int .i64 col, .int .i64 clip, .int .i64 step] 25)
  have k1 := (Blk.new w #[.int .i64 id, .slice V vals.length vc] 56).alloc (.cells #[.slice W wh.length wc, .int .i64 col, .int .i64 clip, .int .i64 step] 25)
  have k2 := newAt' (w.alloc (.cells #[.int .i64 id, .slice V vals.length vc] 56)) #[.slice W wh.length wc, .int .i64 col, .int .i64 clip, .int .i64 step] 25 (g := w.heap.size + 1) (by simp)
  have hs2 := b2.size
  have k1c := k1.cell
  have k2c := k2.cell
  have g1 := k1.lt
  have g2 := k2.lt
  rcases hc with rfl | ⟨k, rfl, hk⟩
  · have HR : Hid (cntQ ⟨id, vals⟩ ⟨wh, -1, clip, step⟩ = 1) := Lib.hid (by unfold cntQ; rw [if_pos rfl])
    clear hs
    go_enter Tryz.func33, Tryz.ntmps33
    go_wp2_with fail
    go_ret
    exact ⟨by rw [HR.out]; rfl, b2⟩
  · obtain ⟨b, off, rfl, hb, c3⟩ := ints_at (hs.later b2) hk
    have HR : Hid (cntQ ⟨id, vals⟩ ⟨wh, (k : Int), clip, step⟩ = min vals[k] clip) := Lib.hid (by unfold cntQ; rw [if_neg (by dsimp only; omega)]; dsimp only; rw [Int.toNat_natCast, getD_lt _ _ hk])
    generalize cntQ ⟨id, vals⟩ ⟨wh, (k : Int), clip, step⟩ = R at *
    have hne : ((k : Int) == -1) = false := by rw [beq_eq_false_iff_ne]; omega
    have hki : (k : Int) < (vals.length : Int) := by omega
    generalize vals[k] = v at *
    obtain ⟨u, hu⟩ : ∃ u, (if clip < v then clip else v) = u := ⟨_, rfl⟩
    have HU : Hid (R = u) := Lib.hid (by rw [HR.out, ← hu]; split <;> omega)
    clear hs
    go_enter Tryz.func33, Tryz.ntmps33
    go_upto_region 3 with fail
    generalize hW : (w.alloc (.cells #[.int .i64 id, .slice (some ⟨b, off, none⟩) vals.length vc] 56)).alloc (.cells #[.slice W wh.length wc, .int .i64 (k : Int), .int .i64 clip, .int .i64 step] 25) = wr at *
    clear hW
    have ksA := After.cells (B := wr.heap.size) k1.cell k1.lt
    have kqA := After.cells (B := wr.heap.size) k2.cell k2.lt
    have a3 := After.cell (B := wr.heap.size) c3 hb
    refine wp_region_class_lit (C := fun w' => ∃ z : After wr.heap.size wr, w' = z.val) (by kernel_rfl) (by kernel_rfl) ⟨⟨_, (Below.refl _ _).drew⟩, rfl⟩ ?_
    repeat (go_big_quiet_step (fail))
    refine wpQuiet_nil ?_
    intro wz0 hw'
    obtain ⟨⟨wz, hz⟩, hw''⟩ := hw'
    dsimp only at hw''
    subst hw''
    go_wp2_with fail
    go_ret
    exact ⟨by rw [HU.out]; rfl, b2.trans (hz.mono b2.size)⟩
end Go.Proofs.YtbkekdbabkncfaaGreat
