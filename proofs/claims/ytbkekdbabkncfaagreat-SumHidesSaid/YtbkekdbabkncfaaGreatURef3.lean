/- Whether a question is valid, by the reference. -/
import Derived.Test.YtbkekdbabkncfaaGreatURef2

namespace Go.Proofs.YtbkekdbabkncfaaGreat
open Go.RowKit Go.Maps

set_option maxRecDepth 100000 in
set_option maxHeartbeats 8000000 in
theorem question10_any (columns : Int) (wh : List Whe) (col clip step : Int) (W : Option Addr) (wc : Nat) (w : World) (hq : WhesAt w w.heap.size W wh) (hl : wh.length ≤ 100) (hc : -1000 ≤ columns ∧ columns ≤ 1000) :
    Calls Tryz.prog 58 #[.int .i64 columns, .agg #[.slice W wh.length wc, .int .i64 col, .int .i64 clip, .int .i64 step]] w fun e w' => e = .returned (.bool (queB columns ⟨wh, col, clip, step⟩)) ∧ Below w.heap.size w w' := by
  have b1 := (Below.refl w.heap.size w).alloc (Nat.le_refl _) (.cells #[.slice W wh.length wc, .int .i64 col, .int .i64 clip, .int .i64 step] 25)
  have k1 := Blk.new w #[.slice W wh.length wc, .int .i64 col, .int .i64 clip, .int .i64 step] 25
  have hs1 := b1.size
  have k1c := k1.cell
  have g1 := k1.lt
  have hw : IntKind.i64.wrap (columns - 1) = columns - 1 := IntWalk.i64_in _ (by omega)
  have HW := Lib.hid within10_any
  by_cases q1 : wh.length ≤ 4
  rotate_left
  · have HR : Hid (queB columns ⟨wh, col, clip, step⟩ = false) := Lib.hid (by unfold queB; rw [decide_eq_false q1]; simp)
    have q1' : (4 : Int) < (wh.length : Int) := by omega
    clear hq
    go_enter Tryz.func58, Tryz.ntmps58
    go_wp2_with fail
    go_ret
    exact ⟨ret_bool HR.out.symm, b1⟩
  have q1' : ¬ (4 : Int) < (wh.length : Int) := by omega
  have HS := Lib.hid (within10_any step 1 1000000)
  cases q2 : inN step 1 1000000 with
  | false =>
    rw [q2] at HS
    have HR : Hid (queB columns ⟨wh, col, clip, step⟩ = false) := Lib.hid (by unfold queB; dsimp only; rw [q2]; simp)
    clear hq
    go_enter Tryz.func58, Tryz.ntmps58
    go_wp2_with (go_at_call 59; (with_reducible refine (HS.out _).mono ?_); rintro e w1 ⟨rfl, rfl⟩)
    go_ret
    exact ⟨ret_bool HR.out.symm, b1⟩
  | true =>
    rw [q2] at HS
    have HQ0 : Hid (queB columns ⟨wh, col, clip, step⟩ = (wh.all (wheB columns) && (if col = -1 then decide (clip = 1) else inN col 0 (columns - 1) && inN clip 1 1000000))) := Lib.hid (by unfold queB; dsimp only; rw [q2, decide_eq_true q1]; rfl)
    generalize queB columns ⟨wh, col, clip, step⟩ = R at *
    have HQ := Lib.hid hq
    clear hq
    go_enter Tryz.func58, Tryz.ntmps58
    go_wp2_with (go_at_call 59; (with_reducible refine (HS.out _).mono ?_); rintro e w1 ⟨rfl, rfl⟩)
    generalize hW : w.alloc (.cells #[.slice W wh.length wc, .int .i64 col, .int .i64 clip, .int .i64 step] 25) = W1 at *
    clear hW
    have HB := Lib.hid b1
    have HK1 : Hid (∀ W', Below W1.heap.size W1 W' → Blk W' w.heap.size #[.slice W wh.length wc, .int .i64 col, .int .i64 clip, .int .i64 step] 25) := Lib.hid (fun W' h => k1.below h g1)
    clear k1 k1c b1 HS
    go_loopw [5] (fun ii wr => ∃ i : Nat, i ≤ wh.length ∧ ii = .int .i64 i ∧ Hid ((∀ j, (h : j < wh.length) → j < i → wheB columns wh[j] = true) ∧ Below W1.heap.size W1 wr)) (fun ii _ => wh.length - (vInt ii).toNat)
    case atStart => exact ⟨0, Nat.zero_le _, rfl, Lib.hid ⟨fun j _ hj => by omega, Below.refl _ _⟩⟩
    case round =>
      obtain ⟨i, hi, rfl, hR⟩ := hrel
      obtain ⟨hJ, hB⟩ := hR.out
      clear hR
      have kq := HK1.out wr hB
      have bw := HB.out.trans (hB.mono hs1)
      by_cases hlt : i < wh.length
      · have hil : (i : Int) < (wh.length : Int) := by omega
        obtain ⟨b, off, rfl, hb, c0, c1, c2⟩ := whes_at (HQ.out.later bw) hlt
        have HF : Hid (wheB columns wh[i] = false → R = false) := Lib.hid (fun h => by
          rw [HQ0.out]
          have : wh.all (wheB columns) = false := by rw [List.all_eq_false]; exact ⟨wh[i], List.getElem_mem hlt, by rw [h]; simp⟩
          rw [this]; rfl)
        have HN : Hid (wheB columns wh[i] = true → ∀ j, (h : j < wh.length) → j < i + 1 → wheB columns wh[j] = true) := Lib.hid (fun h8 j h hj => by
          rcases Nat.lt_or_ge j i with h9 | h9
          · exact hJ j h h9
          · obtain rfl : j = i := by omega
            exact h8)
        clear hJ
        generalize wh[i] = zz at *
        obtain ⟨cc, lo, hi'⟩ := zz
        dsimp only at c0 c1 c2
        have HA := Lib.hid (within10_any cc 0 (columns - 1))
        have HBB := Lib.hid (within10_any lo 0 1000000)
        have HCC := Lib.hid (within10_any hi' 0 1000000)
        have hwb : wheB columns ⟨cc, lo, hi'⟩ = (inN cc 0 (columns - 1) && inN lo 0 1000000 && inN hi' 0 1000000) := rfl
        rw [hwb] at HF HN
        clear hwb
        have kqc := kq.cell
        have e2 := (Below.refl wr.heap.size wr).alloc (Nat.le_refl _) (.cells #[.int .i64 cc, .int .i64 lo, .int .i64 hi'] 68)
        have knc := (Blk.new wr #[.int .i64 cc, .int .i64 lo, .int .i64 hi'] 68).cell
        have kqn := (kq.below e2 kq.lt).cell
        go_upto_region 7 with fail
        generalize inN cc 0 (columns - 1) = p1 at *
        generalize inN lo 0 1000000 = p2 at *
        generalize inN hi' 0 1000000 = p3 at *
        cases p1 with
        | false =>
          have HR : Hid (R = false) := Lib.hid (HF.out (by simp))
          clear HF HN
          go_wp2_with (first
                    | (go_at_call 59; (with_reducible refine (HA.out _).mono ?_); rintro e w3 ⟨rfl, rfl⟩)
                    | (go_at_call 59; (with_reducible refine (HBB.out _).mono ?_); rintro e w3 ⟨rfl, rfl⟩)
                    | (go_at_call 59; (with_reducible refine (HCC.out _).mono ?_); rintro e w3 ⟨rfl, rfl⟩))
          go_ret
          exact ⟨ret_bool HR.out.symm, by
            have e1 := bw.trans (e2.mono bw.size)
            exact e1⟩
        | true =>
          cases p2 with
          | false =>
            have HR : Hid (R = false) := Lib.hid (HF.out (by simp))
            clear HF HN
            go_wp2_with (first
                      | (go_at_call 59; (with_reducible refine (HA.out _).mono ?_); rintro e w3 ⟨rfl, rfl⟩)
                      | (go_at_call 59; (with_reducible refine (HBB.out _).mono ?_); rintro e w3 ⟨rfl, rfl⟩)
                      | (go_at_call 59; (with_reducible refine (HCC.out _).mono ?_); rintro e w3 ⟨rfl, rfl⟩))
            go_ret
            exact ⟨ret_bool HR.out.symm, by
              have e1 := bw.trans (e2.mono bw.size)
              exact e1⟩
          | true =>
            cases p3 with
            | false =>
              have HR : Hid (R = false) := Lib.hid (HF.out (by simp))
              clear HF HN
              go_wp2_with (first
                        | (go_at_call 59; (with_reducible refine (HA.out _).mono ?_); rintro e w3 ⟨rfl, rfl⟩)
                        | (go_at_call 59; (with_reducible refine (HBB.out _).mono ?_); rintro e w3 ⟨rfl, rfl⟩)
                        | (go_at_call 59; (with_reducible refine (HCC.out _).mono ?_); rintro e w3 ⟨rfl, rfl⟩))
              go_ret
              exact ⟨ret_bool HR.out.symm, by
                have e1 := bw.trans (e2.mono bw.size)
                exact e1⟩
            | true =>
              have HJ := Lib.hid (HN.out rfl)
              clear HF HN
              go_wp2_with (first
          | (go_at_call 59; (with_reducible refine (HA.out _).mono ?_); rintro e w3 ⟨rfl, rfl⟩)
          | (go_at_call 59; (with_reducible refine (HBB.out _).mono ?_); rintro e w3 ⟨rfl, rfl⟩)
          | (go_at_call 59; (with_reducible refine (HCC.out _).mono ?_); rintro e w3 ⟨rfl, rfl⟩))
              go_roundw
              case rel => exact ⟨i + 1, by omega, by go_num, Lib.hid ⟨HJ.out, hB.trans (e2.mono hB.size)⟩⟩
              case measure => simp [vInt]; omega
      · have hil : ¬ (i : Int) < (wh.length : Int) := by omega
        have hall : wh.all (wheB columns) = true := by
          rw [List.all_eq_true]
          intro x hx
          obtain ⟨j, hj, rfl⟩ := List.mem_iff_getElem.1 hx
          exact hJ j hj (by omega)
        have HR := HQ0.out
        rw [hall, Bool.true_and] at HR
        have HRR := Lib.hid HR
        have HA := Lib.hid (within10_any col 0 (columns - 1))
        have HBB := Lib.hid (within10_any clip 1 1000000)
        have kqc := kq.cell
        obtain rfl : i = wh.length := by omega
        clear HR HQ0 hall hJ
        by_cases hcol : col = -1
        · subst hcol
          have HR2 : Hid (R = decide (clip = 1)) := Lib.hid (by rw [HRR.out, if_pos rfl])
          go_wp2_with fail
          go_ret
          exact ⟨ret_bool (by rw [HR2.out]; rfl), bw⟩
        · have hcb : (col == -1) = false := by rw [beq_eq_false_iff_ne]; exact hcol
          have HR2 : Hid (R = (inN col 0 (columns - 1) && inN clip 1 1000000)) := Lib.hid (by rw [HRR.out, if_neg hcol])
          clear HRR
          generalize inN col 0 (columns - 1) = p1 at *
          generalize inN clip 1 1000000 = p2 at *
          cases p1 <;> cases p2
          all_goals
            go_wp2_with (first
              | (go_at_call 59; (with_reducible refine (HA.out _).mono ?_); rintro e w3 ⟨rfl, rfl⟩)
              | (go_at_call 59; (with_reducible refine (HBB.out _).mono ?_); rintro e w3 ⟨rfl, rfl⟩))
            go_ret
            exact ⟨ret_bool (by rw [HR2.out]; rfl), bw⟩
end Go.Proofs.YtbkekdbabkncfaaGreat
