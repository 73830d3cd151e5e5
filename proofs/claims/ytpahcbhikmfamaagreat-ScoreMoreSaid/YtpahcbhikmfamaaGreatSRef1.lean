/- Scales, cards, trees, models and values, by the reference: whether they are valid. -/
import Derived.Test.YtpahcbhikmfamaaGreatRExSP1

namespace Go.Proofs.YtpahcbhikmfamaaGreat
open Go.RowKit Go.Maps

set_option maxHeartbeats 400000 in
theorem within6_any (n lo hi : Int) (w : World) :
    Calls Tryz.prog 26 #[.int .i64 n, .int .i64 lo, .int .i64 hi] w fun e w' => e = .returned (.bool (inN n lo hi)) ∧ w = w' := by
  go_enter Tryz.func26, Tryz.ntmps26
  go_wp2
  all_goals go_ret
  all_goals refine ⟨ret_bool ?_, rfl⟩
  · have h : lo ≤ n := by assumption
    simp [inN, h]
  · have h : n < lo := by assumption
    have h' : ¬ lo ≤ n := by omega
    simp [inN, h']
set_option maxHeartbeats 400000 in
theorem points6_any (n : Int) (w : World) :
    Calls Tryz.prog 27 #[.int .i64 n] w fun e w' => e = .returned (.bool (ptB n)) ∧ w = w' := by
  have H := Lib.hid (within6_any n (-1000000) 1000000 w)
  go_enter Tryz.func27, Tryz.ntmps27
  go_wp2_with (go_at_call 26; (with_reducible refine (H.out).mono ?_); rintro e w1 ⟨rfl, rfl⟩)
  go_ret
  exact ⟨rfl, rfl⟩

theorem cut_pos {l : List Int} {i : Nat} (h : ∀ j, j < i → cutB l j = true) : ∀ j, j < i → 1 ≤ l.getD j 0
  | 0, hj => by have := h 0 hj; rw [cutB, inN_iff, if_pos rfl] at this; omega
  | j + 1, hj => by
    have h1 := cut_pos h j (by omega)
    have := h (j + 1) hj
    rw [cutB, inN_iff, if_neg (by omega)] at this
    rw [Nat.add_sub_cancel] at this
    omega
/-- A cut by the two tests of the reference. -/
theorem cut_test {l : List Int} {i : Nat} (hi : i < l.length) (h : ∀ j, j < i → cutB l j = true) : cutB l i = (inN l[i] 1 1000000 && (decide (i = 0) || decide (l[i - 1]'(by omega) < l[i]))) := by
  rw [cutB, getD_lt l 0 hi]
  rcases Nat.eq_zero_or_pos i with rfl | h0
  · simp
  · have h1 := cut_pos h (i - 1) (by omega)
    rw [getD_lt l 0 (by omega : i - 1 < l.length)] at h1 ⊢
    rw [if_neg (by omega), decide_eq_false (by omega : ¬ i = 0), Bool.false_or, Bool.eq_iff_iff]
    simp only [inN_iff, Bool.and_eq_true, decide_eq_true_eq]
    omega
theorem sclB_cut {s : Scl} {i : Nat} (hi : i < s.cuts.length) (h : cutB s.cuts i = false) : sclB s = false := by
  unfold sclB
  have : cutsB s.cuts = false := rangeB_stop hi h
  rw [this]; simp
theorem sclB_pt {s : Scl} {i : Nat} (hi : i < s.pts.length) (h : ptB s.pts[i] = false) : sclB s = false := by
  cases hb : sclB s with
  | false => rfl
  | true => rw [(sclB_iff.1 hb).2.2.2.2 _ (List.getElem_mem hi)] at h; cases h

set_option maxRecDepth 100000 in
set_option maxHeartbeats 4000000 in
theorem scale6_all (v : Scl) (A B : Option Addr) (a bb : Nat) (w : World) (h : IntsAt w w.heap.size A v.cuts) (hp : IntsAt w w.heap.size B v.pts) (hl : SclLe v) :
    Calls Tryz.prog 41 #[.agg #[.slice A v.cuts.length a, .slice B v.pts.length bb, .int .i64 v.non]] w fun e w' => e = .returned (.bool (sclB v)) ∧ Below w.heap.size w w' := by
  have b1 := (Below.refl w.heap.size w).alloc (Nat.le_refl _) (.cells #[.slice A v.cuts.length a, .slice B v.pts.length bb, .int .i64 v.non] 42)
  have k1 := Blk.new w #[.slice A v.cuts.length a, .slice B v.pts.length bb, .int .i64 v.non] 42
  have g1 := k1.lt
  have h1 := h.later b1
  have h1p := hp.later b1
  have l1 := hl.cuts
  have l2 := hl.pts
  by_cases q1 : 3 < v.cuts.length
  · have Hv : Hid (sclB v = false) := Lib.hid (by unfold sclB; rw [decide_eq_false (by omega : ¬ v.cuts.length ≤ 3)]; simp)
    have q1' : (3 : Int) < (v.cuts.length : Int) := by omega
    have k1c := k1.cell
    clear h hp h1 h1p hl
    go_enter Tryz.func41, Tryz.ntmps41
    go_wp2_with fail
    go_ret
    exact ⟨by rw [Hv.out]; rfl, b1⟩
  · have q1' : ¬ (3 : Int) < (v.cuts.length : Int) := by omega
    by_cases q2 : v.pts.length = v.cuts.length + 1
    · have q2' : ((v.pts.length : Int) != (v.cuts.length : Int) + 1) = false := by rw [q2]; simp
      have hz : IntKind.i64.wrap ((v.cuts.length : Int) + 1) = (v.cuts.length : Int) + 1 := IntWalk.i64_in _ (by omega)
      have k1c := k1.cell
      cases q3 : ptB v.non with
      | false =>
        have Hv : Hid (sclB v = false) := Lib.hid (by unfold sclB; rw [q3]; simp)
        have HP := Lib.hid (q3 ▸ points6_any v.non (w.alloc (.cells #[.slice A v.cuts.length a, .slice B v.pts.length bb, .int .i64 v.non] 42)))
        clear h hp h1 h1p hl q2
        go_enter Tryz.func41, Tryz.ntmps41
        go_wp2_with (go_at_call 27; (with_reducible refine (HP.out).mono ?_); rintro e w1 ⟨rfl, rfl⟩)
        go_ret
        exact ⟨by rw [Hv.out]; rfl, b1⟩
      | true =>
        have HP := Lib.hid (q3 ▸ points6_any v.non (w.alloc (.cells #[.slice A v.cuts.length a, .slice B v.pts.length bb, .int .i64 v.non] 42)))
        have HE : Hid (sclB v = (cutsB v.cuts && v.pts.all ptB)) := Lib.hid (by unfold sclB; rw [q3, decide_eq_true (by omega : v.cuts.length ≤ 3), decide_eq_true q2]; simp)
        have Hq2 := Lib.hid q2
        clear q2
        go_enter Tryz.func41, Tryz.ntmps41
        go_wp2_with (go_at_call 27; (with_reducible refine (HP.out).mono ?_); rintro e w1 ⟨rfl, rfl⟩)
        generalize hW1 : w.alloc (.cells #[.slice A v.cuts.length a, .slice B v.pts.length bb, .int .i64 v.non] 42) = W1 at *
        clear hW1 k1c h hp
        go_loopw [3] (fun ii wr => ∃ i : Nat, i ≤ v.cuts.length ∧ ii = .int .i64 i ∧ Hid ((∀ j, j < i → cutB v.cuts j = true) ∧ Below W1.heap.size W1 wr)) (fun ii _ => v.cuts.length - (vInt ii).toNat)
        case atStart => exact ⟨0, Nat.zero_le _, rfl, Lib.hid ⟨fun j hj => by omega, Below.refl _ _⟩⟩
        case round =>
          obtain ⟨i, hi, rfl, hR⟩ := hrel
          obtain ⟨hS, hB⟩ := hR.out
          have k2 := k1.below hB g1
          have b2 := b1.trans (hB.mono b1.size)
          have k2c := k2.cell
          by_cases hlt : i < v.cuts.length
          · have hil : (i : Int) < (v.cuts.length : Int) := by omega
            obtain ⟨b, off, rfl, hb, c0⟩ := ints_at (h1.later hB) hlt
            have HT := Lib.hid (cut_test hlt hS)
            have H1 : Hid (cutB v.cuts i = false → sclB v = false) := Lib.hid (sclB_cut hlt)
            have H2 : Hid (cutB v.cuts i = true → ∀ j, j < i + 1 → cutB v.cuts j = true) := Lib.hid (fun e j hj => by
              rcases Nat.lt_or_ge j i with hj2 | hj2
              · exact hS j hj2
              · rw [show j = i by omega]; exact e)
            have k2a := After.cells (B := wr.heap.size) k2.cell k2.lt
            have d0 := After.cell (B := wr.heap.size) c0 hb
            rcases Nat.eq_zero_or_pos i with hi0 | hpos
            · have Hi0 := Lib.hid hi0
              have hs5 : ¬ (0 : Int) < (i : Int) := by omega
              have hz0 : decide (0 < i) = false := decide_eq_false (by omega)
              have hz1 : ¬ 0 < i := by omega
              have hp0 : decide (i = 0) = true := decide_eq_true hi0
              rw [hp0, Bool.true_or, Bool.and_true] at HT
              clear hi0
              obtain ⟨x0, hx0⟩ : ∃ z, v.cuts[i] = z := ⟨_, rfl⟩
              rw [hx0] at HT c0 d0
              cases hw1 : inN x0 1 1000000 with
              | false =>
                have Hv : Hid (sclB v = false) := Lib.hid (H1.out (by rw [HT.out, hw1]))
                have GA : Hid (∀ x : After wr.heap.size wr, Calls Tryz.prog 26 #[.int .i64 x0, .int .i64 1, .int .i64 1000000] x.val fun e w' => e = .returned (.bool false) ∧ x.val = w') := Lib.hid (fun x => by have q := within6_any x0 1 1000000 x.val; rw [hw1] at q; exact q)
                clear hS hR HT H1 H2 hw1 HE hx0 c0 h1 h1p
                go_upto_region 6 with fail
                refine wp_region_class_lit (C := fun w' => ∃ z : After wr.heap.size wr, w' = z.val) (by kernel_rfl) (by kernel_rfl) ⟨⟨_, (Below.refl _ _).drew⟩, rfl⟩ ?_
                repeat (go_big_quiet_step ((first
                  | (go_at_call 26; with_reducible exact after_of_same _ (GA.out _)))))
                refine wpQuiet_nil ?_
                intro wq hw'
                obtain ⟨⟨wz, hz⟩, hw''⟩ := hw'
                dsimp only at hw''
                subst hw''
                go_wp2_with fail
                go_ret
                exact ⟨by rw [Hv.out]; rfl, b2.trans (hz.mono b2.size)⟩
              | true =>
                have HJ : Hid (∀ j, j < i + 1 → cutB v.cuts j = true) := Lib.hid (H2.out (by rw [HT.out, hw1]))
                have GA : Hid (∀ x : After wr.heap.size wr, Calls Tryz.prog 26 #[.int .i64 x0, .int .i64 1, .int .i64 1000000] x.val fun e w' => e = .returned (.bool true) ∧ x.val = w') := Lib.hid (fun x => by have q := within6_any x0 1 1000000 x.val; rw [hw1] at q; exact q)
                clear hS hR HT H1 H2 hw1 hx0 c0
                go_upto_region 6 with fail
                refine wp_region_class_lit (C := fun w' => ∃ z : After wr.heap.size wr, w' = z.val) (by kernel_rfl) (by kernel_rfl) ⟨⟨_, (Below.refl _ _).drew⟩, rfl⟩ ?_
                repeat (go_big_quiet_step ((first
                  | (go_at_call 26; with_reducible exact after_of_same _ (GA.out _)))))
                refine wpQuiet_nil ?_
                intro wq hw'
                obtain ⟨⟨wz, hz⟩, hw''⟩ := hw'
                dsimp only at hw''
                subst hw''
                go_wp2_with fail
                go_roundw
                case rel => exact ⟨i + 1, by omega, by go_num, Lib.hid ⟨HJ.out, hB.trans (hz.mono hB.size)⟩⟩
                case measure => simp [vInt]; omega
            · obtain ⟨x0, hx0⟩ : ∃ z, v.cuts[i] = z := ⟨_, rfl⟩
              obtain ⟨b', off', hA', hb', e0⟩ := ints_at (h1.later hB) (show i - 1 < v.cuts.length by omega)
              cases hA'
              obtain ⟨y0, hy0⟩ : ∃ z, v.cuts[i - 1]'(by omega) = z := ⟨_, rfl⟩
              rw [hx0, hy0] at HT
              rw [hx0] at c0 d0
              rw [hy0] at e0
              have f0 := After.cell (B := wr.heap.size) e0 hb'
              have hs1 : IntKind.i64.wrap ((i : Int) - 1) = ((i - 1 : Nat) : Int) := by rw [IntWalk.i64_in _ (by omega)]; omega
              have hs2 : ((i : Int) - 1).toNat = i - 1 := by omega
              have hs3 : (0 : Int) ≤ (i : Int) - 1 := by omega
              have hs4 : (i : Int) - 1 < (v.cuts.length : Int) := by omega
              have hs5 : (0 : Int) < (i : Int) := by omega
              have hs6 : IntKind.i64.wrap ((i : Int) - 1) = (i : Int) - 1 := IntWalk.i64_in _ (by omega)
              have hp0 : decide (i = 0) = false := decide_eq_false (by omega)
              rw [hp0, Bool.false_or] at HT
              clear hs1
              cases hw1 : inN x0 1 1000000 with
              | false =>
                have Hv : Hid (sclB v = false) := Lib.hid (H1.out (by rw [HT.out, hw1]; rfl))
                have GA : Hid (∀ x : After wr.heap.size wr, Calls Tryz.prog 26 #[.int .i64 x0, .int .i64 1, .int .i64 1000000] x.val fun e w' => e = .returned (.bool false) ∧ x.val = w') := Lib.hid (fun x => by have q := within6_any x0 1 1000000 x.val; rw [hw1] at q; exact q)
                clear hS hR HT H1 H2 hw1 HE hx0 hy0 c0 e0 h1 h1p
                go_upto_region 6 with fail
                refine wp_region_class_lit (C := fun w' => ∃ z : After wr.heap.size wr, w' = z.val) (by kernel_rfl) (by kernel_rfl) ⟨⟨_, (Below.refl _ _).drew⟩, rfl⟩ ?_
                repeat (go_big_quiet_step ((first
                  | (go_at_call 26; with_reducible exact after_of_same _ (GA.out _)))))
                refine wpQuiet_nil ?_
                intro wq hw'
                obtain ⟨⟨wz, hz⟩, hw''⟩ := hw'
                dsimp only at hw''
                subst hw''
                go_wp2_with fail
                go_ret
                exact ⟨by rw [Hv.out]; rfl, b2.trans (hz.mono b2.size)⟩
              | true =>
                have GA : Hid (∀ x : After wr.heap.size wr, Calls Tryz.prog 26 #[.int .i64 x0, .int .i64 1, .int .i64 1000000] x.val fun e w' => e = .returned (.bool true) ∧ x.val = w') := Lib.hid (fun x => by have q := within6_any x0 1 1000000 x.val; rw [hw1] at q; exact q)
                by_cases hlt2 : y0 < x0
                · have HJ : Hid (∀ j, j < i + 1 → cutB v.cuts j = true) := Lib.hid (H2.out (by rw [HT.out, hw1, decide_eq_true hlt2]; rfl))
                  have hle : ¬ x0 ≤ y0 := by omega
                  clear hS hR HT H1 H2 hw1 hx0 hy0 c0 e0 hlt2
                  go_upto_region 6 with fail
                  refine wp_region_class_lit (C := fun w' => ∃ z : After wr.heap.size wr, w' = z.val) (by kernel_rfl) (by kernel_rfl) ⟨⟨_, (Below.refl _ _).drew⟩, rfl⟩ ?_
                  repeat (go_big_quiet_step ((first
                    | (go_at_call 26; with_reducible exact after_of_same _ (GA.out _)))))
                  refine wpQuiet_nil ?_
                  intro wq hw'
                  obtain ⟨⟨wz, hz⟩, hw''⟩ := hw'
                  dsimp only at hw''
                  subst hw''
                  go_wp2_with fail
                  go_roundw
                  case rel => exact ⟨i + 1, by omega, by go_num, Lib.hid ⟨HJ.out, hB.trans (hz.mono hB.size)⟩⟩
                  case measure => simp [vInt]; omega
                · have Hv : Hid (sclB v = false) := Lib.hid (H1.out (by rw [HT.out, hw1, decide_eq_false hlt2]; rfl))
                  have hle : x0 ≤ y0 := by omega
                  clear hS hR HT H1 H2 hw1 HE hx0 hy0 c0 e0 hlt2 h1 h1p
                  go_upto_region 6 with fail
                  refine wp_region_class_lit (C := fun w' => ∃ z : After wr.heap.size wr, w' = z.val) (by kernel_rfl) (by kernel_rfl) ⟨⟨_, (Below.refl _ _).drew⟩, rfl⟩ ?_
                  repeat (go_big_quiet_step ((first
                    | (go_at_call 26; with_reducible exact after_of_same _ (GA.out _)))))
                  refine wpQuiet_nil ?_
                  intro wq hw'
                  obtain ⟨⟨wz, hz⟩, hw''⟩ := hw'
                  dsimp only at hw''
                  subst hw''
                  go_wp2_with fail
                  go_ret
                  exact ⟨by rw [Hv.out]; rfl, b2.trans (hz.mono b2.size)⟩
          · have hil : ¬ (i : Int) < (v.cuts.length : Int) := by omega
            obtain rfl : i = v.cuts.length := by omega
            have HC : Hid (cutsB v.cuts = true) := Lib.hid (rangeB_iff.2 hS)
            have h2 := h1p.later hB
            clear hR hS
            go_wp2_with fail
            clear k2c
            generalize wr = W2 at *
            go_loopw [4] (fun ii wr => ∃ i : Nat, i ≤ v.pts.length ∧ ii = .int .i64 i ∧ Hid ((∀ j, (hj : j < i) → (hq : j < v.pts.length) → ptB v.pts[j] = true) ∧ Below W2.heap.size W2 wr)) (fun ii _ => v.pts.length - (vInt ii).toNat)
            case atStart => exact ⟨0, Nat.zero_le _, rfl, Lib.hid ⟨fun j hj => by omega, Below.refl _ _⟩⟩
            case round =>
              obtain ⟨i, hi, rfl, hR⟩ := hrel
              obtain ⟨hS, hB3⟩ := hR.out
              have k3 := k2.below hB3 k2.lt
              have b3 := b2.trans (hB3.mono b2.size)
              have k3c := k3.cell
              by_cases hlt : i < v.pts.length
              · have hil : (i : Int) < (v.pts.length : Int) := by omega
                obtain ⟨b, off, rfl, hb, c0⟩ := ints_at (h2.later hB3) hlt
                have HPi := Lib.hid (points6_any v.pts[i] wr)
                cases hv : ptB v.pts[i] with
                | false =>
                  have Hv : Hid (sclB v = false) := Lib.hid (sclB_pt hlt hv)
                  rw [hv] at HPi
                  clear hS hR hv
                  generalize v.pts[i] = p at *
                  go_wp2_with (go_at_call 27; (with_reducible refine (HPi.out).mono ?_); rintro e w1 ⟨rfl, rfl⟩)
                  go_ret
                  exact ⟨by rw [Hv.out]; rfl, b3⟩
                | true =>
                  have HJ : Hid (∀ j, (hj : j < i + 1) → (hq : j < v.pts.length) → ptB v.pts[j] = true) := Lib.hid (fun j hj hq => by
                    rcases Nat.lt_or_ge j i with hj2 | hj2
                    · exact hS j hj2 hq
                    · obtain rfl : j = i := by omega
                      exact hv)
                  rw [hv] at HPi
                  clear hS hR hv
                  generalize v.pts[i] = p at *
                  go_wp2_with (go_at_call 27; (with_reducible refine (HPi.out).mono ?_); rintro e w1 ⟨rfl, rfl⟩)
                  go_roundw
                  case rel => exact ⟨i + 1, by omega, by go_num, Lib.hid ⟨HJ.out, hB3⟩⟩
                  case measure => simp [vInt]; omega
              · have hil : ¬ (i : Int) < (v.pts.length : Int) := by omega
                have Hv : Hid (sclB v = true) := Lib.hid (by
                  rw [HE.out, HC.out, Bool.true_and, List.all_eq_true]
                  intro p hp
                  obtain ⟨j, hj, rfl⟩ := List.getElem_of_mem hp
                  exact hS j (by omega) hj)
                clear hR hS
                go_wp2_with fail
                go_ret
                exact ⟨by rw [Hv.out]; rfl, b3⟩
    · have q2' : ((v.pts.length : Int) != (v.cuts.length : Int) + 1) = true := by simp; omega
      have hz : IntKind.i64.wrap ((v.cuts.length : Int) + 1) = (v.cuts.length : Int) + 1 := IntWalk.i64_in _ (by omega)
      have Hv : Hid (sclB v = false) := Lib.hid (by unfold sclB; rw [decide_eq_false q2]; simp)
      have k1c := k1.cell
      clear h hp h1 h1p hl q2
      go_enter Tryz.func41, Tryz.ntmps41
      go_wp2_with fail
      go_ret
      exact ⟨by rw [Hv.out]; rfl, b1⟩
theorem scale6_any (x : SclD) (w : World) (h : SclAt w w.heap.size x) (hl : SclLe x.v) :
    Calls Tryz.prog 41 #[.agg #[.slice x.A x.v.cuts.length x.a, .slice x.B x.v.pts.length x.b, .int .i64 x.v.non]] w fun e w' => e = .returned (.bool (sclB x.v)) ∧ Below w.heap.size w w' := scale6_all x.v x.A x.B x.a x.b w h.cuts h.pts hl
end Go.Proofs.YtpahcbhikmfamaaGreat
