/- Codes and homes, by the reference: whether they are valid. Written by gent.py. -/
import Derived.Test.YtkpaikampmeooaaGreatDoorTCardP3

namespace Go.Proofs.YtkpaikampmeooaaGreatDoor
open Go.RowKit Go.Maps

set_option maxHeartbeats 400000 in
theorem within4_any (n lo hi : Int) (w : World) :
    Calls Tryz.prog 20 #[.int .i64 n, .int .i64 lo, .int .i64 hi] w fun e w' => e = .returned (.bool (inN n lo hi)) ∧ w = w' := by
  go_enter Tryz.func20, Tryz.ntmps20
  go_wp2
  all_goals go_ret
  all_goals refine ⟨ret_bool ?_, rfl⟩
  · have h : lo ≤ n := by assumption
    simp [inN, h]
  · have h : n < lo := by assumption
    have h' : ¬ lo ≤ n := by omega
    simp [inN, h']

set_option maxRecDepth 100000 in
set_option maxHeartbeats 4000000 in
theorem homes4_any (l : List HomeT) (A : Option Addr) (c : Nat) (w : World) (h : HomesAt w w.heap.size A l) (hl : l.length ≤ maxLen) :
    Calls Tryz.prog 32 #[.slice A l.length c] w fun e w' => e = .returned (.bool (homesB l)) ∧ Below w.heap.size w w' := by
  unfold maxLen at hl
  by_cases h60 : 60 < l.length
  · have hi : (60 : Int) < (l.length : Int) := by omega
    have Hv : Hid (homesB l = false) := Lib.hid (by unfold homesB; rw [decide_eq_false (by omega)]; rfl)
    clear h
    go_enter Tryz.func32, Tryz.ntmps32
    go_wp2_with fail
    go_ret
    exact ⟨by rw [Hv.out]; rfl, Below.refl _ _⟩
  · have hi : ¬ (60 : Int) < (l.length : Int) := by omega
    have HB : Hid (homesB l = (l.all homeB1 && chB homeLt l)) := Lib.hid (by unfold homesB; rw [decide_eq_true (by omega : l.length ≤ 60), Bool.true_and])
    go_enter Tryz.func32, Tryz.ntmps32
    go_wp2_with fail
    go_loopw [3] (fun ii wr => ∃ i : Nat, i ≤ l.length ∧ ii = .int .i64 i ∧ Hid (upB homeB1 homeLt l i ∧ Below w.heap.size w wr)) (fun ii _ => l.length - (vInt ii).toNat)
    case atStart => exact ⟨0, Nat.zero_le _, rfl, Lib.hid ⟨upB_zero _ _ _, Below.refl _ _⟩⟩
    case round =>
      obtain ⟨i, hi2, rfl, hR⟩ := hrel
      by_cases hlt : i < l.length
      · have hil : (i : Int) < (l.length : Int) := by omega
        obtain ⟨hV, hB⟩ := hR.out
        have h9 := h.later hB
        obtain ⟨b, off, rfl, hb, C⟩ := homes_at h9 hlt
        have c0 := After.cell (B := wr.heap.size) C.c0 hb
        have c1 := After.cell (B := wr.heap.size) C.c1 hb
        have HT : Hid (∀ r s : Bool, homeB1 l[i] = true → ((h0 : 0 < i) → homeLt (l[i - 1]'(by omega)) l[i] = true) → upB homeB1 homeLt l (i + 1)) := Lib.hid (fun _ _ h1 h2 => upB_next hV hlt h1 h2)
        have H1 : Hid (homeB1 l[i] = false → homesB l = false) := Lib.hid (fun e => by rw [HB.out]; exact upB_bad1 _ hlt e)
        have H2 : Hid ((h0 : 0 < i) → homeLt (l[i - 1]'(by omega)) l[i] = false → homesB l = false) := Lib.hid (fun h0 e => by rw [HB.out]; exact upB_bad2 _ hlt h0 e)
        cases ha : inN l[i].acc 0 999999 with
        | false =>
          as_aux_lemma =>
          have Hv : Hid (homesB l = false) := Lib.hid (H1.out (by unfold homeB1; rw [ha]; rfl))
          have GA : Hid (∀ x : After wr.heap.size wr, Calls Tryz.prog 20 #[.int .i64 l[i].acc, .int .i64 0, .int .i64 999999] x.val fun e w' => e = .returned (.bool false) ∧ x.val = w') := Lib.hid (fun x => by have q := within4_any l[i].acc 0 999999 x.val; rw [ha] at q; exact q)
          clear hR hV h9 C HT H1 H2 HB ha
          go_upto_region 6 with fail
          refine wp_region_class_lit (C := fun w' => ∃ z : After wr.heap.size wr, w' = z.val) (by kernel_rfl) (by kernel_rfl) ⟨⟨_, (Below.refl _ _).drew⟩, rfl⟩ ?_
          repeat (go_big_quiet_step ((first
            | (go_at_call 20; with_reducible exact after_of_same _ (GA.out _)))))
          refine wpQuiet_nil ?_
          intro wq hw'
          obtain ⟨⟨wz, hz⟩, hw''⟩ := hw'
          dsimp only at hw''
          subst hw''
          go_wp2_with fail
          go_ret
          exact ⟨by rw [Hv.out]; rfl, hB.trans (hz.mono hB.size)⟩
        | true =>
          cases hb2 : inN l[i].land 0 99 with
          | false =>
            as_aux_lemma =>
            have Hv : Hid (homesB l = false) := Lib.hid (H1.out (by unfold homeB1; rw [hb2, Bool.and_false]))
            have GA : Hid (∀ x : After wr.heap.size wr, Calls Tryz.prog 20 #[.int .i64 l[i].acc, .int .i64 0, .int .i64 999999] x.val fun e w' => e = .returned (.bool true) ∧ x.val = w') := Lib.hid (fun x => by have q := within4_any l[i].acc 0 999999 x.val; rw [ha] at q; exact q)
            have GL : Hid (∀ x : After wr.heap.size wr, Calls Tryz.prog 20 #[.int .i64 l[i].land, .int .i64 0, .int .i64 99] x.val fun e w' => e = .returned (.bool false) ∧ x.val = w') := Lib.hid (fun x => by have q := within4_any l[i].land 0 99 x.val; rw [hb2] at q; exact q)
            clear hR hV h9 C HT H1 H2 HB ha hb2
            go_upto_region 6 with fail
            refine wp_region_class_lit (C := fun w' => ∃ z : After wr.heap.size wr, w' = z.val) (by kernel_rfl) (by kernel_rfl) ⟨⟨_, (Below.refl _ _).drew⟩, rfl⟩ ?_
            repeat (go_big_quiet_step ((first
              | (go_at_call 20; with_reducible exact after_of_same _ (GA.out _))
              | (go_at_call 20; with_reducible exact after_of_same _ (GL.out _)))))
            refine wpQuiet_nil ?_
            intro wq hw'
            obtain ⟨⟨wz, hz⟩, hw''⟩ := hw'
            dsimp only at hw''
            subst hw''
            go_wp2_with fail
            go_ret
            exact ⟨by rw [Hv.out]; rfl, hB.trans (hz.mono hB.size)⟩
          | true =>
            have hv1 : homeB1 l[i] = true := by unfold homeB1; rw [ha, hb2]; rfl
            rcases Nat.eq_zero_or_pos i with hi0 | hpos
            · as_aux_lemma =>
              have HJ : Hid (upB homeB1 homeLt l (i + 1)) := Lib.hid (HT.out true true hv1 (fun h0 => absurd h0 (by omega)))
              have GA : Hid (∀ x : After wr.heap.size wr, Calls Tryz.prog 20 #[.int .i64 l[i].acc, .int .i64 0, .int .i64 999999] x.val fun e w' => e = .returned (.bool true) ∧ x.val = w') := Lib.hid (fun x => by have q := within4_any l[i].acc 0 999999 x.val; rw [ha] at q; exact q)
              have GL : Hid (∀ x : After wr.heap.size wr, Calls Tryz.prog 20 #[.int .i64 l[i].land, .int .i64 0, .int .i64 99] x.val fun e w' => e = .returned (.bool true) ∧ x.val = w') := Lib.hid (fun x => by have q := within4_any l[i].land 0 99 x.val; rw [hb2] at q; exact q)
              have hz0 : decide (0 < i) = false := decide_eq_false (by omega)
              clear hR hV h9 C HT H1 H2 ha hb2 hv1 hi0
              go_upto_region 6 with fail
              refine wp_region_class_lit (C := fun w' => ∃ z : After wr.heap.size wr, w' = z.val) (by kernel_rfl) (by kernel_rfl) ⟨⟨_, (Below.refl _ _).drew⟩, rfl⟩ ?_
              repeat (go_big_quiet_step ((first
                | (go_at_call 20; with_reducible exact after_of_same _ (GA.out _))
                | (go_at_call 20; with_reducible exact after_of_same _ (GL.out _)))))
              refine wpQuiet_nil ?_
              intro wq hw'
              obtain ⟨⟨wz, hz⟩, hw''⟩ := hw'
              dsimp only at hw''
              subst hw''
              have hfin := hB.trans (hz.mono hB.size)
              go_wp2_with fail
              go_roundw
              case rel => exact ⟨_, by omega, by go_num, Lib.hid ⟨HJ.out, hfin⟩⟩
              case measure => simp [vInt]; omega
            · obtain ⟨m, rfl⟩ : ∃ m, i = m + 1 := ⟨i - 1, by omega⟩
              obtain ⟨b', off', e2, hb', C'⟩ := homes_at h9 (k := m) (by omega)
              cases e2
              have d0 := After.cell (B := wr.heap.size) C'.c0 hb'
              have hm1 : (m : Int) < (l.length : Int) := by omega
              have hm2 : decide ((0 : Int) < (m : Int) + 1) = true := decide_eq_true (by omega)
              have hm3 : (0 : Int) < (m : Int) + 1 := by omega
              by_cases hc : l[m].acc < l[m + 1].acc
              · as_aux_lemma =>
                have ec : decide (l[m + 1].acc ≤ l[m].acc) = false := decide_eq_false (by omega)
                have HJ : Hid (upB homeB1 homeLt l (m + 1 + 1)) := Lib.hid (HT.out true true hv1 (fun _ => decide_eq_true hc))
                have GA : Hid (∀ x : After wr.heap.size wr, Calls Tryz.prog 20 #[.int .i64 l[m + 1].acc, .int .i64 0, .int .i64 999999] x.val fun e w' => e = .returned (.bool true) ∧ x.val = w') := Lib.hid (fun x => by have q := within4_any l[m + 1].acc 0 999999 x.val; rw [ha] at q; exact q)
                have GL : Hid (∀ x : After wr.heap.size wr, Calls Tryz.prog 20 #[.int .i64 l[m + 1].land, .int .i64 0, .int .i64 99] x.val fun e w' => e = .returned (.bool true) ∧ x.val = w') := Lib.hid (fun x => by have q := within4_any l[m + 1].land 0 99 x.val; rw [hb2] at q; exact q)
                clear hR hV h9 C HT H1 H2 C' hc ha hb2 hv1
                go_upto_region 6 with fail
                refine wp_region_class_lit (C := fun w' => ∃ z : After wr.heap.size wr, w' = z.val) (by kernel_rfl) (by kernel_rfl) ⟨⟨_, (Below.refl _ _).drew⟩, rfl⟩ ?_
                repeat (go_big_quiet_step ((first
                  | (go_at_call 20; with_reducible exact after_of_same _ (GA.out _))
                  | (go_at_call 20; with_reducible exact after_of_same _ (GL.out _)))))
                refine wpQuiet_nil ?_
                intro wq hw'
                obtain ⟨⟨wz, hz⟩, hw''⟩ := hw'
                dsimp only at hw''
                subst hw''
                have hfin := hB.trans (hz.mono hB.size)
                go_wp2_with fail
                go_roundw
                case rel => exact ⟨_, by omega, by go_num, Lib.hid ⟨HJ.out, hfin⟩⟩
                case measure => simp [vInt]; omega
              · as_aux_lemma =>
                have ec : decide (l[m + 1].acc ≤ l[m].acc) = true := decide_eq_true (by omega)
                have Hv : Hid (homesB l = false) := Lib.hid (H2.out (by omega) (decide_eq_false hc))
                have GA : Hid (∀ x : After wr.heap.size wr, Calls Tryz.prog 20 #[.int .i64 l[m + 1].acc, .int .i64 0, .int .i64 999999] x.val fun e w' => e = .returned (.bool true) ∧ x.val = w') := Lib.hid (fun x => by have q := within4_any l[m + 1].acc 0 999999 x.val; rw [ha] at q; exact q)
                have GL : Hid (∀ x : After wr.heap.size wr, Calls Tryz.prog 20 #[.int .i64 l[m + 1].land, .int .i64 0, .int .i64 99] x.val fun e w' => e = .returned (.bool true) ∧ x.val = w') := Lib.hid (fun x => by have q := within4_any l[m + 1].land 0 99 x.val; rw [hb2] at q; exact q)
                clear hR hV h9 C HT H1 H2 HB C' hc ha hb2 hv1
                go_upto_region 6 with fail
                refine wp_region_class_lit (C := fun w' => ∃ z : After wr.heap.size wr, w' = z.val) (by kernel_rfl) (by kernel_rfl) ⟨⟨_, (Below.refl _ _).drew⟩, rfl⟩ ?_
                repeat (go_big_quiet_step ((first
                  | (go_at_call 20; with_reducible exact after_of_same _ (GA.out _))
                  | (go_at_call 20; with_reducible exact after_of_same _ (GL.out _)))))
                refine wpQuiet_nil ?_
                intro wq hw'
                obtain ⟨⟨wz, hz⟩, hw''⟩ := hw'
                dsimp only at hw''
                subst hw''
                go_wp2_with fail
                go_ret
                exact ⟨by rw [Hv.out]; rfl, hB.trans (hz.mono hB.size)⟩
      · have hil : ¬ (i : Int) < (l.length : Int) := by omega
        obtain ⟨hV, hB⟩ := hR.out
        obtain rfl : i = l.length := by omega
        have Hv : Hid (homesB l = true) := Lib.hid (by rw [HB.out]; exact upB_end hV)
        clear hR hV
        go_wp2_with fail
        go_ret
        exact ⟨by rw [Hv.out]; rfl, hB⟩

      end Go.Proofs.YtkpaikampmeooaaGreatDoor
