/- Models, and values, by the reference: whether they are valid. Written by a program. -/
import Derived.Test.YtpahcbhikmfamaaGreatSRef3

namespace Go.Proofs.YtpahcbhikmfamaaGreat
open Go.RowKit Go.Maps

set_option maxRecDepth 100000 in
set_option maxHeartbeats 8000000 in
theorem check6_all (traits need : Int) (cl : List CrdD) (tl : List TreD) (C T : Option Addr) (c t : Nat) (w : World) (h : MdlAt w w.heap.size ⟨traits, cl, C, c, tl, T, t, need⟩) (hls : MdlLe ⟨traits, cl, C, c, tl, T, t, need⟩) :
    Calls Tryz.prog 16 #[.agg #[.int .i64 traits, .slice C cl.length c, .slice T tl.length t, .int .i64 need]] w fun e w' => e = .returned (.int .i64 (mdlE ⟨traits, cl.map CrdD.v, tl.map TreD.v, need⟩)) ∧ Below w.heap.size w w' := by
  have b1 := (Below.refl w.heap.size w).alloc (Nat.le_refl _) (.cells #[.int .i64 traits, .slice C cl.length c, .slice T tl.length t, .int .i64 need] 25)
  have k1 := Blk.new w #[.int .i64 traits, .slice C cl.length c, .slice T tl.length t, .int .i64 need] 25
  have g1 := k1.lt
  have k1c := k1.cell
  have HW := Lib.hid (fun W => within6_any traits 1 5 W)
  have HP := Lib.hid (fun W => points6_any need W)
  have hnl : cl.length ≤ 6 ∧ tl.length ≤ 6 := ⟨hls.cards, hls.trees⟩
  have HD : Hid (mdlE ⟨traits, cl.map CrdD.v, tl.map TreD.v, need⟩ = if (inN traits 1 5 && ptB need && decide (cl.length ≤ 2) && decide (tl.length ≤ 2) && (cl.map CrdD.v).all (crdB traits) && (tl.map TreD.v).all (treB traits)) = true then 0 else 60) := Lib.hid (by unfold mdlE mdlB; simp only [List.length_map])
  generalize mdlE ⟨traits, cl.map CrdD.v, tl.map TreD.v, need⟩ = V at *
  by_cases hc0 : inN traits 1 5 = true
  · rw [hc0] at HW
    by_cases hc1 : ptB need = true
    · rw [hc1] at HP
      by_cases hc2 : cl.length ≤ 2
      · have n2 : ¬ (2 : Int) < (cl.length : Int) := by omega
        by_cases hc3 : tl.length ≤ 2
        · have n3 : ¬ (2 : Int) < (tl.length : Int) := by omega
          have HE : Hid (V = if (cl.map CrdD.v).all (crdB traits) && (tl.map TreD.v).all (treB traits) then 0 else 60) := Lib.hid (by rw [HD.out, hc0, hc1, decide_eq_true (by omega : cl.length ≤ 2), decide_eq_true (by omega : tl.length ≤ 2)]; simp)
          have ht5 := inN_iff.1 hc0
          clear HD
          go_enter Tryz.func16, Tryz.ntmps16
          go_wp2_with (first
            | (go_at_call 26; (with_reducible refine (HW.out _).mono ?_); rintro e w1 ⟨rfl, rfl⟩)
            | (go_at_call 27; (with_reducible refine (HP.out _).mono ?_); rintro e w1 ⟨rfl, rfl⟩))
          have h1 := h.later b1
          generalize hW1 : w.alloc (.cells #[.int .i64 traits, .slice C cl.length c, .slice T tl.length t, .int .i64 need] 25) = W1 at *
          clear hW1 k1c h HW HP
          go_loopw [3] (fun ii wr => ∃ i : Nat, i ≤ cl.length ∧ ii = .int .i64 i ∧ Hid ((cl.take i).all (fun y => crdB traits y.v) = true ∧ Below W1.heap.size W1 wr)) (fun ii _ => cl.length - (vInt ii).toNat)
          case atStart => exact ⟨0, Nat.zero_le _, rfl, Lib.hid ⟨by simp, Below.refl _ _⟩⟩
          case round =>
            obtain ⟨i, hi, rfl, hR⟩ := hrel
            obtain ⟨hS, hB⟩ := hR.out
            have k2 := k1.below hB g1
            have b2 := b1.trans (hB.mono b1.size)
            have k2c := k2.cell
            by_cases hlt : i < cl.length
            · have hil : (i : Int) < (cl.length : Int) := by omega
              have h2 := (h1.later hB).cards
              obtain ⟨b, off, rfl, hb, c0, c1, c2⟩ := crds_at h2.row hlt
              have hmem := List.getElem_mem hlt
              have GC : Hid (∀ x : After wr.heap.size wr, Calls Tryz.prog 28 #[.agg #[.int .i64 cl[i].weight, .int .i64 cl[i].base, .slice cl[i].S cl[i].scales.length cl[i].s], .int .i64 traits] x.val fun e w' => e = .returned (.bool (crdB traits cl[i].v)) ∧ Below x.val.heap.size x.val w') := Lib.hid (fun x => card6_any cl[i] traits x.val ((h2.each _ hmem).later x.property) (hls.scales _ hmem) (hls.scl _ hmem))
              have k2a := After.cells (B := wr.heap.size) k2.cell k2.lt
              have d0 := After.cell (B := wr.heap.size) c0 hb
              have d1 := After.cell (B := wr.heap.size) c1 hb
              have d2 := After.cell (B := wr.heap.size) c2 hb
              cases hv : crdB traits cl[i].v with
              | false =>
                have Hv : Hid (V = 60) := Lib.hid (by rw [HE.out, all_stop (l := cl.map CrdD.v) (i := i) (by simpa using hlt) (by simpa using hv)]; simp)
                rw [hv] at GC
                clear hS hR h2 h1 HE hv hmem c0 c1 c2 hls
                generalize cl[i] = y at *
                go_upto_region 6 with fail
                refine wp_region_class_lit (C := fun w' => ∃ z : After wr.heap.size wr, w' = z.val) (by kernel_rfl) (by kernel_rfl) ⟨⟨_, (Below.refl _ _).drew⟩, rfl⟩ ?_
                repeat (go_big_quiet_step ((first
                  | (go_at_call 28; with_reducible exact after_of (Nat.le_refl _) _ (GC.out _)))))
                refine wpQuiet_nil ?_
                intro wq hw'
                obtain ⟨⟨wz, hz⟩, hw''⟩ := hw'
                dsimp only at hw''
                subst hw''
                go_wp2_with fail
                go_ret
                exact ⟨by rw [Hv.out]; rfl, b2.trans (hz.mono b2.size)⟩
              | true =>
                have HJ : Hid ((cl.take (i + 1)).all (fun y => crdB traits y.v) = true) := Lib.hid (all_next (p := fun y : CrdD => crdB traits y.v) hlt hS hv)
                rw [hv] at GC
                clear hS hR h2 hv hmem c0 c1 c2
                generalize cl[i] = y at *
                go_upto_region 6 with fail
                refine wp_region_class_lit (C := fun w' => ∃ z : After wr.heap.size wr, w' = z.val) (by kernel_rfl) (by kernel_rfl) ⟨⟨_, (Below.refl _ _).drew⟩, rfl⟩ ?_
                repeat (go_big_quiet_step ((first
                  | (go_at_call 28; with_reducible exact after_of (Nat.le_refl _) _ (GC.out _)))))
                refine wpQuiet_nil ?_
                intro wq hw'
                obtain ⟨⟨wz, hz⟩, hw''⟩ := hw'
                dsimp only at hw''
                subst hw''
                go_wp2_with fail
                go_roundw
                case rel => exact ⟨i + 1, by omega, by go_num, Lib.hid ⟨HJ.out, hB.trans (hz.mono hB.size)⟩⟩
                case measure => simp [vInt]; omega
            · have hil : ¬ (i : Int) < (cl.length : Int) := by omega
              obtain rfl : i = cl.length := by omega
              rw [List.take_length] at hS
              have HE2 : Hid (V = if (tl.map TreD.v).all (treB traits) then 0 else 60) := Lib.hid (by
                have e : (cl.map CrdD.v).all (crdB traits) = true := by rw [List.all_map]; exact hS
                rw [HE.out, e, Bool.true_and])
              have h2 := h1.later hB
              clear hR hS HE h1
              go_wp2_with fail
              clear k2c
              generalize wr = W2 at *
              go_loopw [4] (fun ii wr => ∃ i : Nat, i ≤ tl.length ∧ ii = .int .i64 i ∧ Hid ((tl.take i).all (fun y => treB traits y.v) = true ∧ Below W2.heap.size W2 wr)) (fun ii _ => tl.length - (vInt ii).toNat)
              case atStart => exact ⟨0, Nat.zero_le _, rfl, Lib.hid ⟨by simp, Below.refl _ _⟩⟩
              case round =>
                obtain ⟨i, hi, rfl, hR⟩ := hrel
                obtain ⟨hS, hB3⟩ := hR.out
                have k3 := k2.below hB3 k2.lt
                have b3 := b2.trans (hB3.mono b2.size)
                have k3c := k3.cell
                by_cases hlt : i < tl.length
                · have hil : (i : Int) < (tl.length : Int) := by omega
                  have h3 := (h2.later hB3).trees
                  obtain ⟨b, off, rfl, hb, c0, c1⟩ := tres_at h3.row hlt
                  have hmem := List.getElem_mem hlt
                  have GC : Hid (∀ x : After wr.heap.size wr, Calls Tryz.prog 29 #[.agg #[.int .i64 tl[i].v.weight, .slice tl[i].T tl[i].v.nodes.length tl[i].t], .int .i64 traits] x.val fun e w' => e = .returned (.bool (treB traits tl[i].v)) ∧ Below x.val.heap.size x.val w') := Lib.hid (fun x => tree6_any tl[i] traits x.val ((h3.each _ hmem).later x.property) (hls.nodes _ hmem) ht5)
                  have k3a := After.cells (B := wr.heap.size) k3.cell k3.lt
                  have d0 := After.cell (B := wr.heap.size) c0 hb
                  have d1 := After.cell (B := wr.heap.size) c1 hb
                  cases hv : treB traits tl[i].v with
                  | false =>
                    have Hv : Hid (V = 60) := Lib.hid (by rw [HE2.out, all_stop (l := tl.map TreD.v) (i := i) (by simpa using hlt) (by simpa using hv)]; simp)
                    rw [hv] at GC
                    clear hS hR h3 h2 HE2 hv hmem c0 c1 hls
                    generalize tl[i] = y at *
                    go_upto_region 11 with fail
                    refine wp_region_class_lit (C := fun w' => ∃ z : After wr.heap.size wr, w' = z.val) (by kernel_rfl) (by kernel_rfl) ⟨⟨_, (Below.refl _ _).drew⟩, rfl⟩ ?_
                    repeat (go_big_quiet_step ((first
                      | (go_at_call 29; with_reducible exact after_of (Nat.le_refl _) _ (GC.out _)))))
                    refine wpQuiet_nil ?_
                    intro wq hw'
                    obtain ⟨⟨wz, hz⟩, hw''⟩ := hw'
                    dsimp only at hw''
                    subst hw''
                    go_wp2_with fail
                    go_ret
                    exact ⟨by rw [Hv.out]; rfl, b3.trans (hz.mono b3.size)⟩
                  | true =>
                    have HJ : Hid ((tl.take (i + 1)).all (fun y => treB traits y.v) = true) := Lib.hid (all_next (p := fun y : TreD => treB traits y.v) hlt hS hv)
                    rw [hv] at GC
                    clear hS hR h3 hv hmem c0 c1
                    generalize tl[i] = y at *
                    go_upto_region 11 with fail
                    refine wp_region_class_lit (C := fun w' => ∃ z : After wr.heap.size wr, w' = z.val) (by kernel_rfl) (by kernel_rfl) ⟨⟨_, (Below.refl _ _).drew⟩, rfl⟩ ?_
                    repeat (go_big_quiet_step ((first
                      | (go_at_call 29; with_reducible exact after_of (Nat.le_refl _) _ (GC.out _)))))
                    refine wpQuiet_nil ?_
                    intro wq hw'
                    obtain ⟨⟨wz, hz⟩, hw''⟩ := hw'
                    dsimp only at hw''
                    subst hw''
                    go_wp2_with fail
                    go_roundw
                    case rel => exact ⟨i + 1, by omega, by go_num, Lib.hid ⟨HJ.out, hB3.trans (hz.mono hB3.size)⟩⟩
                    case measure => simp [vInt]; omega
                · have hil : ¬ (i : Int) < (tl.length : Int) := by omega
                  obtain rfl : i = tl.length := by omega
                  rw [List.take_length] at hS
                  have Hv : Hid (V = 0) := Lib.hid (by
                    have e : (tl.map TreD.v).all (treB traits) = true := by rw [List.all_map]; exact hS
                    rw [HE2.out, e]; rfl)
                  clear hR hS
                  go_wp2_with fail
                  go_ret
                  exact ⟨by rw [Hv.out]; rfl, b3⟩
        · have n3 : (2 : Int) < (tl.length : Int) := by omega
          have Hv : Hid (V = 60) := Lib.hid (by rw [HD.out, decide_eq_false (by omega : ¬ tl.length ≤ 2)]; simp)
          clear HD h hls hnl
          go_enter Tryz.func16, Tryz.ntmps16
          go_wp2_with (first
            | (go_at_call 26; (with_reducible refine (HW.out _).mono ?_); rintro e w1 ⟨rfl, rfl⟩)
            | (go_at_call 27; (with_reducible refine (HP.out _).mono ?_); rintro e w1 ⟨rfl, rfl⟩))
          all_goals (try (exfalso; omega))
          go_ret
          exact ⟨by rw [Hv.out]; rfl, b1⟩
      · have n2 : (2 : Int) < (cl.length : Int) := by omega
        have Hv : Hid (V = 60) := Lib.hid (by rw [HD.out, decide_eq_false (by omega : ¬ cl.length ≤ 2)]; simp)
        clear HD h hls hnl
        go_enter Tryz.func16, Tryz.ntmps16
        go_wp2_with (first
          | (go_at_call 26; (with_reducible refine (HW.out _).mono ?_); rintro e w1 ⟨rfl, rfl⟩)
          | (go_at_call 27; (with_reducible refine (HP.out _).mono ?_); rintro e w1 ⟨rfl, rfl⟩))
        all_goals (try (exfalso; omega))
        go_ret
        exact ⟨by rw [Hv.out]; rfl, b1⟩
    · have hb1 : ptB need = false := by simpa using hc1
      rw [hb1] at HP
      have Hv : Hid (V = 60) := Lib.hid (by rw [HD.out, hb1]; simp)
      clear HD h hls hnl
      go_enter Tryz.func16, Tryz.ntmps16
      go_wp2_with (first
        | (go_at_call 26; (with_reducible refine (HW.out _).mono ?_); rintro e w1 ⟨rfl, rfl⟩)
        | (go_at_call 27; (with_reducible refine (HP.out _).mono ?_); rintro e w1 ⟨rfl, rfl⟩))
      all_goals (try (exfalso; omega))
      go_ret
      exact ⟨by rw [Hv.out]; rfl, b1⟩
  · have hb0 : inN traits 1 5 = false := by simpa using hc0
    rw [hb0] at HW
    have Hv : Hid (V = 60) := Lib.hid (by rw [HD.out, hb0]; simp)
    clear HD h hls hnl
    go_enter Tryz.func16, Tryz.ntmps16
    go_wp2_with (first
      | (go_at_call 26; (with_reducible refine (HW.out _).mono ?_); rintro e w1 ⟨rfl, rfl⟩)
      | (go_at_call 27; (with_reducible refine (HP.out _).mono ?_); rintro e w1 ⟨rfl, rfl⟩))
    all_goals (try (exfalso; omega))
    go_ret
    exact ⟨by rw [Hv.out]; rfl, b1⟩
theorem check6_any (m : MdlD) (w : World) (h : MdlAt w w.heap.size m) (hls : MdlLe m) :
    Calls Tryz.prog 16 #[.agg #[.int .i64 m.traits, .slice m.C m.cards.length m.c, .slice m.T m.trees.length m.t, .int .i64 m.need]] w fun e w' => e = .returned (.int .i64 (mdlE m.v)) ∧ Below w.heap.size w w' := check6_all m.traits m.need m.cards m.trees m.C m.T m.c m.t w h hls

set_option maxRecDepth 100000 in
set_option maxHeartbeats 4000000 in
theorem values6_any (traits : Int) (X1 X2 X3 : Value) (x : List Int) (A : Option Addr) (a : Nat) (w : World) (h : IntsAt w w.heap.size A x) (hl : x.length ≤ 10) :
    Calls Tryz.prog 17 #[.agg #[.int .i64 traits, X1, X2, X3], .slice A x.length a] w fun e w' => e = .returned (.bool (valsB traits x)) ∧ Below w.heap.size w w' := by
  have b1 := (Below.refl w.heap.size w).alloc (Nat.le_refl _) (.cells #[.int .i64 traits, X1, X2, X3] 25)
  have k1 := Blk.new w #[.int .i64 traits, X1, X2, X3] 25
  have g1 := k1.lt
  have k1c := k1.cell
  have HD : Hid (valsB traits x = (decide ((x.length : Int) = traits) && x.all valB)) := Lib.hid rfl
  generalize valsB traits x = V at *
  by_cases q : (x.length : Int) = traits
  · have HE : Hid (V = x.all valB) := Lib.hid (by rw [HD.out, decide_eq_true q]; simp)
    subst q
    clear HD
    go_enter Tryz.func17, Tryz.ntmps17
    go_wp2_with fail
    have h1 := h.later b1
    generalize hW1 : w.alloc (.cells #[.int .i64 x.length, X1, X2, X3] 25) = W1 at *
    clear hW1 k1c h
    go_loopw [5] (fun ii wr => ∃ i : Nat, i ≤ x.length ∧ ii = .int .i64 i ∧ Hid ((x.take i).all valB = true ∧ Below W1.heap.size W1 wr)) (fun ii _ => x.length - (vInt ii).toNat)
    case atStart => exact ⟨0, Nat.zero_le _, rfl, Lib.hid ⟨by simp, Below.refl _ _⟩⟩
    case round =>
      obtain ⟨i, hi, rfl, hR⟩ := hrel
      obtain ⟨hS, hB⟩ := hR.out
      have b2 := b1.trans (hB.mono b1.size)
      by_cases hlt : i < x.length
      · have hil : (i : Int) < (x.length : Int) := by omega
        obtain ⟨b, off, rfl, hb, c0⟩ := ints_at (h1.later hB) hlt
        have HV := Lib.hid (within6_any x[i] (-1) 1000000 wr)
        cases hv : inN x[i] (-1) 1000000 with
        | false =>
          have Hv : Hid (V = false) := Lib.hid (by rw [HE.out]; exact all_stop hlt hv)
          rw [hv] at HV
          clear hS hR h1 HE hv
          generalize x[i] = y at *
          go_wp2_with (go_at_call 26; (with_reducible refine (HV.out).mono ?_); rintro e w1 ⟨rfl, rfl⟩)
          go_ret
          exact ⟨by rw [Hv.out]; rfl, b2⟩
        | true =>
          have HJ : Hid ((x.take (i + 1)).all valB = true) := Lib.hid (all_next hlt hS hv)
          rw [hv] at HV
          clear hS hR hv
          generalize x[i] = y at *
          go_wp2_with (go_at_call 26; (with_reducible refine (HV.out).mono ?_); rintro e w1 ⟨rfl, rfl⟩)
          go_roundw
          case rel => exact ⟨i + 1, by omega, by go_num, Lib.hid ⟨HJ.out, hB⟩⟩
          case measure => simp [vInt]; omega
      · have hil : ¬ (i : Int) < (x.length : Int) := by omega
        obtain rfl : i = x.length := by omega
        rw [List.take_length] at hS
        have Hv : Hid (V = true) := Lib.hid (by rw [HE.out, hS])
        clear hR hS
        go_wp2_with fail
        go_ret
        exact ⟨by rw [Hv.out]; rfl, b2⟩
  · have q' : ((x.length : Int) != traits) = true := by simpa using q
    have Hv : Hid (V = false) := Lib.hid (by rw [HD.out, decide_eq_false q]; rfl)
    clear h HD q
    go_enter Tryz.func17, Tryz.ntmps17
    go_wp2_with fail
    go_ret
    exact ⟨by rw [Hv.out]; rfl, b1⟩
end Go.Proofs.YtpahcbhikmfamaaGreat
