/- Codes, by the reference: whether they are valid. Written by gent2.py. -/
import Derived.Test.YtkpaikampmeooaaGreatDoorTHom

namespace Go.Proofs.YtkpaikampmeooaaGreatDoor
open Go.RowKit Go.Maps

theorem lawLt_iff {a b : LawT} : lawLt a b = true ↔ a.land < b.land ∨ a.land = b.land ∧ a.kind < b.kind := by simp [lawLt]

set_option maxRecDepth 100000 in
set_option maxHeartbeats 8000000 in
theorem code4_any (l : List LawT) (A : Option Addr) (c : Nat) (s : List StillT) (S : Option Addr) (cs : Nat) (w : World) (h : Laws w w.heap.size A l) (hs : Stills w w.heap.size S s) (hl : l.length ≤ maxLen) (hsl : s.length ≤ maxLen) (hwf : ∀ x ∈ l, LawWf x) :
    Calls Tryz.prog 31 #[.agg #[.slice A l.length c, .slice S s.length cs]] w fun e w' => e = .returned (.bool (codeB l s)) ∧ Below w.heap.size w w' := by
  unfold maxLen at hl hsl
  have b1 := (Below.refl w.heap.size w).alloc (Nat.le_refl _) (.cells #[.slice A l.length c, .slice S s.length cs] 25)
  have k1 := Blk.new w #[.slice A l.length c, .slice S s.length cs] 25
  have hl1 := h.later b1
  have hs1 := hs.later b1
  have k1c := k1.cell
  by_cases h40 : 40 < l.length
  · have hi : (40 : Int) < (l.length : Int) := by omega
    have Hv : Hid (codeB l s = false) := Lib.hid (by unfold codeB lawsB; rw [decide_eq_false (by omega)]; rfl)
    clear h hs hl1 hs1
    go_enter Tryz.func31, Tryz.ntmps31
    go_wp2_with fail
    go_ret
    exact ⟨by rw [Hv.out]; rfl, b1⟩
  by_cases h20 : 20 < s.length
  · have hi0 : ¬ (40 : Int) < (l.length : Int) := by omega
    have hi : (20 : Int) < (s.length : Int) := by omega
    have Hv : Hid (codeB l s = false) := Lib.hid (by unfold codeB stillsB; rw [decide_eq_false (by omega : ¬ s.length ≤ 20), Bool.false_and, Bool.false_and, Bool.and_false])
    clear h hs hl1 hs1
    go_enter Tryz.func31, Tryz.ntmps31
    go_wp2_with fail
    go_ret
    exact ⟨by rw [Hv.out]; rfl, b1⟩
  have hi0 : ¬ (40 : Int) < (l.length : Int) := by omega
  have hi1 : ¬ (20 : Int) < (s.length : Int) := by omega
  have HBL : Hid (lawsB l = (l.all lawB1 && chB lawLt l)) := Lib.hid (by unfold lawsB; rw [decide_eq_true (by omega : l.length ≤ 40), Bool.true_and])
  have HBS : Hid (stillsB s = (s.all stillB1 && chB stillLt s)) := Lib.hid (by unfold stillsB; rw [decide_eq_true (by omega : s.length ≤ 20), Bool.true_and])
  have HWf := Lib.hid hwf
  clear h hs h40 h20 hwf
  go_enter Tryz.func31, Tryz.ntmps31
  go_upto_region 3 with fail
  have HW := Lib.hid (fun n lo hi W => within4_any n lo hi W)
  have g1 := k1.lt
  have E1 : Hid (w.heap.size ≤ w.heap.size) := Lib.hid (Nat.le_refl _)
  generalize hW1 : w.alloc (.cells #[.slice A l.length c, .slice S s.length cs] 25) = W1 at *
  clear hW1
  have hn1' := b1.size
  generalize hn0 : w.heap.size = n0 at *
  have hn1 : n0 ≤ W1.heap.size := hn1'
  clear hn1'
  go_wp2_with fail
  go_loopw [3] (fun ii wr => ∃ i : Nat, i ≤ l.length ∧ ii = .int .i64 i ∧ Hid (upB lawB1 lawLt l i ∧ Below W1.heap.size W1 wr)) (fun ii _ => l.length - (vInt ii).toNat)
  case atStart => exact ⟨0, Nat.zero_le _, rfl, Lib.hid ⟨upB_zero _ _ _, Below.refl _ _⟩⟩
  case round =>
    obtain ⟨i, hi2, rfl, hR⟩ := hrel
    clear k1c
    obtain ⟨hV, hB⟩ := hR.out
    have k2 := k1.below hB g1
    have k2c := k2.cell
    by_cases hlt : i < l.length
    · have hil : (i : Int) < (l.length : Int) := by omega
      have h9 := hl1.later hB
      obtain ⟨b, off, rfl, hb, C⟩ := laws_at h9 hlt
      obtain ⟨c0, c1, c2, c3⟩ := C
      obtain ⟨wf0, ⟨wf1, wf2⟩, wf3, wf4⟩ := HWf.out l[i] (List.getElem_mem hlt)
      have hws1 : IntKind.i64.wrap l[i].kind = l[i].kind := IntWalk.i64_in _ (by omega)
      have hws2 : IntKind.i64.wrap l[i].base = l[i].base := IntWalk.i64_in _ (by omega)
      have bx := hB.alloc hB.size (.cells #[.int .i64 l[i].land, .int .u8 l[i].kind, .int .u8 l[i].base, .int .i64 l[i].keep] 79)
      have kx := Blk.new wr #[.int .i64 l[i].land, .int .u8 l[i].kind, .int .u8 l[i].base, .int .i64 l[i].keep] 79
      have HT : Hid (lawB1 l[i] = true → ((h0 : 0 < i) → lawLt (l[i - 1]'(by omega)) l[i] = true) → upB lawB1 lawLt l (i + 1)) := Lib.hid (fun h1 h2 => upB_next hV hlt h1 h2)
      have H1 : Hid (lawB1 l[i] = false → codeB l s = false) := Lib.hid (fun e => by unfold codeB; rw [HBL.out, upB_bad1 _ hlt e]; rfl)
      have H2 : Hid ((h0 : 0 < i) → lawLt (l[i - 1]'(by omega)) l[i] = false → codeB l s = false) := Lib.hid (fun h0 e => by unfold codeB; rw [HBL.out, upB_bad2 _ hlt h0 e]; rfl)
      clear hV hR wf0 wf1 wf2 wf3 wf4
      cases ha : inN l[i].land 0 99 with
      | false =>
        as_aux_lemma =>
        have Hv : Hid (codeB l s = false) := Lib.hid (H1.out (by unfold lawB1; rw [ha]; simp))
        clear HT H1 H2 HBL HBS HWf h9 hl1 hs1 kx k1 k2
        go_wp2_with (go_at_call 20; (with_reducible refine (HW.out _ _ _ _).mono ?_); rintro e w1 ⟨rfl, rfl⟩)
        go_ret
        exact ⟨by rw [Hv.out]; rfl, by rw [hn0]; exact b1.trans (bx.mono hn1)⟩
      | true =>
        cases hk : inN l[i].kind 1 7 with
        | false =>
          as_aux_lemma =>
          have Hv : Hid (codeB l s = false) := Lib.hid (H1.out (by unfold lawB1; rw [hk]; simp))
          clear HT H1 H2 HBL HBS HWf h9 hl1 hs1 kx k1 k2
          go_wp2_with (go_at_call 20; (with_reducible refine (HW.out _ _ _ _).mono ?_); rintro e w1 ⟨rfl, rfl⟩)
          go_ret
          exact ⟨by rw [Hv.out]; rfl, by rw [hn0]; exact b1.trans (bx.mono hn1)⟩
        | true =>
          cases hbs : inN l[i].base 1 3 with
          | false =>
            as_aux_lemma =>
            have Hv : Hid (codeB l s = false) := Lib.hid (H1.out (by unfold lawB1; rw [hbs]; simp))
            clear HT H1 H2 HBL HBS HWf h9 hl1 hs1 kx k1 k2
            go_wp2_with (go_at_call 20; (with_reducible refine (HW.out _ _ _ _).mono ?_); rintro e w1 ⟨rfl, rfl⟩)
            go_ret
            exact ⟨by rw [Hv.out]; rfl, by rw [hn0]; exact b1.trans (bx.mono hn1)⟩
          | true =>
            cases hkp : inN l[i].keep 0 100000 with
            | false =>
              as_aux_lemma =>
              have Hv : Hid (codeB l s = false) := Lib.hid (H1.out (by unfold lawB1; rw [hkp]; simp))
              clear HT H1 H2 HBL HBS HWf h9 hl1 hs1 kx k1 k2
              go_wp2_with (go_at_call 20; (with_reducible refine (HW.out _ _ _ _).mono ?_); rintro e w1 ⟨rfl, rfl⟩)
              go_ret
              exact ⟨by rw [Hv.out]; rfl, by rw [hn0]; exact b1.trans (bx.mono hn1)⟩
            | true =>
              have hv1 : lawB1 l[i] = true := by unfold lawB1; rw [ha, hk, hbs, hkp]; rfl
              rcases Nat.eq_zero_or_pos i with hi0' | hpos
              · as_aux_lemma =>
                have HJ : Hid (upB lawB1 lawLt l (i + 1)) := Lib.hid (HT.out hv1 (fun h0 => absurd h0 (by omega)))
                have hz0 : decide (0 < i) = false := decide_eq_false (by omega)
                clear hi0'
                go_upto_region 9 with (go_at_call 20; (with_reducible refine (HW.out _ _ _ _).mono ?_); rintro e w1 ⟨rfl, rfl⟩)
                generalize hWx : wr.alloc (.cells #[.int .i64 l[i].land, .int .u8 l[i].kind, .int .u8 l[i].base, .int .i64 l[i].keep] 79) = Wx at bx kx ⊢
                clear hWx
                have lx := kx.lt
                have kxc := After.cells (B := Wx.heap.size) kx.cell kx.lt
                have k3 := k1.below bx g1
                have k3c := After.cells (B := Wx.heap.size) k3.cell k3.lt
                clear kx k1 k2 k3 k2c h9 hl1 hs1 HWf HBL HBS c0 c1 c2 c3 ha hk hbs hkp hws1 hws2 hv1 HT H1 H2
                refine wp_region_class_lit (C := fun w' => ∃ z : After Wx.heap.size Wx, w' = z.val) (by kernel_rfl) (by kernel_rfl) ⟨⟨_, (Below.refl _ _).drew⟩, rfl⟩ ?_
                repeat (go_big_quiet_step (fail))
                refine wpQuiet_nil ?_
                intro wq hw'
                obtain ⟨⟨wz, hz⟩, hw''⟩ := hw'
                dsimp only at hw''
                subst hw''
                have hfin := bx.trans (hz.mono bx.size)
                clear kxc k3c
                go_wp2_with fail
                go_roundw
                case rel => exact ⟨i + 1, by omega, by go_num, Lib.hid ⟨HJ.out, hfin⟩⟩
                case measure => simp [vInt]; omega
              · obtain ⟨m, rfl⟩ : ∃ m, i = m + 1 := ⟨i - 1, by omega⟩
                have hm1 : (m : Int) < (l.length : Int) := by omega
                by_cases q1 : l[m + 1].land < l[m].land
                · as_aux_lemma =>
                  have Hv : Hid (codeB l s = false) := Lib.hid (H2.out (by omega) (by rw [Bool.eq_false_iff, Ne, lawLt_iff]; show ¬ (l[m].land < l[m + 1].land ∨ l[m].land = l[m + 1].land ∧ l[m].kind < l[m + 1].kind); omega))
                  have p1 : decide (l[m + 1].land < l[m].land) = true := decide_eq_true q1
                  clear q1
                  go_upto_region 9 with (go_at_call 20; (with_reducible refine (HW.out _ _ _ _).mono ?_); rintro e w1 ⟨rfl, rfl⟩)
                  generalize hWx : wr.alloc (.cells #[.int .i64 l[m + 1].land, .int .u8 l[m + 1].kind, .int .u8 l[m + 1].base, .int .i64 l[m + 1].keep] 79) = Wx at bx kx ⊢
                  clear hWx
                  have lx := kx.lt
                  have kxc := After.cells (B := Wx.heap.size) kx.cell kx.lt
                  have k3 := k1.below bx g1
                  have k3c := After.cells (B := Wx.heap.size) k3.cell k3.lt
                  have hz9 := hl1.later bx
                  obtain ⟨b', off', e2, hb', C'⟩ := laws_at hz9 (k := m) (by omega)
                  cases e2
                  have d0 := After.cell (B := Wx.heap.size) C'.c0 hb'
                  have d1 := After.cell (B := Wx.heap.size) C'.c1 hb'
                  clear hz9 C'
                  clear kx k1 k2 k3 k2c h9 hl1 hs1 HWf HBL HBS c0 c1 c2 c3 ha hk hbs hkp hws1 hws2 hv1 HT H1 H2
                  refine wp_region_class_lit (C := fun w' => ∃ z : After Wx.heap.size Wx, w' = z.val) (by kernel_rfl) (by kernel_rfl) ⟨⟨_, (Below.refl _ _).drew⟩, rfl⟩ ?_
                  repeat (go_big_quiet_step (fail))
                  refine wpQuiet_nil ?_
                  intro wq hw'
                  obtain ⟨⟨wz, hz⟩, hw''⟩ := hw'
                  dsimp only at hw''
                  subst hw''
                  have hfin := bx.trans (hz.mono bx.size)
                  clear kxc k3c
                  go_wp2_with fail
                  go_ret
                  exact ⟨by rw [Hv.out]; rfl, by rw [hn0]; exact b1.trans (hfin.mono hn1)⟩
                · have p1 : decide (l[m + 1].land < l[m].land) = false := decide_eq_false q1
                  by_cases q2 : l[m + 1].land = l[m].land
                  · have p2 : (l[m + 1].land == l[m].land) = true := by simp [q2]
                    by_cases q3 : l[m + 1].kind ≤ l[m].kind
                    · as_aux_lemma =>
                      have Hv : Hid (codeB l s = false) := Lib.hid (H2.out (by omega) (by rw [Bool.eq_false_iff, Ne, lawLt_iff]; show ¬ (l[m].land < l[m + 1].land ∨ l[m].land = l[m + 1].land ∧ l[m].kind < l[m + 1].kind); have := q2; omega))
                      have p3 : decide (l[m + 1].kind ≤ l[m].kind) = true := decide_eq_true q3
                      clear q1 q2 q3
                      go_upto_region 9 with (go_at_call 20; (with_reducible refine (HW.out _ _ _ _).mono ?_); rintro e w1 ⟨rfl, rfl⟩)
                      generalize hWx : wr.alloc (.cells #[.int .i64 l[m + 1].land, .int .u8 l[m + 1].kind, .int .u8 l[m + 1].base, .int .i64 l[m + 1].keep] 79) = Wx at bx kx ⊢
                      clear hWx
                      have lx := kx.lt
                      have kxc := After.cells (B := Wx.heap.size) kx.cell kx.lt
                      have k3 := k1.below bx g1
                      have k3c := After.cells (B := Wx.heap.size) k3.cell k3.lt
                      have hz9 := hl1.later bx
                      obtain ⟨b', off', e2, hb', C'⟩ := laws_at hz9 (k := m) (by omega)
                      cases e2
                      have d0 := After.cell (B := Wx.heap.size) C'.c0 hb'
                      have d1 := After.cell (B := Wx.heap.size) C'.c1 hb'
                      clear hz9 C'
                      clear kx k1 k2 k3 k2c h9 hl1 hs1 HWf HBL HBS c0 c1 c2 c3 ha hk hbs hkp hws1 hws2 hv1 HT H1 H2
                      refine wp_region_class_lit (C := fun w' => ∃ z : After Wx.heap.size Wx, w' = z.val) (by kernel_rfl) (by kernel_rfl) ⟨⟨_, (Below.refl _ _).drew⟩, rfl⟩ ?_
                      repeat (go_big_quiet_step (fail))
                      refine wpQuiet_nil ?_
                      intro wq hw'
                      obtain ⟨⟨wz, hz⟩, hw''⟩ := hw'
                      dsimp only at hw''
                      subst hw''
                      have hfin := bx.trans (hz.mono bx.size)
                      clear kxc k3c
                      go_wp2_with fail
                      go_ret
                      exact ⟨by rw [Hv.out]; rfl, by rw [hn0]; exact b1.trans (hfin.mono hn1)⟩
                    · as_aux_lemma =>
                      have HJ : Hid (upB lawB1 lawLt l (m + 1 + 1)) := Lib.hid (HT.out hv1 (fun _ => lawLt_iff.2 (show l[m].land < l[m + 1].land ∨ l[m].land = l[m + 1].land ∧ l[m].kind < l[m + 1].kind by omega)))
                      have p3 : decide (l[m + 1].kind ≤ l[m].kind) = false := decide_eq_false q3
                      clear q1 q2 q3
                      go_upto_region 9 with (go_at_call 20; (with_reducible refine (HW.out _ _ _ _).mono ?_); rintro e w1 ⟨rfl, rfl⟩)
                      generalize hWx : wr.alloc (.cells #[.int .i64 l[m + 1].land, .int .u8 l[m + 1].kind, .int .u8 l[m + 1].base, .int .i64 l[m + 1].keep] 79) = Wx at bx kx ⊢
                      clear hWx
                      have lx := kx.lt
                      have kxc := After.cells (B := Wx.heap.size) kx.cell kx.lt
                      have k3 := k1.below bx g1
                      have k3c := After.cells (B := Wx.heap.size) k3.cell k3.lt
                      have hz9 := hl1.later bx
                      obtain ⟨b', off', e2, hb', C'⟩ := laws_at hz9 (k := m) (by omega)
                      cases e2
                      have d0 := After.cell (B := Wx.heap.size) C'.c0 hb'
                      have d1 := After.cell (B := Wx.heap.size) C'.c1 hb'
                      clear hz9 C'
                      clear kx k1 k2 k3 k2c h9 hl1 hs1 HWf HBL HBS c0 c1 c2 c3 ha hk hbs hkp hws1 hws2 hv1 HT H1 H2
                      refine wp_region_class_lit (C := fun w' => ∃ z : After Wx.heap.size Wx, w' = z.val) (by kernel_rfl) (by kernel_rfl) ⟨⟨_, (Below.refl _ _).drew⟩, rfl⟩ ?_
                      repeat (go_big_quiet_step (fail))
                      refine wpQuiet_nil ?_
                      intro wq hw'
                      obtain ⟨⟨wz, hz⟩, hw''⟩ := hw'
                      dsimp only at hw''
                      subst hw''
                      have hfin := bx.trans (hz.mono bx.size)
                      clear kxc k3c
                      go_wp2_with fail
                      go_roundw
                      case rel => exact ⟨m + 1 + 1, by omega, by go_num, Lib.hid ⟨HJ.out, hfin⟩⟩
                      case measure => simp [vInt]; omega
                  · as_aux_lemma =>
                    have HJ : Hid (upB lawB1 lawLt l (m + 1 + 1)) := Lib.hid (HT.out hv1 (fun _ => lawLt_iff.2 (show l[m].land < l[m + 1].land ∨ l[m].land = l[m + 1].land ∧ l[m].kind < l[m + 1].kind by omega)))
                    have p2 : (l[m + 1].land == l[m].land) = false := by simpa using q2
                    clear q1 q2
                    go_upto_region 9 with (go_at_call 20; (with_reducible refine (HW.out _ _ _ _).mono ?_); rintro e w1 ⟨rfl, rfl⟩)
                    generalize hWx : wr.alloc (.cells #[.int .i64 l[m + 1].land, .int .u8 l[m + 1].kind, .int .u8 l[m + 1].base, .int .i64 l[m + 1].keep] 79) = Wx at bx kx ⊢
                    clear hWx
                    have lx := kx.lt
                    have kxc := After.cells (B := Wx.heap.size) kx.cell kx.lt
                    have k3 := k1.below bx g1
                    have k3c := After.cells (B := Wx.heap.size) k3.cell k3.lt
                    have hz9 := hl1.later bx
                    obtain ⟨b', off', e2, hb', C'⟩ := laws_at hz9 (k := m) (by omega)
                    cases e2
                    have d0 := After.cell (B := Wx.heap.size) C'.c0 hb'
                    have d1 := After.cell (B := Wx.heap.size) C'.c1 hb'
                    clear hz9 C'
                    clear kx k1 k2 k3 k2c h9 hl1 hs1 HWf HBL HBS c0 c1 c2 c3 ha hk hbs hkp hws1 hws2 hv1 HT H1 H2
                    refine wp_region_class_lit (C := fun w' => ∃ z : After Wx.heap.size Wx, w' = z.val) (by kernel_rfl) (by kernel_rfl) ⟨⟨_, (Below.refl _ _).drew⟩, rfl⟩ ?_
                    repeat (go_big_quiet_step (fail))
                    refine wpQuiet_nil ?_
                    intro wq hw'
                    obtain ⟨⟨wz, hz⟩, hw''⟩ := hw'
                    dsimp only at hw''
                    subst hw''
                    have hfin := bx.trans (hz.mono bx.size)
                    clear kxc k3c
                    go_wp2_with fail
                    go_roundw
                    case rel => exact ⟨m + 1 + 1, by omega, by go_num, Lib.hid ⟨HJ.out, hfin⟩⟩
                    case measure => simp [vInt]; omega
    · have hil : ¬ (i : Int) < (l.length : Int) := by omega
      obtain rfl : i = l.length := by omega
      have HLB : Hid (lawsB l = true) := Lib.hid (by rw [HBL.out]; exact upB_end hV)
      have hs9 := hs1.later hB
      obtain ⟨W9, rfl⟩ : ∃ W9 : World, W9 = wr := ⟨_, rfl⟩
      have g9 := k2.lt
      have hn9 := Nat.le_trans hn1 hB.size
      have b9 := b1.trans (hB.mono hn1)
      clear hR hV HBL HWf hl1 hs1 k1 hB b1
      go_wp2_with fail
      go_loopw [5] (fun ii wr => ∃ i : Nat, i ≤ s.length ∧ ii = .int .i64 i ∧ Hid (upB stillB1 stillLt s i ∧ Below W9.heap.size W9 wr)) (fun ii _ => s.length - (vInt ii).toNat)
      case atStart => exact ⟨0, Nat.zero_le _, rfl, Lib.hid ⟨upB_zero _ _ _, Below.refl _ _⟩⟩
      case round =>
        obtain ⟨i, hi2, rfl, hR⟩ := hrel
        clear k2c
        obtain ⟨hV, hB⟩ := hR.out
        have k4 := k2.below hB g9
        have k4c := k4.cell
        by_cases hlt : i < s.length
        · have hil2 : (i : Int) < (s.length : Int) := by omega
          have h9 := hs9.later hB
          obtain ⟨b, off, rfl, hb, C⟩ := stills_at h9 hlt
          obtain ⟨c0, c1, c2⟩ := C
          have bx := hB.alloc hB.size (.cells #[.int .i64 s[i].land, .int .i64 s[i].days, .int .u8 s[i].means] 81)
          have kx := Blk.new wr #[.int .i64 s[i].land, .int .i64 s[i].days, .int .u8 s[i].means] 81
          have HT : Hid (stillB1 s[i] = true → ((h0 : 0 < i) → stillLt (s[i - 1]'(by omega)) s[i] = true) → upB stillB1 stillLt s (i + 1)) := Lib.hid (fun h1 h2 => upB_next hV hlt h1 h2)
          have H1 : Hid (stillB1 s[i] = false → codeB l s = false) := Lib.hid (fun e => by unfold codeB; rw [HBS.out, upB_bad1 _ hlt e, Bool.and_false])
          have H2 : Hid ((h0 : 0 < i) → stillLt (s[i - 1]'(by omega)) s[i] = false → codeB l s = false) := Lib.hid (fun h0 e => by unfold codeB; rw [HBS.out, upB_bad2 _ hlt h0 e, Bool.and_false])
          clear hV hR
          have hm2' : Hid True := Lib.hid trivial
          cases ha : inN s[i].land 0 99 with
          | false =>
            as_aux_lemma =>
            have Hv : Hid (codeB l s = false) := Lib.hid (H1.out (by unfold stillB1; rw [ha]; rfl))
            go_upto_region 15 with fail
            generalize hWx : wr.alloc (.cells #[.int .i64 s[i].land, .int .i64 s[i].days, .int .u8 s[i].means] 81) = Wx at bx kx ⊢
            clear hWx
            have lx := kx.lt
            have kxc := After.cells (B := Wx.heap.size) kx.cell kx.lt
            have k5 := k2.below bx g9
            have k5c := After.cells (B := Wx.heap.size) k5.cell k5.lt
            have GA : Hid (∀ x : After Wx.heap.size Wx, Calls Tryz.prog 20 #[.int .i64 s[i].land, .int .i64 0, .int .i64 99] x.val fun e w' => e = .returned (.bool false) ∧ x.val = w') := Lib.hid (fun x => by have q := within4_any s[i].land 0 99 x.val; rw [ha] at q; exact q)
            clear kx k2 k4 k5 k4c h9 hs9 HBS HLB c0 c1 c2 HT H1 H2 ha
            refine wp_region_class_lit (C := fun w' => ∃ z : After Wx.heap.size Wx, w' = z.val) (by kernel_rfl) (by kernel_rfl) ⟨⟨_, (Below.refl _ _).drew⟩, rfl⟩ ?_
            repeat (go_big_quiet_step ((first
              | (go_at_call 20; with_reducible exact after_of_same _ (GA.out _)))))
            refine wpQuiet_nil ?_
            intro wq hw'
            obtain ⟨⟨wz, hz⟩, hw''⟩ := hw'
            dsimp only at hw''
            subst hw''
            have hfin := bx.trans (hz.mono bx.size)
            clear kxc k5c
            go_wp2_with fail
            go_ret
            exact ⟨by rw [Hv.out]; rfl, by rw [hn0]; exact b9.trans (hfin.mono hn9)⟩
          | true =>
            cases hd : inN s[i].days 1 100000 with
            | false =>
              as_aux_lemma =>
              have Hv : Hid (codeB l s = false) := Lib.hid (H1.out (by unfold stillB1; rw [hd]; simp))
              go_upto_region 15 with fail
              generalize hWx : wr.alloc (.cells #[.int .i64 s[i].land, .int .i64 s[i].days, .int .u8 s[i].means] 81) = Wx at bx kx ⊢
              clear hWx
              have lx := kx.lt
              have kxc := After.cells (B := Wx.heap.size) kx.cell kx.lt
              have k5 := k2.below bx g9
              have k5c := After.cells (B := Wx.heap.size) k5.cell k5.lt
              have GA : Hid (∀ x : After Wx.heap.size Wx, Calls Tryz.prog 20 #[.int .i64 s[i].land, .int .i64 0, .int .i64 99] x.val fun e w' => e = .returned (.bool true) ∧ x.val = w') := Lib.hid (fun x => by have q := within4_any s[i].land 0 99 x.val; rw [ha] at q; exact q)
              have GD : Hid (∀ x : After Wx.heap.size Wx, Calls Tryz.prog 20 #[.int .i64 s[i].days, .int .i64 1, .int .i64 100000] x.val fun e w' => e = .returned (.bool false) ∧ x.val = w') := Lib.hid (fun x => by have q := within4_any s[i].days 1 100000 x.val; rw [hd] at q; exact q)
              clear kx k2 k4 k5 k4c h9 hs9 HBS HLB c0 c1 c2 HT H1 H2 ha hd
              refine wp_region_class_lit (C := fun w' => ∃ z : After Wx.heap.size Wx, w' = z.val) (by kernel_rfl) (by kernel_rfl) ⟨⟨_, (Below.refl _ _).drew⟩, rfl⟩ ?_
              repeat (go_big_quiet_step ((first
                | (go_at_call 20; with_reducible exact after_of_same _ (GA.out _))
                | (go_at_call 20; with_reducible exact after_of_same _ (GD.out _)))))
              refine wpQuiet_nil ?_
              intro wq hw'
              obtain ⟨⟨wz, hz⟩, hw''⟩ := hw'
              dsimp only at hw''
              subst hw''
              have hfin := bx.trans (hz.mono bx.size)
              clear kxc k5c
              go_wp2_with fail
              go_ret
              exact ⟨by rw [Hv.out]; rfl, by rw [hn0]; exact b9.trans (hfin.mono hn9)⟩
            | true =>
              by_cases hm : s[i].means ≤ 2
              · have em : decide (2 < s[i].means) = false := decide_eq_false (by omega)
                have hv1 : stillB1 s[i] = true := by unfold stillB1; rw [ha, hd, decide_eq_true hm]; rfl
                rcases Nat.eq_zero_or_pos i with hi0' | hpos
                · as_aux_lemma =>
                  have HJ : Hid (upB stillB1 stillLt s (i + 1)) := Lib.hid (HT.out hv1 (fun h0 => absurd h0 (by omega)))
                  have hz0 : decide (0 < i) = false := decide_eq_false (by omega)
                  clear hi0'
                  go_upto_region 15 with fail
                  generalize hWx : wr.alloc (.cells #[.int .i64 s[i].land, .int .i64 s[i].days, .int .u8 s[i].means] 81) = Wx at bx kx ⊢
                  clear hWx
                  have lx := kx.lt
                  have kxc := After.cells (B := Wx.heap.size) kx.cell kx.lt
                  have k5 := k2.below bx g9
                  have k5c := After.cells (B := Wx.heap.size) k5.cell k5.lt
                  have GA : Hid (∀ x : After Wx.heap.size Wx, Calls Tryz.prog 20 #[.int .i64 s[i].land, .int .i64 0, .int .i64 99] x.val fun e w' => e = .returned (.bool true) ∧ x.val = w') := Lib.hid (fun x => by have q := within4_any s[i].land 0 99 x.val; rw [ha] at q; exact q)
                  have GD : Hid (∀ x : After Wx.heap.size Wx, Calls Tryz.prog 20 #[.int .i64 s[i].days, .int .i64 1, .int .i64 100000] x.val fun e w' => e = .returned (.bool true) ∧ x.val = w') := Lib.hid (fun x => by have q := within4_any s[i].days 1 100000 x.val; rw [hd] at q; exact q)
                  clear kx k2 k4 k5 k4c h9 hs9 HBS HLB c0 c1 c2 HT H1 H2 ha hd hm hv1
                  refine wp_region_class_lit (C := fun w' => ∃ z : After Wx.heap.size Wx, w' = z.val) (by kernel_rfl) (by kernel_rfl) ⟨⟨_, (Below.refl _ _).drew⟩, rfl⟩ ?_
                  repeat (go_big_quiet_step ((first
                    | (go_at_call 20; with_reducible exact after_of_same _ (GA.out _))
                    | (go_at_call 20; with_reducible exact after_of_same _ (GD.out _)))))
                  refine wpQuiet_nil ?_
                  intro wq hw'
                  obtain ⟨⟨wz, hz⟩, hw''⟩ := hw'
                  dsimp only at hw''
                  subst hw''
                  have hfin := bx.trans (hz.mono bx.size)
                  clear kxc k5c
                  go_wp2_with fail
                  go_roundw
                  case rel => exact ⟨i + 1, by omega, by go_num, Lib.hid ⟨HJ.out, hfin⟩⟩
                  case measure => simp [vInt]; omega
                · obtain ⟨m, rfl⟩ : ∃ m, i = m + 1 := ⟨i - 1, by omega⟩
                  have hm1 : (m : Int) < (s.length : Int) := by omega
                  by_cases q1 : s[m].land < s[m + 1].land
                  · as_aux_lemma =>
                    have ec : decide (s[m + 1].land ≤ s[m].land) = false := decide_eq_false (by omega)
                    have HJ : Hid (upB stillB1 stillLt s (m + 1 + 1)) := Lib.hid (HT.out hv1 (fun _ => decide_eq_true q1))
                    go_upto_region 15 with fail
                    generalize hWx : wr.alloc (.cells #[.int .i64 s[m + 1].land, .int .i64 s[m + 1].days, .int .u8 s[m + 1].means] 81) = Wx at bx kx ⊢
                    clear hWx
                    have lx := kx.lt
                    have kxc := After.cells (B := Wx.heap.size) kx.cell kx.lt
                    have k5 := k2.below bx g9
                    have k5c := After.cells (B := Wx.heap.size) k5.cell k5.lt
                    have hz9 := hs9.later bx
                    obtain ⟨b', off', e2, hb', C'⟩ := stills_at hz9 (k := m) (by omega)
                    cases e2
                    have d0 := After.cell (B := Wx.heap.size) C'.c0 hb'
                    clear hz9 C'
                    have GA : Hid (∀ x : After Wx.heap.size Wx, Calls Tryz.prog 20 #[.int .i64 s[m + 1].land, .int .i64 0, .int .i64 99] x.val fun e w' => e = .returned (.bool true) ∧ x.val = w') := Lib.hid (fun x => by have q := within4_any s[m + 1].land 0 99 x.val; rw [ha] at q; exact q)
                    have GD : Hid (∀ x : After Wx.heap.size Wx, Calls Tryz.prog 20 #[.int .i64 s[m + 1].days, .int .i64 1, .int .i64 100000] x.val fun e w' => e = .returned (.bool true) ∧ x.val = w') := Lib.hid (fun x => by have q := within4_any s[m + 1].days 1 100000 x.val; rw [hd] at q; exact q)
                    clear kx k2 k4 k5 k4c h9 hs9 HBS HLB c0 c1 c2 HT H1 H2 ha hd hm hv1 q1
                    refine wp_region_class_lit (C := fun w' => ∃ z : After Wx.heap.size Wx, w' = z.val) (by kernel_rfl) (by kernel_rfl) ⟨⟨_, (Below.refl _ _).drew⟩, rfl⟩ ?_
                    repeat (go_big_quiet_step ((first
                      | (go_at_call 20; with_reducible exact after_of_same _ (GA.out _))
                      | (go_at_call 20; with_reducible exact after_of_same _ (GD.out _)))))
                    refine wpQuiet_nil ?_
                    intro wq hw'
                    obtain ⟨⟨wz, hz⟩, hw''⟩ := hw'
                    dsimp only at hw''
                    subst hw''
                    have hfin := bx.trans (hz.mono bx.size)
                    clear kxc k5c
                    go_wp2_with fail
                    go_roundw
                    case rel => exact ⟨m + 1 + 1, by omega, by go_num, Lib.hid ⟨HJ.out, hfin⟩⟩
                    case measure => simp [vInt]; omega
                  · as_aux_lemma =>
                    have ec : decide (s[m + 1].land ≤ s[m].land) = true := decide_eq_true (by omega)
                    have Hv : Hid (codeB l s = false) := Lib.hid (H2.out (by omega) (decide_eq_false q1))
                    go_upto_region 15 with fail
                    generalize hWx : wr.alloc (.cells #[.int .i64 s[m + 1].land, .int .i64 s[m + 1].days, .int .u8 s[m + 1].means] 81) = Wx at bx kx ⊢
                    clear hWx
                    have lx := kx.lt
                    have kxc := After.cells (B := Wx.heap.size) kx.cell kx.lt
                    have k5 := k2.below bx g9
                    have k5c := After.cells (B := Wx.heap.size) k5.cell k5.lt
                    have hz9 := hs9.later bx
                    obtain ⟨b', off', e2, hb', C'⟩ := stills_at hz9 (k := m) (by omega)
                    cases e2
                    have d0 := After.cell (B := Wx.heap.size) C'.c0 hb'
                    clear hz9 C'
                    have GA : Hid (∀ x : After Wx.heap.size Wx, Calls Tryz.prog 20 #[.int .i64 s[m + 1].land, .int .i64 0, .int .i64 99] x.val fun e w' => e = .returned (.bool true) ∧ x.val = w') := Lib.hid (fun x => by have q := within4_any s[m + 1].land 0 99 x.val; rw [ha] at q; exact q)
                    have GD : Hid (∀ x : After Wx.heap.size Wx, Calls Tryz.prog 20 #[.int .i64 s[m + 1].days, .int .i64 1, .int .i64 100000] x.val fun e w' => e = .returned (.bool true) ∧ x.val = w') := Lib.hid (fun x => by have q := within4_any s[m + 1].days 1 100000 x.val; rw [hd] at q; exact q)
                    clear kx k2 k4 k5 k4c h9 hs9 HBS HLB c0 c1 c2 HT H1 H2 ha hd hm hv1 q1
                    refine wp_region_class_lit (C := fun w' => ∃ z : After Wx.heap.size Wx, w' = z.val) (by kernel_rfl) (by kernel_rfl) ⟨⟨_, (Below.refl _ _).drew⟩, rfl⟩ ?_
                    repeat (go_big_quiet_step ((first
                      | (go_at_call 20; with_reducible exact after_of_same _ (GA.out _))
                      | (go_at_call 20; with_reducible exact after_of_same _ (GD.out _)))))
                    refine wpQuiet_nil ?_
                    intro wq hw'
                    obtain ⟨⟨wz, hz⟩, hw''⟩ := hw'
                    dsimp only at hw''
                    subst hw''
                    have hfin := bx.trans (hz.mono bx.size)
                    clear kxc k5c
                    go_wp2_with fail
                    go_ret
                    exact ⟨by rw [Hv.out]; rfl, by rw [hn0]; exact b9.trans (hfin.mono hn9)⟩
              · as_aux_lemma =>
                have em : decide (2 < s[i].means) = true := decide_eq_true (by omega)
                have Hv : Hid (codeB l s = false) := Lib.hid (H1.out (by unfold stillB1; rw [decide_eq_false hm, Bool.and_false]))
                go_upto_region 15 with fail
                generalize hWx : wr.alloc (.cells #[.int .i64 s[i].land, .int .i64 s[i].days, .int .u8 s[i].means] 81) = Wx at bx kx ⊢
                clear hWx
                have lx := kx.lt
                have kxc := After.cells (B := Wx.heap.size) kx.cell kx.lt
                have k5 := k2.below bx g9
                have k5c := After.cells (B := Wx.heap.size) k5.cell k5.lt
                have GA : Hid (∀ x : After Wx.heap.size Wx, Calls Tryz.prog 20 #[.int .i64 s[i].land, .int .i64 0, .int .i64 99] x.val fun e w' => e = .returned (.bool true) ∧ x.val = w') := Lib.hid (fun x => by have q := within4_any s[i].land 0 99 x.val; rw [ha] at q; exact q)
                have GD : Hid (∀ x : After Wx.heap.size Wx, Calls Tryz.prog 20 #[.int .i64 s[i].days, .int .i64 1, .int .i64 100000] x.val fun e w' => e = .returned (.bool true) ∧ x.val = w') := Lib.hid (fun x => by have q := within4_any s[i].days 1 100000 x.val; rw [hd] at q; exact q)
                clear kx k2 k4 k5 k4c h9 hs9 HBS HLB c0 c1 c2 HT H1 H2 ha hd hm
                refine wp_region_class_lit (C := fun w' => ∃ z : After Wx.heap.size Wx, w' = z.val) (by kernel_rfl) (by kernel_rfl) ⟨⟨_, (Below.refl _ _).drew⟩, rfl⟩ ?_
                repeat (go_big_quiet_step ((first
                  | (go_at_call 20; with_reducible exact after_of_same _ (GA.out _))
                  | (go_at_call 20; with_reducible exact after_of_same _ (GD.out _)))))
                refine wpQuiet_nil ?_
                intro wq hw'
                obtain ⟨⟨wz, hz⟩, hw''⟩ := hw'
                dsimp only at hw''
                subst hw''
                have hfin := bx.trans (hz.mono bx.size)
                clear kxc k5c
                go_wp2_with fail
                go_ret
                exact ⟨by rw [Hv.out]; rfl, by rw [hn0]; exact b9.trans (hfin.mono hn9)⟩
        · have hil2 : ¬ (i : Int) < (s.length : Int) := by omega
          obtain rfl : i = s.length := by omega
          have Hv : Hid (codeB l s = true) := Lib.hid (by unfold codeB; rw [HLB.out, HBS.out, upB_end hV]; rfl)
          clear hR hV
          go_wp2_with fail
          go_ret
          exact ⟨by rw [Hv.out]; rfl, by first | exact b9.trans (hB.mono hn9) | (rw [hn0]; exact b9.trans (hB.mono hn9))⟩

end Go.Proofs.YtkpaikampmeooaaGreatDoor
