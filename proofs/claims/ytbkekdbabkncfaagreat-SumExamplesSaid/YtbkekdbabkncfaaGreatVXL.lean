/- The law on the examples of audits. Written by vxl.py. -/
import Derived.Test.YtbkekdbabkncfaaGreatVEy

namespace Go.Proofs.YtbkekdbabkncfaaGreat
open Go.RowKit Go.Maps

set_option maxRecDepth 100000 in
set_option maxHeartbeats 32000000 in
theorem sumExamples_any (w : World) : Calls Tryz.prog 3 #[] w fun e w' => e = .returned (.bool true) ∧ Below w.heap.size w w' := by
  have HL := Lib.hid (fun W => alive_any W)
  have HT := Lib.hid (fun W => table_any W)
  have HA := Lib.hid (fun lo hi W => aged_any lo hi W)
  have HQ := Lib.hid (fun W => questions_any W)
  have al : ∀ (W W' : World) (o : Obj), Below (W.alloc o).heap.size (W.alloc o) W' → Below W.heap.size W W' := fun W W' o h => ((Below.refl W.heap.size W).alloc (Nat.le_refl _) o).trans (h.mono (by simp))
  go_enter Tryz.func3, Tryz.ntmps3
  go_upto_region 3 with (go_at_call 12; (with_reducible refine (HL.out _).mono ?_); rintro e w1 ⟨rfl, h1⟩)
  go_upto_region 4 with (go_at_call 13; (with_reducible refine (HA.out _ _ _).mono ?_); rintro e w2 ⟨W2, c2, rfl, Q2, h2⟩)
  have kB := Blk.new w2 #[.slice W2 1 c2, .int .i64 1, .int .i64 800, .int .i64 300] 25
  have bA := (h1.trans (h2.mono h1.size)).alloc (Nat.le_trans h1.size h2.size) (.cells #[.slice W2 1 c2, .int .i64 1, .int .i64 800, .int .i64 300] 25)
  have q3 := Q2.out.lat ((Below.refl w2.heap.size w2).alloc (Nat.le_refl _) (.cells #[.slice W2 1 c2, .int .i64 1, .int .i64 800, .int .i64 300] 25))
  go_upto_region 5 with fail
  generalize hW : w2.alloc (.cells #[.slice W2 1 c2, .int .i64 1, .int .i64 800, .int .i64 300] 25) = W3 at *
  clear hW h1 h2 Q2
  generalize hg : w2.heap.size = g2 at *
  clear hg
  have kBc := kB.cell
  have gl := kB.lt
  have Q3 := Lib.hid q3
  have HB := Lib.hid bA
  have KB := Lib.hid kB
  clear bA kB
  go_cut [2, 3, 4] (fun s2 s3 s4 wx => s2 = .int .i64 2100 ∧ s3 = .int .i64 900 ∧ s4 = .int .i64 0 ∧ Below W3.heap.size W3 wx)
  case first =>
    go_region_with (first
      | (go_at_call 15; (with_reducible refine (HT.out _).mono ?_); rintro e w4 ⟨A4, c4, l4, rfl, T4, h4⟩; have b4 := ((Below.refl W3.heap.size W3).drew).trans h4; have k4 := (KB.out.below b4 gl).cell)
      | (go_at_call 14; (with_reducible refine (sum_g 30 60 300 2100 900 0 sum_e1 T4.out.1 T4.out.2 (Q3.out.lat b4)).mono ?_); rintro e w5 ⟨rfl, h5⟩; have b5 := b4.trans (h5.mono b4.size)))
    all_goals first | (go_step; go_step; go_meet) | (go_step; go_meet) | go_meet
    all_goals exact ⟨rfl, rfl, rfl, b5⟩
  case rest =>
    obtain ⟨rfl, rfl, rfl, hb5⟩ := hcut
    have B5 := HB.out.trans (hb5.mono HB.out.size)
    clear HB KB kBc hb5 Q3 q3
    go_upto_region 7 with (first
      | (go_at_call 15; (with_reducible refine (HT.out _).mono ?_); rintro e w1 ⟨A1, c1, l1, rfl, T1, h1⟩)
      | (go_at_call 13; (with_reducible refine (HA.out _ _ _).mono ?_); rintro e w2 ⟨W2, c2, rfl, Q2, h2⟩)
      | (go_at_call 14; (with_reducible refine (sum_g 30 45 100 1200 800 0 sum_e2 T1.out.1 (T1.out.2.later h2) Q2.out).mono ?_); rintro e ws ⟨rfl, hs⟩))
    have B6 := B5.trans (((h1.trans (h2.mono h1.size)).trans (hs.mono (Nat.le_trans h1.size h2.size))).mono B5.size)
    clear T1 h1 Q2 h2 hs B5
    go_upto_region 8 with (first
      | (go_at_call 15; (with_reducible refine (HT.out _).mono ?_); rintro e w1 ⟨A1, c1, l1, rfl, T1, h1⟩)
      | (go_at_call 17; (with_reducible refine (HQ.out _).mono ?_); rintro e w2 ⟨b2, q2, rfl, Q2, h2⟩)
      | (go_at_call 16; (with_reducible refine (how_x32 l1 A1 c1 q2 _ T1.out.1 (T1.out.2.later h2) Q2.out.1 Q2.out.2).mono ?_); rintro e wh ⟨Ah, ch, rfl, HH, hm⟩))
    have B7 := B6.trans (((h1.trans (h2.mono h1.size)).trans (hm.mono (Nat.le_trans h1.size h2.size))).mono B6.size)
    clear T1 h1 Q2 h2 hm B6
    have S3 := Lib.hid (fun (W : World) (h : IntsAt W W.heap.size Ah [1, 1, -1]) => (show Calls Tryz.prog 18 #[.slice Ah 3 ch, .slice (some ⟨W.heap.size, 0, none⟩) 3 3] (W.alloc (.cells #[.int .i64 1, .int .i64 1, .int .i64 (-1)] 3)) (fun e w' => e = .returned (.bool true) ∧ Below (W.alloc (.cells #[.int .i64 1, .int .i64 1, .int .i64 (-1)] 3)).heap.size (W.alloc (.cells #[.int .i64 1, .int .i64 1, .int .i64 (-1)] 3)) w') from same_lit [1, 1, -1] Ah ch 3 _ W h (by decide) rfl))
    go_upto_region 10 with (go_at_call 18; (with_reducible refine (S3.out _ HH.out).mono ?_); rintro e x1 ⟨rfl, y1⟩; have z1 := al _ _ _ y1)
    have B8 := B7.trans (z1.mono B7.size)
    clear S3 HH y1 z1 B7
    go_upto_region 13 with (go_at_call 13; (with_reducible refine (HA.out _ _ _).mono ?_); rintro e w2 ⟨W2, c2, rfl, Q2, h2⟩)
    rename_i wa Wa ca Qa ha Kx hKx
    have kO := (Blk.new w2 #[.slice Wa 1 ca, .int .i64 1, .int .i64 800, .int .i64 0] 25).alloc (.cells #[.slice W2 1 c2, .int .i64 1, .int .i64 700, .int .i64 100] 25)
    have kP := newAt' (w2.alloc (.cells #[.slice Wa 1 ca, .int .i64 1, .int .i64 800, .int .i64 0] 25)) #[.slice W2 1 c2, .int .i64 1, .int .i64 700, .int .i64 100] 25 (g := w2.heap.size + 1) (by simp)
    have bz := ((Below.refl w2.heap.size w2).alloc (Nat.le_refl _) (.cells #[.slice Wa 1 ca, .int .i64 1, .int .i64 800, .int .i64 0] 25)).alloc (by simp) (.cells #[.slice W2 1 c2, .int .i64 1, .int .i64 700, .int .i64 100] 25)
    have qa := Lib.hid ((Qa.out.lat h2).lat bz)
    have qb := Lib.hid (Q2.out.lat bz)
    have BZ := Lib.hid ((((B8.trans (ha.mono B8.size)).trans (h2.mono (Nat.le_trans B8.size ha.size)))).trans (bz.mono (Nat.le_trans B8.size (Nat.le_trans ha.size h2.size))))
    clear B8 ha h2 bz Qa Q2
    generalize hW : (w2.alloc (.cells #[.slice Wa 1 ca, .int .i64 1, .int .i64 800, .int .i64 0] 25)).alloc (.cells #[.slice W2 1 c2, .int .i64 1, .int .i64 700, .int .i64 100] 25) = WZ at *
    clear hW
    generalize hg1 : w2.heap.size + 1 = g5 at *
    clear hg1
    generalize hg2 : w2.heap.size = g4 at *
    clear hg2
    have KO := Lib.hid kO
    have KP := Lib.hid kP
    have kOc := kO.cell
    have kPc := kP.cell
    clear kO kP
    go_cut [4] (fun s4 wx => s4 = .int .i64 101 ∧ Below WZ.heap.size WZ wx)
    case first =>
      go_region_with (first
        | (go_at_call 15; (with_reducible refine (HT.out _).mono ?_); rintro e w4 ⟨A4, c4, l4, rfl, T4, h4⟩; have b4 := ((Below.refl WZ.heap.size WZ).drew).trans h4; have k4 := (KO.out.below b4 KO.out.lt).cell)
        | (go_at_call 14; (with_reducible refine (sum_g 30 45 0 0 0 101 sum_e3 T4.out.1 T4.out.2 (qa.out.lat b4)).mono ?_); rintro e w5 ⟨rfl, h5⟩; have b5 := b4.trans (h5.mono b4.size)))
      all_goals first | (go_step; go_step; go_meet) | (go_step; go_meet) | go_meet
      all_goals exact ⟨rfl, b5⟩
    case rest =>
      obtain ⟨rfl, hb5⟩ := hcut
      clear kOc kPc
      generalize hwc : wc = WY at *
      clear hwc
      have D0 : Below WY.heap.size WY WY.drew := (Below.refl _ _).drew
      have KPy := Lib.hid (KP.out.below hb5 KP.out.lt)
      have qby := Lib.hid (qb.out.lat hb5)
      have kPc := KPy.out.cell
      go_upto_region 14 with fail
      go_cut [7] (fun s7 wx => s7 = .int .i64 102 ∧ Below WY.heap.size WY wx)
      case first =>
        go_region_with (first
          | (go_at_call 15; (with_reducible refine (HT.out _).mono ?_); rintro e w4 ⟨A4, c4, l4, rfl, T4, h4⟩; have b4 := D0.trans h4; have k4 := (KPy.out.below b4 KPy.out.lt).cell)
          | (go_at_call 13; (with_reducible refine (HA.out _ _ _).mono ?_); rintro e w5 ⟨W5, c5, rfl, Q5, h5⟩; have b5 := b4.trans (h5.mono b4.size); have k5 := (KPy.out.below b5 KPy.out.lt).cell)
          | (go_at_call 19; (with_reducible refine (deduced_oth T4.out.1 (T4.out.2.later h5) Q5.out (qby.out.lat b5)).mono ?_); rintro e w6 ⟨rfl, h6⟩; have b6 := b5.trans (h6.mono b5.size)))
        all_goals first | (go_step; go_step; go_meet) | (go_step; go_meet) | go_meet
        all_goals exact ⟨rfl, b6⟩
      case rest =>
        obtain ⟨rfl, hb6⟩ := hcut
        generalize hwd : wc = WX at *
        clear hwd
        have C0 := Below.refl WX.heap.size WX
        have HB6 := Lib.hid hb6
        have HB5 := Lib.hid hb5
        clear hb5 hb6 kPc D0
        go_upto_region 16 with (first
          | (go_at_call 15; (with_reducible refine (HT.out _).mono ?_); rintro e w1 ⟨A1, c1, l1, rfl, T1, h1⟩)
          | (go_at_call 17; (with_reducible refine (HQ.out _).mono ?_); rintro e w2 ⟨b2, q2, rfl, Q2, h2⟩)
          | (go_at_call 16; (with_reducible refine (how_n34 l1 A1 c1 q2 _ T1.out.1 (T1.out.2.later h2) Q2.out.1 Q2.out.2).mono ?_); rintro e wh ⟨rfl, hm⟩))
        have C1 := C0.trans (((h1.trans (h2.mono h1.size)).trans (hm.mono (Nat.le_trans h1.size h2.size))).mono C0.size)
        clear T1 h1 Q2 h2 hm
        go_upto_region 17 with (first
          | (go_at_call 15; (with_reducible refine (HT.out _).mono ?_); rintro e w1 ⟨A1, c1, l1, rfl, T1, h1⟩)
          | (go_at_call 17; (with_reducible refine (HQ.out _).mono ?_); rintro e w2 ⟨b2, q2, rfl, Q2, h2⟩)
          | (go_at_call 20; (with_reducible refine (hid_n31 l1 A1 c1 q2 _ T1.out.1 (T1.out.2.later h2) Q2.out.1 Q2.out.2).mono ?_); rintro e wh ⟨rfl, hm⟩))
        have C2 := C1.trans (((h1.trans (h2.mono h1.size)).trans (hm.mono (Nat.le_trans h1.size h2.size))).mono C1.size)
        clear T1 h1 Q2 h2 hm
        go_upto_region 18 with (first
          | (go_at_call 15; (with_reducible refine (HT.out _).mono ?_); rintro e w1 ⟨A1, c1, l1, rfl, T1, h1⟩)
          | (go_at_call 17; (with_reducible refine (HQ.out _).mono ?_); rintro e w2 ⟨b2, q2, rfl, Q2, h2⟩)
          | (go_at_call 16; (with_reducible refine (how_n21 l1 A1 c1 q2 _ T1.out.1 (T1.out.2.later h2) Q2.out.1 Q2.out.2).mono ?_); rintro e wh ⟨rfl, hm⟩))
        have C3 := C2.trans (((h1.trans (h2.mono h1.size)).trans (hm.mono (Nat.le_trans h1.size h2.size))).mono C2.size)
        clear T1 h1 Q2 h2 hm
        go_upto_region 19 with (first
          | (go_at_call 15; (with_reducible refine (HT.out _).mono ?_); rintro e w1 ⟨A1, c1, l1, rfl, T1, h1⟩)
          | (go_at_call 17; (with_reducible refine (HQ.out _).mono ?_); rintro e w2 ⟨b2, q2, rfl, Q2, h2⟩)
          | (go_at_call 20; (with_reducible refine (hid_n34 l1 A1 c1 q2 _ T1.out.1 (T1.out.2.later h2) Q2.out.1 Q2.out.2).mono ?_); rintro e wv ⟨rfl, hm⟩))
        have C4 := C3.trans (((h1.trans (h2.mono h1.size)).trans (hm.mono (Nat.le_trans h1.size h2.size))).mono C3.size)
        clear T1 h1 Q2 h2 hm
        have D4 := Lib.hid (HB5.out.trans ((HB6.out.trans (C4.mono HB6.out.size)).mono HB5.out.size))
        have KOv := Lib.hid (KO.out.below D4.out KO.out.lt)
        have qav := Lib.hid (qa.out.lat D4.out)
        have kOc := KOv.out.cell
        have E0 : Below wv.heap.size wv wv.drew := (Below.refl _ _).drew
        clear C0 C1 C2 C3 C4
        go_cut [21] (fun s21 wx => s21 = .int .i64 100 ∧ Below wv.heap.size wv wx)
        case first =>
          go_region_with (first
            | (go_at_call 15; (with_reducible refine (HT.out _).mono ?_); rintro e w4 ⟨A4, c4, l4, rfl, T4, h4⟩; have b4 := E0.trans h4; have k4 := (KOv.out.below b4 KOv.out.lt).cell)
            | (go_at_call 21; (with_reducible refine (meets_bad T4.out.1 T4.out.2 (qav.out.lat b4)).mono ?_); rintro e w5 ⟨A5, c5, rfl, h5⟩; have b5 := b4.trans (h5.mono b4.size)))
          all_goals first | (go_step; go_step; go_meet) | (go_step; go_meet) | go_meet
          all_goals exact ⟨rfl, b5⟩
        case rest =>
          obtain ⟨rfl, hb7⟩ := hcut
          have BF := BZ.out.trans ((D4.out.trans (hb7.mono D4.out.size)).mono BZ.out.size)
          go_wp2_with (go_at_call 22; (with_reducible refine (check_bad _).mono ?_); rintro e w9 ⟨rfl, h9⟩)
          go_ret
          exact ⟨rfl, BF.trans (h9.mono BF.size)⟩
end Go.Proofs.YtbkekdbabkncfaaGreat
