/- Equal lists of numbers. Written by a program. -/
import Derived.Test.YtkimojiakabbcaaGreatRExSP1
import Derived.Deep.RegionLawGrows

namespace Go.Proofs.YtkimojiakabbcaaGreat
open Go.RowKit Go.Maps

set_option maxRecDepth 100000 in
set_option maxHeartbeats 4000000 in
theorem sameInts_any (l : List Int) (A B : Option Addr) (a b : Nat) (w : World) (h1 : IntsAt w w.heap.size A l) (h2 : IntsAt w w.heap.size B l) (hl : l.length ≤ 1000) :
    Calls Tryz.prog 16 #[.slice A l.length a, .slice B l.length b] w fun e w' => e = .returned (.bool true) ∧ Below w.heap.size w w' := by
  have hne : ((l.length : Int) != (l.length : Int)) = false := by simp
  go_enter Tryz.func16, Tryz.ntmps16
  go_wp2_with fail
  go_loopw [5] (fun ii wr => ∃ i : Nat, i ≤ l.length ∧ ii = .int .i64 i ∧ Hid (Below w.heap.size w wr)) (fun ii _ => l.length - (vInt ii).toNat)
  case atStart => exact ⟨0, Nat.zero_le _, rfl, Lib.hid (Below.refl _ _)⟩
  case round =>
    obtain ⟨i, hi, rfl, hR⟩ := hrel
    have hB := hR.out
    by_cases hlt : i < l.length
    · have hil : (i : Int) < (l.length : Int) := by omega
      obtain ⟨b1, off, rfl, hb, c0⟩ := ints_at (h1.later hB) hlt
      obtain ⟨b', off', rfl, hb', c0'⟩ := ints_at (h2.later hB) hlt
      have hq : (l[i] != l[i]) = false := by simp
      have d0 := After.cell (B := wr.heap.size) c0 hb
      have d1 := After.cell (B := wr.heap.size) c0' hb'
      clear hR
      generalize l[i] = y at *
      go_upto_region 6 with fail
      refine wp_region_class_lit (C := fun w' => ∃ z : After wr.heap.size wr, w' = z.val) (by kernel_rfl) (by kernel_rfl) ⟨⟨_, (Below.refl _ _).drew⟩, rfl⟩ ?_
      repeat (go_big_quiet_step (fail))
      refine wpQuiet_nil ?_
      intro wq hw'
      obtain ⟨⟨wz, hz⟩, hw''⟩ := hw'
      dsimp only at hw''
      subst hw''
      go_wp2_with fail
      go_roundw
      case rel => exact ⟨i + 1, by omega, by go_num, Lib.hid (hB.trans (hz.mono hB.size))⟩
      case measure => simp [vInt]; omega
    · have hil : ¬ (i : Int) < (l.length : Int) := by omega
      go_wp2_with fail
      go_ret
      exact ⟨rfl, hB⟩

set_option maxRecDepth 100000 in
set_option maxHeartbeats 4000000 in
theorem ints6_any (l : List Int) (A B : Option Addr) (a b : Nat) (w : World) (h1 : IntsAt w w.heap.size A l) (h2 : IntsAt w w.heap.size B l) (hl : l.length ≤ 1000) :
    Calls Tryz.prog 41 #[.slice A l.length a, .slice B l.length b] w fun e w' => e = .returned (.bool true) ∧ Below w.heap.size w w' := by
  have hne : ((l.length : Int) != (l.length : Int)) = false := by simp
  go_enter Tryz.func41, Tryz.ntmps41
  go_wp2_with fail
  go_loopw [5] (fun ii wr => ∃ i : Nat, i ≤ l.length ∧ ii = .int .i64 i ∧ Hid (Below w.heap.size w wr)) (fun ii _ => l.length - (vInt ii).toNat)
  case atStart => exact ⟨0, Nat.zero_le _, rfl, Lib.hid (Below.refl _ _)⟩
  case round =>
    obtain ⟨i, hi, rfl, hR⟩ := hrel
    have hB := hR.out
    by_cases hlt : i < l.length
    · have hil : (i : Int) < (l.length : Int) := by omega
      obtain ⟨b1, off, rfl, hb, c0⟩ := ints_at (h1.later hB) hlt
      obtain ⟨b', off', rfl, hb', c0'⟩ := ints_at (h2.later hB) hlt
      have hq : (l[i] != l[i]) = false := by simp
      have d0 := After.cell (B := wr.heap.size) c0 hb
      have d1 := After.cell (B := wr.heap.size) c0' hb'
      clear hR
      generalize l[i] = y at *
      go_upto_region 6 with fail
      refine wp_region_class_lit (C := fun w' => ∃ z : After wr.heap.size wr, w' = z.val) (by kernel_rfl) (by kernel_rfl) ⟨⟨_, (Below.refl _ _).drew⟩, rfl⟩ ?_
      repeat (go_big_quiet_step (fail))
      refine wpQuiet_nil ?_
      intro wq hw'
      obtain ⟨⟨wz, hz⟩, hw''⟩ := hw'
      dsimp only at hw''
      subst hw''
      go_wp2_with fail
      go_roundw
      case rel => exact ⟨i + 1, by omega, by go_num, Lib.hid (hB.trans (hz.mono hB.size))⟩
      case measure => simp [vInt]; omega
    · have hil : ¬ (i : Int) < (l.length : Int) := by omega
      go_wp2_with fail
      go_ret
      exact ⟨rfl, hB⟩
end Go.Proofs.YtkimojiakabbcaaGreat

namespace Go.Proofs.YtkimojiakabbcaaGreat
open Go.RowKit Go.Maps

set_option maxRecDepth 100000 in
set_option maxHeartbeats 8000000 in
theorem same6_all (traits need : Int) (cl1 cl2 : List CrdD) (tl1 tl2 : List TreD) (C1 T1 C2 T2 : Option Addr) (c1 t1 c2 t2 : Nat) (w : World) (h1 : MdlAt w w.heap.size ⟨traits, cl1, C1, c1, tl1, T1, t1, need⟩) (h2 : MdlAt w w.heap.size ⟨traits, cl2, C2, c2, tl2, T2, t2, need⟩) (hls : MdlLe ⟨traits, cl2, C2, c2, tl2, T2, t2, need⟩) (hc : cl1.map CrdD.v = cl2.map CrdD.v) (ht : tl1.map TreD.v = tl2.map TreD.v) :
    Calls Tryz.prog 23 #[.agg #[.int .i64 traits, .slice C1 cl1.length c1, .slice T1 tl1.length t1, .int .i64 need], .agg #[.int .i64 traits, .slice C2 cl2.length c2, .slice T2 tl2.length t2, .int .i64 need]] w fun e w' => e = .returned (.bool true) ∧ Below w.heap.size w w' := by
  have hcl : cl1.length = cl2.length := by simpa using congrArg List.length hc
  have htl : tl1.length = tl2.length := by simpa using congrArg List.length ht
  have l61 : cl1.length ≤ 6 := by have := hls.cards; simp only at this; omega
  have l62 : tl1.length ≤ 6 := by have := hls.trees; simp only at this; omega
  have e1 : (traits != traits) = false := by simp
  have e2 : (need != need) = false := by simp
  have e3 : ((cl1.length : Int) != (cl2.length : Int)) = false := by rw [hcl]; simp
  have e4 : ((tl1.length : Int) != (tl2.length : Int)) = false := by rw [htl]; simp
  have b1 := (Below.refl w.heap.size w).alloc (Nat.le_refl _) (.cells #[.int .i64 traits, .slice C1 cl1.length c1, .slice T1 tl1.length t1, .int .i64 need] 29)
  have b2 := b1.alloc b1.size (.cells #[.int .i64 traits, .slice C2 cl2.length c2, .slice T2 tl2.length t2, .int .i64 need] 29)
  have k1 := (Blk.new w #[.int .i64 traits, .slice C1 cl1.length c1, .slice T1 tl1.length t1, .int .i64 need] 29).alloc (.cells #[.int .i64 traits, .slice C2 cl2.length c2, .slice T2 tl2.length t2, .int .i64 need] 29)
  have k2 := newAt' (w.alloc (.cells #[.int .i64 traits, .slice C1 cl1.length c1, .slice T1 tl1.length t1, .int .i64 need] 29)) #[.int .i64 traits, .slice C2 cl2.length c2, .slice T2 tl2.length t2, .int .i64 need] 29 (g := w.heap.size + 1) (by simp)
  have k1c := k1.cell
  have k2c := k2.cell
  have Hcl := Lib.hid hcl
  have Htl := Lib.hid htl
  clear hcl htl
  go_enter Tryz.func23, Tryz.ntmps23
  go_wp2_with fail
  generalize hW2 : (w.alloc (.cells #[.int .i64 traits, .slice C1 cl1.length c1, .slice T1 tl1.length t1, .int .i64 need] 29)).alloc (.cells #[.int .i64 traits, .slice C2 cl2.length c2, .slice T2 tl2.length t2, .int .i64 need] 29) = W2 at *
  have H1 := Lib.hid (h1.later b2)
  have H2 := Lib.hid (h2.later b2)
  have b2W := b2
  have g1 := k1.lt
  have g2 := k2.lt
  clear hW2 k1c k2c b1 b2 h1 h2
  have b2s := b2W.size
  go_loopw [5] (fun ii wr => ∃ i : Nat, i ≤ cl1.length ∧ ii = .int .i64 i ∧ Hid (Below W2.heap.size W2 wr)) (fun ii _ => cl1.length - (vInt ii).toNat)
  case atStart => exact ⟨0, Nat.zero_le _, rfl, Lib.hid (Below.refl _ _)⟩
  case round =>
    obtain ⟨i, hi, rfl, hR⟩ := hrel
    have hB := hR.out
    have k1w := k1.below hB g1
    have k2w := k2.below hB g2
    have k1c := k1w.cell
    have k2c := k2w.cell
    by_cases hlt : i < cl1.length
    · have hil : (i : Int) < (cl1.length : Int) := by omega
      have hlt2 : i < cl2.length := by rw [← Hcl.out]; exact hlt
      have hil2 : (i : Int) < (cl2.length : Int) := by omega
      have hi1 := Lib.hid (show i + 1 ≤ cl1.length by omega)
      have q1 := (H1.out.later hB).cards
      have q2 := (H2.out.later hB).cards
      obtain ⟨bA, oA, rfl, hbA, a0, a1, a2⟩ := crds_at q1.row hlt
      obtain ⟨bB, oB, rfl, hbB, d0, d1, d2⟩ := crds_at q2.row hlt2
      have m1 := q1.each _ (List.getElem_mem hlt)
      have m2 := q2.each _ (List.getElem_mem hlt2)
      have hle := hls.scales _ (List.getElem_mem hlt2)
      have hsc := hls.scl _ (List.getElem_mem hlt2)
      have hv : cl1[i].v = cl2[i].v := by
        have := List.getElem_of_eq hc (i := i) (by simpa using hlt)
        rwa [List.getElem_map, List.getElem_map] at this
      clear q1 q2 hR
      generalize cl1[i] = x1 at *
      generalize cl2[i] = x2 at *
      obtain ⟨wt, base, sl1, S1, s1⟩ := x1
      obtain ⟨wt2, base2, sl2, S2, s2⟩ := x2
      dsimp only at *
      obtain ⟨rfl, rfl, hsl⟩ : wt = wt2 ∧ base = base2 ∧ sl1.map SclD.v = sl2.map SclD.v := by simpa [CrdD.v] using hv
      clear hv
      go_upto_region 6 with fail
      go_cut [6, 7] (fun s6 s7 wx => ∃ p q : Nat, s6 = .pointer (some ⟨p, 0, none⟩) ∧ s7 = .pointer (some ⟨q, 0, none⟩) ∧ Hid (Blk wx p #[.int .i64 wt, .int .i64 base, .slice S1 sl1.length s1] 57 ∧ Blk wx q #[.int .i64 wt, .int .i64 base, .slice S2 sl2.length s2] 57 ∧ Below wr.heap.size wr wx))
      case first =>
        have SK : ∀ W, Below wr.heap.size wr W → Below wr.heap.size wr W ∧ (∀ i, W.cell? ⟨w.heap.size, i, none⟩ = (#[.int .i64 traits, .slice (some ⟨bA, oA, none⟩) cl1.length c1, .slice T1 tl1.length t1, .int .i64 need] : Array Value)[i]?) ∧ (∀ i, W.cell? ⟨w.heap.size + 1, i, none⟩ = (#[.int .i64 traits, .slice (some ⟨bB, oB, none⟩) cl2.length c2, .slice T2 tl2.length t2, .int .i64 need] : Array Value)[i]?) ∧ W.cell? ⟨bA, oA + i * 3, none⟩ = some (.int .i64 wt) ∧ W.cell? ⟨bA, oA + i * 3 + 1, none⟩ = some (.int .i64 base) ∧ W.cell? ⟨bA, oA + i * 3 + 2, none⟩ = some (.slice S1 sl1.length s1) ∧ W.cell? ⟨bB, oB + i * 3, none⟩ = some (.int .i64 wt) ∧ W.cell? ⟨bB, oB + i * 3 + 1, none⟩ = some (.int .i64 base) ∧ W.cell? ⟨bB, oB + i * 3 + 2, none⟩ = some (.slice S2 sl2.length s2) := fun W hW => ⟨hW, (k1w.below hW k1w.lt).cell, (k2w.below hW k2w.lt).cell, (hW.cell (p := ⟨bA, oA + i * 3, none⟩) hbA).trans a0, (hW.cell (p := ⟨bA, oA + i * 3 + 1, none⟩) hbA).trans a1, (hW.cell (p := ⟨bA, oA + i * 3 + 2, none⟩) hbA).trans a2, (hW.cell (p := ⟨bB, oB + i * 3, none⟩) hbB).trans d0, (hW.cell (p := ⟨bB, oB + i * 3 + 1, none⟩) hbB).trans d1, (hW.cell (p := ⟨bB, oB + i * 3 + 2, none⟩) hbB).trans d2⟩
        have dd0 : Below wr.heap.size wr wr.drew := (Below.refl _ _).drew
        go_region_held3 (fun W => Below wr.heap.size wr W ∧ (∀ i, W.cell? ⟨w.heap.size, i, none⟩ = (#[.int .i64 traits, .slice (some ⟨bA, oA, none⟩) cl1.length c1, .slice T1 tl1.length t1, .int .i64 need] : Array Value)[i]?) ∧ (∀ i, W.cell? ⟨w.heap.size + 1, i, none⟩ = (#[.int .i64 traits, .slice (some ⟨bB, oB, none⟩) cl2.length c2, .slice T2 tl2.length t2, .int .i64 need] : Array Value)[i]?) ∧ W.cell? ⟨bA, oA + i * 3, none⟩ = some (.int .i64 wt) ∧ W.cell? ⟨bA, oA + i * 3 + 1, none⟩ = some (.int .i64 base) ∧ W.cell? ⟨bA, oA + i * 3 + 2, none⟩ = some (.slice S1 sl1.length s1) ∧ W.cell? ⟨bB, oB + i * 3, none⟩ = some (.int .i64 wt) ∧ W.cell? ⟨bB, oB + i * 3 + 1, none⟩ = some (.int .i64 base) ∧ W.cell? ⟨bB, oB + i * 3 + 2, none⟩ = some (.slice S2 sl2.length s2)) ((refine SK _ ?_; repeat (first | with_reducible assumption | with_reducible exact Below.refl _ _ | with_reducible refine Below.drew ?_ | with_reducible refine Below.alloc ?_ (by first | omega | (simp; done) | (simp; omega)) _ | with_reducible refine Below.setCell ?_ (by first | omega | (simp; done) | (simp; omega)) _)))
          (first
            | (fail "no call"))
        all_goals first | (go_step; go_step; go_meet) | (go_step; go_meet) | go_meet
        all_goals first
          | exact ⟨_, _, rfl, rfl, Lib.hid ⟨((Blk.new wr _ _).alloc _).drew, (newAt' (wr.alloc _) _ _ (by simp)).drew, (((Below.refl _ _).alloc (Nat.le_refl _) _).alloc (by simp) _).drew⟩⟩
          | exact ⟨_, _, rfl, rfl, Lib.hid ⟨(newAt' (wr.alloc _) _ _ (by simp)).drew, ((Blk.new wr _ _).alloc _).drew, (((Below.refl _ _).alloc (Nat.le_refl _) _).alloc (by simp) _).drew⟩⟩
      case rest =>
        obtain ⟨p, q, rfl, rfl, HC⟩ := hcut
        obtain ⟨kp, kq, hBc⟩ := HC.out
        have hB2 := hB.trans (hBc.mono hB.size)
        have hls : sl1.length = sl2.length := by simpa using congrArg List.length hsl
        have l63 : sl1.length ≤ 10 := by omega
        have e5 : (wt != wt) = false := by simp
        have e6 : (base != base) = false := by simp
        have e7 : ((sl1.length : Int) != (sl2.length : Int)) = false := by rw [hls]; simp
        have Hls := Lib.hid hls
        have M1 := Lib.hid (m1.later hBc)
        have M2 := Lib.hid (m2.later hBc)
        have kpc := kp.cell
        have kqc := kq.cell
        have gp := kp.lt
        have gq := kq.lt
        have HB2 := Lib.hid hB2
        clear HC hls k1c k2c k1w k2w m1 m2 a0 a1 a2 d0 d1 d2 hB hBc hB2
        go_wp2_with fail
        clear kpc kqc
        go_loopw [8] (fun ii wr => ∃ k : Nat, k ≤ sl1.length ∧ ii = .int .i64 k ∧ Hid (Below wc.heap.size wc wr)) (fun ii _ => sl1.length - (vInt ii).toNat)
        case atStart => exact ⟨0, Nat.zero_le _, rfl, Lib.hid (Below.refl _ _)⟩
        case round =>
          obtain ⟨k, hk, rfl, hR⟩ := hrel
          have hB := hR.out
          have kp2 := kp.below hB gp
          have kq2 := kq.below hB gq
          have kpc := kp2.cell
          have kqc := kq2.cell
          by_cases hkl : k < sl1.length
          · have hkl2 : k < sl2.length := by rw [← Hls.out]; exact hkl
            have hki : (k : Int) < (sl1.length : Int) := by omega
            have hki2 : (k : Int) < (sl2.length : Int) := by omega
            have q1 := M1.out.later hB
            have q2 := M2.out.later hB
            obtain ⟨bS, oS, rfl, hbS, a0, a1, a2⟩ := scls_at q1.row hkl
            obtain ⟨bU, oU, rfl, hbU, d0, d1, d2⟩ := scls_at q2.row hkl2
            have m1 := q1.each _ (List.getElem_mem hkl)
            have m2 := q2.each _ (List.getElem_mem hkl2)
            have hle2 := hsc _ (List.getElem_mem hkl2)
            have hv : sl1[k].v = sl2[k].v := by
              have := List.getElem_of_eq hsl (i := k) (by simpa using hkl)
              rwa [List.getElem_map, List.getElem_map] at this
            clear q1 q2 hR
            generalize sl1[k] = y1 at *
            generalize sl2[k] = y2 at *
            obtain ⟨v, A1, u1, B1, z1⟩ := y1
            obtain ⟨v2, A2, u2, B2, z2⟩ := y2
            dsimp only at *
            subst hv
            have e8 : (v.non != v.non) = false := by simp
            have G1 := Lib.hid (fun q : After wr.heap.size wr => ints6_any v.cuts A1 A2 u1 u2 q.val (m1.cuts.later q.property) (m2.cuts.later q.property) (by have := hle2.cuts; omega))
            have G2 := Lib.hid (fun q : After wr.heap.size wr => ints6_any v.pts B1 B2 z1 z2 q.val (m1.pts.later q.property) (m2.pts.later q.property) (by have := hle2.pts; omega))
            have kpa := After.cells (B := wr.heap.size) kp2.cell kp2.lt
            have kqa := After.cells (B := wr.heap.size) kq2.cell kq2.lt
            have f0 := After.cell (B := wr.heap.size) a0 hbS
            have f1 := After.cell (B := wr.heap.size) a1 hbS
            have f2 := After.cell (B := wr.heap.size) a2 hbS
            have g0 := After.cell (B := wr.heap.size) d0 hbU
            have g1' := After.cell (B := wr.heap.size) d1 hbU
            have g2' := After.cell (B := wr.heap.size) d2 hbU
            clear a0 a1 a2 d0 d1 d2 m1 m2 hle2
            go_upto_region 12 with fail
            refine wp_region_class_lit (C := fun w' => ∃ z : After wr.heap.size wr, w' = z.val) (by kernel_rfl) (by kernel_rfl) ⟨⟨_, (Below.refl _ _).drew⟩, rfl⟩ ?_
            repeat (go_big_quiet_step ((first
              | (go_at_call 41; with_reducible exact after_of (Nat.le_refl _) _ (G1.out _))
              | (go_at_call 41; with_reducible exact after_of (Nat.le_refl _) _ (G2.out _)))))
            refine wpQuiet_nil ?_
            intro wq hw'
            obtain ⟨⟨wz, hz⟩, hw''⟩ := hw'
            dsimp only at hw''
            subst hw''
            go_wp2_with fail
            go_roundw
            case rel => exact ⟨k + 1, by omega, by go_num, Lib.hid (hB.trans (hz.mono hB.size))⟩
            case measure => simp [vInt]; omega
          · have hki : ¬ (k : Int) < (sl1.length : Int) := by omega
            obtain rfl : k = sl1.length := by omega
            go_wp2_with fail
            go_roundw
            case rel => exact ⟨i + 1, hi1.out, by go_num, Lib.hid (HB2.out.trans (hB.mono HB2.out.size))⟩
            case measure => have h9 := hi1.out; simp [vInt]; omega
    · have hil : ¬ (i : Int) < (cl1.length : Int) := by omega
      obtain rfl : i = cl1.length := by omega
      have HB1 := Lib.hid hB
      clear hR
      go_wp2_with fail
      clear k1c k2c
      generalize wr = W7 at *
      go_loopw [9] (fun ii wr => ∃ i : Nat, i ≤ tl1.length ∧ ii = .int .i64 i ∧ Hid (Below W2.heap.size W2 wr)) (fun ii _ => tl1.length - (vInt ii).toNat)
      case atStart => exact ⟨0, Nat.zero_le _, rfl, HB1⟩
      clear HB1
      case round =>
        obtain ⟨i, hi, rfl, hR⟩ := hrel
        have hB := hR.out
        have k1w := k1.below hB g1
        have k2w := k2.below hB g2
        have k1c := k1w.cell
        have k2c := k2w.cell
        by_cases hlt : i < tl1.length
        · have hil : (i : Int) < (tl1.length : Int) := by omega
          have hlt2 : i < tl2.length := by rw [← Htl.out]; exact hlt
          have hil2 : (i : Int) < (tl2.length : Int) := by omega
          have hi1 := Lib.hid (show i + 1 ≤ tl1.length by omega)
          have q1 := (H1.out.later hB).trees
          have q2 := (H2.out.later hB).trees
          obtain ⟨bA, oA, rfl, hbA, a0, a1⟩ := tres_at q1.row hlt
          obtain ⟨bB, oB, rfl, hbB, d0, d1⟩ := tres_at q2.row hlt2
          have m1 := q1.each _ (List.getElem_mem hlt)
          have m2 := q2.each _ (List.getElem_mem hlt2)
          have hle := hls.nodes _ (List.getElem_mem hlt2)
          have hv : tl1[i].v = tl2[i].v := by
            have := List.getElem_of_eq ht (i := i) (by simpa using hlt)
            rwa [List.getElem_map, List.getElem_map] at this
          clear q1 q2 hR
          generalize tl1[i] = x1 at *
          generalize tl2[i] = x2 at *
          obtain ⟨v, A1, u1⟩ := x1
          obtain ⟨v2, A2, u2⟩ := x2
          dsimp only at *
          subst hv
          have l63 : v.nodes.length ≤ 20 := hle
          have e5 : (v.weight != v.weight) = false := by simp
          have e6 : ((v.nodes.length : Int) != (v.nodes.length : Int)) = false := by simp
          have k1a := After.cells (B := wr.heap.size) k1w.cell k1w.lt
          have k2a := After.cells (B := wr.heap.size) k2w.cell k2w.lt
          have f0 := After.cell (B := wr.heap.size) a0 hbA
          have f1 := After.cell (B := wr.heap.size) a1 hbA
          have g0 := After.cell (B := wr.heap.size) d0 hbB
          have g1' := After.cell (B := wr.heap.size) d1 hbB
          go_upto_region 17 with fail
          refine wp_region_class_lit (C := fun w' => ∃ z : After wr.heap.size wr, w' = z.val) (by kernel_rfl) (by kernel_rfl) ⟨⟨_, (Below.refl _ _).drew⟩, rfl⟩ ?_
          repeat (go_big_quiet_step (fail))
          refine wpQuiet_nil ?_
          intro wq hw'
          obtain ⟨⟨wz, hz⟩, hw''⟩ := hw'
          dsimp only at hw''
          subst hw''
          have M1 := Lib.hid (m1.later hz)
          have M2 := Lib.hid (m2.later hz)
          have kp := k1w.below hz k1w.lt
          have kq := k2w.below hz k2w.lt
          have kpc := kp.cell
          have kqc := kq.cell
          have c0 := (hz.cell (p := ⟨bA, oA + i * 2 + 1, none⟩) hbA).trans a1
          have c1 := (hz.cell (p := ⟨bB, oB + i * 2 + 1, none⟩) hbB).trans d1
          have gp := kp.lt
          have gq := kq.lt
          have hbA2 := Nat.lt_of_lt_of_le hbA hz.size
          have hbB2 := Nat.lt_of_lt_of_le hbB hz.size
          have HB2 := Lib.hid (hB.trans (hz.mono hB.size))
          clear k1c k2c k1w k2w m1 m2 a0 a1 d0 d1 hB f0 f1 g0 g1' k1a k2a hbA hbB
          go_wp2_with fail
          clear kpc kqc
          generalize wq = wc at *
          go_loopw [10] (fun ii wr => ∃ k : Nat, k ≤ v.nodes.length ∧ ii = .int .i64 k ∧ Hid (Below wc.heap.size wc wr)) (fun ii _ => v.nodes.length - (vInt ii).toNat)
          case atStart => exact ⟨0, Nat.zero_le _, rfl, Lib.hid (Below.refl _ _)⟩
          case round =>
            obtain ⟨k, hk, rfl, hR⟩ := hrel
            have hB := hR.out
            have kp2 := kp.below hB gp
            have kq2 := kq.below hB gq
            have kpc := kp2.cell
            have kqc := kq2.cell
            have y0 := (hB.cell (p := ⟨bA, oA + i * 2 + 1, none⟩) hbA2).trans c0
            have y1 := (hB.cell (p := ⟨bB, oB + i * 2 + 1, none⟩) hbB2).trans c1
            have hbA3 := Nat.lt_of_lt_of_le hbA2 hB.size
            have hbB3 := Nat.lt_of_lt_of_le hbB2 hB.size
            by_cases hkl : k < v.nodes.length
            · have hki : (k : Int) < (v.nodes.length : Int) := by omega
              obtain ⟨bS, oS, rfl, hbS, a0, a1, a2, a3, a4⟩ := nods_at (M1.out.later hB) hkl
              obtain ⟨bU, oU, rfl, hbU, d0, d1, d2, d3, d4⟩ := nods_at (M2.out.later hB) hkl
              have kpa := After.cells (B := wr.heap.size) kp2.cell kp2.lt
              have kqa := After.cells (B := wr.heap.size) kq2.cell kq2.lt
              have ya0 := After.cell (B := wr.heap.size) y0 hbA3
              have ya1 := After.cell (B := wr.heap.size) y1 hbB3
              have f0 := After.cell (B := wr.heap.size) a0 hbS
              have f1 := After.cell (B := wr.heap.size) a1 hbS
              have f2 := After.cell (B := wr.heap.size) a2 hbS
              have f3 := After.cell (B := wr.heap.size) a3 hbS
              have f4 := After.cell (B := wr.heap.size) a4 hbS
              have g0 := After.cell (B := wr.heap.size) d0 hbU
              have g1' := After.cell (B := wr.heap.size) d1 hbU
              have g2' := After.cell (B := wr.heap.size) d2 hbU
              have g3 := After.cell (B := wr.heap.size) d3 hbU
              have g4 := After.cell (B := wr.heap.size) d4 hbU
              clear a0 a1 a2 a3 a4 d0 d1 d2 d3 d4 hR
              generalize v.nodes[k] = nd at *
              go_upto_region 22 with fail
              refine wp_region_class_lit (C := fun w' => ∃ z : After wr.heap.size wr, w' = z.val) (by kernel_rfl) (by kernel_rfl) ⟨⟨_, (Below.refl _ _).drew⟩, rfl⟩ ?_
              repeat (go_big_quiet_step (fail))
              refine wpQuiet_nil ?_
              intro wq hw'
              obtain ⟨⟨wz, hz⟩, hw''⟩ := hw'
              dsimp only at hw''
              subst hw''
              go_wp2_with fail
              go_roundw
              case rel => exact ⟨k + 1, by omega, by go_num, Lib.hid (hB.trans (hz.mono hB.size))⟩
              case measure => simp [vInt]; omega
            · have hki : ¬ (k : Int) < (v.nodes.length : Int) := by omega
              obtain rfl : k = v.nodes.length := by omega
              go_wp2_with fail
              go_roundw
              case rel => exact ⟨i + 1, hi1.out, by go_num, Lib.hid (HB2.out.trans (hB.mono HB2.out.size))⟩
              case measure => have h9 := hi1.out; simp [vInt]; omega
        · have hil : ¬ (i : Int) < (tl1.length : Int) := by omega
          obtain rfl : i = tl1.length := by omega
          go_wp2_with fail
          go_ret
          exact ⟨rfl, b2W.trans (hB.mono b2s)⟩
end Go.Proofs.YtkimojiakabbcaaGreat
