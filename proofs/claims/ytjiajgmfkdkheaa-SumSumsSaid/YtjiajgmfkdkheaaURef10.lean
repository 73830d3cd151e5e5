/- Same tables, by the reference. Written by r10.py. -/
import Derived.Test.YtjiajgmfkdkheaaURef4

namespace Go.Proofs.Ytjiajgmfkdkheaa
open Go.RowKit Go.Maps

set_option maxRecDepth 100000 in
set_option maxHeartbeats 8000000 in
theorem sameTable_any (l1 l2 : List SubD) (A B : Option Addr) (a b : Nat) (w : World) (h1 : SubsAt w w.heap.size A l1) (h2 : SubsAt w w.heap.size B l2) (hs : l1.map SubD.v = l2.map SubD.v) (hl : l1.length ≤ 1000) (hv : ∀ x ∈ l1, x.v.vals.length ≤ 1000) :
    Calls Try.prog 14 #[.slice A l1.length a, .slice B l2.length b] w fun e w' => e = .returned (.bool true) ∧ Below w.heap.size w w' := by
  have hll : l1.length = l2.length := by simpa using congrArg List.length hs
  have e1 : ((l1.length : Int) != (l2.length : Int)) = false := by rw [hll]; simp
  have H1 := Lib.hid h1
  have H2 := Lib.hid h2
  have HL := Lib.hid hll
  have HV := Lib.hid hv
  have HS := Lib.hid hs
  clear h1 h2 hll hs hv
  go_enter Try.func14, Try.ntmps14
  go_wp2_with fail
  go_loopw [5] (fun ii wr => ∃ i : Nat, i ≤ l1.length ∧ ii = .int .i64 i ∧ Hid (Below w.heap.size w wr)) (fun ii _ => l1.length - (vInt ii).toNat)
  case atStart => exact ⟨0, Nat.zero_le _, rfl, Lib.hid (Below.refl _ _)⟩
  case round =>
    obtain ⟨i, hi, rfl, hR⟩ := hrel
    have hB := hR.out
    by_cases hlt : i < l1.length
    · have hil : (i : Int) < (l1.length : Int) := by omega
      have hlt2 : i < l2.length := by rw [← HL.out]; exact hlt
      have hil2 : (i : Int) < (l2.length : Int) := by omega
      obtain ⟨bA, oA, rfl, hbA, a0, a1, m1⟩ := subs_at (H1.out.later hB) hlt
      obtain ⟨bB, oB, rfl, hbB, d0, d1, m2⟩ := subs_at (H2.out.later hB) hlt2
      have hxv := HV.out _ (List.getElem_mem hlt)
      have hev : l1[i].v = l2[i].v := by
        have := List.getElem_of_eq HS.out (i := i) (by simpa using hlt)
        rwa [List.getElem_map, List.getElem_map] at this
      clear hR
      generalize l1[i] = x1 at *
      generalize l2[i] = x2 at *
      obtain ⟨v, V1, v1⟩ := x1
      obtain ⟨v2, V2, v2c⟩ := x2
      dsimp only at *
      subst hev
      obtain ⟨id, vals⟩ := v
      dsimp only at *
      have e3 : (id != id) = false := by simp
      have e4 : ((vals.length : Int) != (vals.length : Int)) = false := by simp
      have f0 := After.cell (B := wr.heap.size) a0 hbA
      have f1 := After.cell (B := wr.heap.size) a1 hbA
      have g0 := After.cell (B := wr.heap.size) d0 hbB
      have g1 := After.cell (B := wr.heap.size) d1 hbB
      go_upto_region 6 with fail
      refine wp_region_class_lit (C := fun w' => ∃ z : After wr.heap.size wr, w' = z.val) (by kernel_rfl) (by kernel_rfl) ⟨⟨_, (Below.refl _ _).drew⟩, rfl⟩ ?_
      repeat (go_big_quiet_step (fail))
      refine wpQuiet_nil ?_
      intro wz0 hw'
      obtain ⟨⟨wz, hz⟩, hw''⟩ := hw'
      dsimp only at hw''
      subst hw''
      have a1' := (hz.cell (p := ⟨bA, oA + i * 2 + 1, none⟩) hbA).trans a1
      have d1' := (hz.cell (p := ⟨bB, oB + i * 2 + 1, none⟩) hbB).trans d1
      have hbA' := Nat.lt_of_lt_of_le hbA hz.size
      have hbB' := Nat.lt_of_lt_of_le hbB hz.size
      have M1 := Lib.hid (m1.later hz)
      have M2 := Lib.hid (m2.later hz)
      have HB1 := Lib.hid (hB.trans (hz.mono hB.size))
      clear f0 f1 g0 g1 a0 a1 d0 d1 m1 m2 hB hz hbA hbB
      go_wp2_with fail
      go_loopw [6] (fun kk wq => ∃ k : Nat, k ≤ vals.length ∧ kk = .int .i64 k ∧ Hid (Below wz0.heap.size wz0 wq)) (fun kk _ => vals.length - (vInt kk).toNat)
      case atStart => exact ⟨0, Nat.zero_le _, rfl, Lib.hid (Below.refl _ _)⟩
      case round =>
        obtain ⟨k, hk, rfl, hR⟩ := hrel
        have hB := hR.out
        have a1 := (hB.cell (p := ⟨bA, oA + i * 2 + 1, none⟩) hbA').trans a1'
        have d1 := (hB.cell (p := ⟨bB, oB + i * 2 + 1, none⟩) hbB').trans d1'
        by_cases hkt : k < vals.length
        · have hkl : (k : Int) < (vals.length : Int) := by omega
          obtain ⟨b1, o1, rfl, hb1, c0⟩ := ints_at (M1.out.later hB) hkt
          obtain ⟨b2, o2, rfl, hb2, c1⟩ := ints_at (M2.out.later hB) hkt
          generalize vals[k] = y at *
          have e5 : (y != y) = false := by simp
          have f1 := After.cell (B := wr.heap.size) a1 (Nat.lt_of_lt_of_le hbA' hB.size)
          have g1 := After.cell (B := wr.heap.size) d1 (Nat.lt_of_lt_of_le hbB' hB.size)
          have f2 := After.cell (B := wr.heap.size) c0 hb1
          have g2 := After.cell (B := wr.heap.size) c1 hb2
          clear hR
          go_upto_region 11 with fail
          refine wp_region_class_lit (C := fun w' => ∃ z : After wr.heap.size wr, w' = z.val) (by kernel_rfl) (by kernel_rfl) ⟨⟨_, (Below.refl _ _).drew⟩, rfl⟩ ?_
          repeat (go_big_quiet_step (fail))
          refine wpQuiet_nil ?_
          intro wz0 hw'
          obtain ⟨⟨wz, hz⟩, hw''⟩ := hw'
          dsimp only at hw''
          subst hw''
          clear f1 g1 f2 g2
          go_wp2_with fail
          go_roundw
          case rel => exact ⟨k + 1, by omega, by go_num, Lib.hid (hB.trans (hz.mono hB.size))⟩
          case measure => simp [vInt]; omega
        · have hkl : ¬ (k : Int) < (vals.length : Int) := by omega
          clear hR
          go_wp2_with fail
          go_roundw
          case rel => exact ⟨i + 1, by omega, by go_num, Lib.hid (HB1.out.trans (hB.mono HB1.out.size))⟩
          case measure => simp [vInt]; omega
    · have hil : ¬ (i : Int) < (l1.length : Int) := by omega
      clear hR
      go_wp2_with fail
      go_ret
      exact ⟨rfl, hB⟩
end Go.Proofs.Ytjiajgmfkdkheaa
