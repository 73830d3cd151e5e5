/- Same questions, by the reference. Written by r10.py. -/
import Derived.Test.YtjiajgmfkdkheaaURef6
import Derived.Deep.RegionLawGrows
import Derived.Laws.StructEq

namespace Go.Proofs.Ytjiajgmfkdkheaa
open Go.RowKit Go.Maps

set_option maxRecDepth 100000 in
set_option maxHeartbeats 8000000 in
theorem sameQues_any (l1 l2 : List QueD) (A B : Option Addr) (a b : Nat) (w : World) (h1 : QuesAt w w.heap.size A l1) (h2 : QuesAt w w.heap.size B l2) (hs : l1.map QueD.v = l2.map QueD.v) (hl : l1.length ≤ 1000) (hv : ∀ x ∈ l1, x.v.wheres.length ≤ 1000) :
    Calls Try.prog 15 #[.slice A l1.length a, .slice B l2.length b] w fun e w' => e = .returned (.bool true) ∧ Below w.heap.size w w' := by
  have hll : l1.length = l2.length := by simpa using congrArg List.length hs
  have e1 : ((l1.length : Int) != (l2.length : Int)) = false := by rw [hll]; simp
  have H1 := Lib.hid h1
  have H2 := Lib.hid h2
  have HL := Lib.hid hll
  have HV := Lib.hid hv
  have HS := Lib.hid hs
  clear h1 h2 hll hs hv
  go_enter Try.func15, Try.ntmps15
  go_wp2_with fail
  go_loopw [5] (fun ii wr => ∃ i : Nat, i ≤ l1.length ∧ ii = .int .i64 i ∧ Hid (Below w.heap.size w wr)) (fun ii _ => l1.length - (vInt ii).toNat)
  case atStart => exact ⟨0, Nat.zero_le _, rfl, Lib.hid (Below.refl _ _)⟩
  case round =>
    obtain ⟨i, hi, rfl, hR⟩ := hrel
    have hB := hR.out
    by_cases hlt : i < l1.length
    · have hil : (i : Int) < (l1.length : Int) := by omega
      have hlt2 : i < l2.length := by rw [← HL.out]; exact hlt
      have hil2 : (i : Int) < (l2.length : Int) := by omega
      have hi1 := Lib.hid (show i + 1 ≤ l1.length by omega)
      obtain ⟨bA, oA, rfl, hbA, a0, a1, a2, a3, m1⟩ := ques_at (H1.out.later hB) hlt
      obtain ⟨bB, oB, rfl, hbB, d0, d1, d2, d3, m2⟩ := ques_at (H2.out.later hB) hlt2
      have hxv := HV.out _ (List.getElem_mem hlt)
      have hev : l1[i].v = l2[i].v := by
        have := List.getElem_of_eq HS.out (i := i) (by simpa using hlt)
        rwa [List.getElem_map, List.getElem_map] at this
      clear hR
      generalize l1[i] = x1 at *
      generalize l2[i] = x2 at *
      obtain ⟨v, W1, w1c⟩ := x1
      obtain ⟨v2, W2, w2c⟩ := x2
      dsimp only at *
      subst hev
      obtain ⟨wh, col, clip, step⟩ := v
      dsimp only at *
      go_upto_region 6 with fail
      go_cut [6, 7] (fun s6 s7 wx => ∃ p q : Nat, s6 = .pointer (some ⟨p, 0, none⟩) ∧ s7 = .pointer (some ⟨q, 0, none⟩) ∧ Hid (Blk wx p #[.slice W1 wh.length w1c, .int .i64 col, .int .i64 clip, .int .i64 step] 25 ∧ Blk wx q #[.slice W2 wh.length w2c, .int .i64 col, .int .i64 clip, .int .i64 step] 25 ∧ Below wr.heap.size wr wx))
      case first =>
        have SK : ∀ W, Below wr.heap.size wr W → Below wr.heap.size wr W ∧ W.cell? ⟨bA, oA + i * 4, none⟩ = some (.slice W1 wh.length w1c) ∧ W.cell? ⟨bA, oA + i * 4 + 1, none⟩ = some (.int .i64 col) ∧ W.cell? ⟨bA, oA + i * 4 + 2, none⟩ = some (.int .i64 clip) ∧ W.cell? ⟨bA, oA + i * 4 + 3, none⟩ = some (.int .i64 step) ∧ W.cell? ⟨bB, oB + i * 4, none⟩ = some (.slice W2 wh.length w2c) ∧ W.cell? ⟨bB, oB + i * 4 + 1, none⟩ = some (.int .i64 col) ∧ W.cell? ⟨bB, oB + i * 4 + 2, none⟩ = some (.int .i64 clip) ∧ W.cell? ⟨bB, oB + i * 4 + 3, none⟩ = some (.int .i64 step) := fun W hW => ⟨hW, (hW.cell (p := ⟨bA, oA + i * 4, none⟩) hbA).trans a0, (hW.cell (p := ⟨bA, oA + i * 4 + 1, none⟩) hbA).trans a1, (hW.cell (p := ⟨bA, oA + i * 4 + 2, none⟩) hbA).trans a2, (hW.cell (p := ⟨bA, oA + i * 4 + 3, none⟩) hbA).trans a3, (hW.cell (p := ⟨bB, oB + i * 4, none⟩) hbB).trans d0, (hW.cell (p := ⟨bB, oB + i * 4 + 1, none⟩) hbB).trans d1, (hW.cell (p := ⟨bB, oB + i * 4 + 2, none⟩) hbB).trans d2, (hW.cell (p := ⟨bB, oB + i * 4 + 3, none⟩) hbB).trans d3⟩
        have dd0 : Below wr.heap.size wr wr.drew := (Below.refl _ _).drew
        go_region_held3 (fun W => Below wr.heap.size wr W ∧ W.cell? ⟨bA, oA + i * 4, none⟩ = some (.slice W1 wh.length w1c) ∧ W.cell? ⟨bA, oA + i * 4 + 1, none⟩ = some (.int .i64 col) ∧ W.cell? ⟨bA, oA + i * 4 + 2, none⟩ = some (.int .i64 clip) ∧ W.cell? ⟨bA, oA + i * 4 + 3, none⟩ = some (.int .i64 step) ∧ W.cell? ⟨bB, oB + i * 4, none⟩ = some (.slice W2 wh.length w2c) ∧ W.cell? ⟨bB, oB + i * 4 + 1, none⟩ = some (.int .i64 col) ∧ W.cell? ⟨bB, oB + i * 4 + 2, none⟩ = some (.int .i64 clip) ∧ W.cell? ⟨bB, oB + i * 4 + 3, none⟩ = some (.int .i64 step)) ((refine SK _ ?_; repeat (first | with_reducible assumption | with_reducible exact Below.refl _ _ | with_reducible refine Below.drew ?_ | with_reducible refine Below.alloc ?_ (by first | omega | (simp; done) | (simp; omega)) _ | with_reducible refine Below.setCell ?_ (by first | omega | (simp; done) | (simp; omega)) _)))
          (first
            | (fail "no call"))
        all_goals first | (go_step; go_step; go_meet) | (go_step; go_meet) | go_meet
        all_goals first
          | exact ⟨_, _, rfl, rfl, Lib.hid ⟨((Blk.new wr _ _).alloc _).drew, (newAt' (wr.alloc _) _ _ (by simp)).drew, (((Below.refl _ _).alloc (Nat.le_refl _) _).alloc (by simp) _).drew⟩⟩
          | exact ⟨_, _, rfl, rfl, Lib.hid ⟨(newAt' (wr.alloc _) _ _ (by simp)).drew, ((Blk.new wr _ _).alloc _).drew, (((Below.refl _ _).alloc (Nat.le_refl _) _).alloc (by simp) _).drew⟩⟩
      case rest =>
        obtain ⟨p, q, rfl, rfl, HC⟩ := hcut
        obtain ⟨kp, kq, hBc⟩ := HC.out
        have hB2 := hB.trans (hBc.mono hB.size)
        have e5 : (col != col) = false := by simp
        have e6 : (clip != clip) = false := by simp
        have e7 : (step != step) = false := by simp
        have e8 : ((wh.length : Int) != (wh.length : Int)) = false := by simp
        have M1 := Lib.hid (m1.later hBc)
        have M2 := Lib.hid (m2.later hBc)
        have kpc := kp.cell
        have kqc := kq.cell
        have gp := kp.lt
        have gq := kq.lt
        have HB2 := Lib.hid hB2
        clear HC m1 m2 a0 a1 a2 a3 d0 d1 d2 d3 hB hBc hB2
        go_wp2_with fail
        clear kpc kqc
        go_loopw [8] (fun ii wr => ∃ k : Nat, k ≤ wh.length ∧ ii = .int .i64 k ∧ Hid (Below wc.heap.size wc wr)) (fun ii _ => wh.length - (vInt ii).toNat)
        case atStart => exact ⟨0, Nat.zero_le _, rfl, Lib.hid (Below.refl _ _)⟩
        case round =>
          obtain ⟨k, hk, rfl, hR⟩ := hrel
          have hB := hR.out
          have kp2 := kp.below hB gp
          have kq2 := kq.below hB gq
          have kpc := kp2.cell
          have kqc := kq2.cell
          by_cases hkl : k < wh.length
          · have hki : (k : Int) < (wh.length : Int) := by omega
            obtain ⟨bS, oS, rfl, hbS, a0, a1, a2⟩ := whes_at (M1.out.later hB) hkl
            obtain ⟨bU, oU, rfl, hbU, d0, d1, d2⟩ := whes_at (M2.out.later hB) hkl
            clear hR
            generalize wh[k] = y at *
            obtain ⟨yc, yl, yh⟩ := y
            dsimp only at *
            have kpa := After.cells (B := wr.heap.size) kp2.cell kp2.lt
            have kqa := After.cells (B := wr.heap.size) kq2.cell kq2.lt
            have f0 := After.cell (B := wr.heap.size) a0 hbS
            have f1 := After.cell (B := wr.heap.size) a1 hbS
            have f2 := After.cell (B := wr.heap.size) a2 hbS
            have g0 := After.cell (B := wr.heap.size) d0 hbU
            have g1' := After.cell (B := wr.heap.size) d1 hbU
            have g2' := After.cell (B := wr.heap.size) d2 hbU
            have y1 : (yc == yc) = true := by simp
            have y2 : (yl == yl) = true := by simp
            have y3 : (yh == yh) = true := by simp
            clear a0 a1 a2 d0 d1 d2
            go_upto_region 12 with fail
            clear kpc kqc
            refine wp_region_class_lit (C := fun w' => ∃ z : After wr.heap.size wr, w' = z.val) (by kernel_rfl) (by kernel_rfl) ⟨⟨_, (Below.refl _ _).drew⟩, rfl⟩ ?_
            repeat (go_big_quiet_step (fail))
            refine wpQuiet_nil ?_
            intro wz0 hw'
            obtain ⟨⟨wz, hz⟩, hw''⟩ := hw'
            dsimp only at hw''
            subst hw''
            clear kpa kqa f0 f1 f2 g0 g1' g2'
            go_wp2_with fail
            go_roundw
            case rel => exact ⟨k + 1, by omega, by go_num, Lib.hid (hB.trans (hz.mono hB.size))⟩
            case measure => simp [vInt]; omega
          · have hki : ¬ (k : Int) < (wh.length : Int) := by omega
            clear hR
            go_wp2_with fail
            go_roundw
            case rel => exact ⟨i + 1, hi1.out, by go_num, Lib.hid (HB2.out.trans (hB.mono HB2.out.size))⟩
            case measure => simp [vInt]; omega
    · have hil : ¬ (i : Int) < (l1.length : Int) := by omega
      clear hR
      go_wp2_with fail
      go_ret
      exact ⟨rfl, hB⟩
end Go.Proofs.Ytjiajgmfkdkheaa
