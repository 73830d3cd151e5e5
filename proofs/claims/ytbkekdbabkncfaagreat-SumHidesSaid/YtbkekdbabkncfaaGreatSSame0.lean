/- Equal lists of numbers. Written by a program. -/
import Derived.Test.YtbkekdbabkncfaaGreatD1

namespace Go.Proofs.YtbkekdbabkncfaaGreat
open Go.RowKit Go.Maps

set_option maxRecDepth 100000 in
set_option maxHeartbeats 4000000 in
theorem sameInts_any (l : List Int) (A B : Option Addr) (a b : Nat) (w : World) (h1 : IntsAt w w.heap.size A l) (h2 : IntsAt w w.heap.size B l) (hl : l.length ≤ 1000) :
    Calls Tryz.prog 18 #[.slice A l.length a, .slice B l.length b] w fun e w' => e = .returned (.bool true) ∧ Below w.heap.size w w' := by
  have hne : ((l.length : Int) != (l.length : Int)) = false := by simp
  go_enter Tryz.func18, Tryz.ntmps18
  go_wp2_with fail
  go_loopw [5] (fun ii wr => ∃ i : Nat, i ≤ l.length ∧ ii = .int .i64 i ∧ Hid (Below w.heap.size w wr)) (fun ii _ => l.length - (vInt ii).toNat)
  case atStart => exact ⟨0, Nat.zero_le _, rfl, Lib.hid (Below.refl _ _)⟩
  case round =>
    obtain ⟨i, hi, rfl, hR⟩ := hrel
    have hB := hR.out
    by_cases hlt : i < l.length
    · have hil : (i : Int) < (l.length : Int) := by omega
      obtain ⟨b1, off, rfl, hb, c0⟩ := ints_at (h1.later hB) hlt
      obtain ⟨b', off', rfl, hb', c0'⟩ := ints_at (h2.later hB) hlt
      have hq : (l[i] != l[i]) = false := by simp
      have d0 := After.cell (B := wr.heap.size) c0 hb
      have d1 := After.cell (B := wr.heap.size) c0' hb'
      clear hR
      generalize l[i] = y at *
      go_upto_region 6 with fail
      refine wp_region_class_lit (C := fun w' => ∃ z : After wr.heap.size wr, w' = z.val) (by kernel_rfl) (by kernel_rfl) ⟨⟨_, (Below.refl _ _).drew⟩, rfl⟩ ?_
      repeat (go_big_quiet_step (fail))
      refine wpQuiet_nil ?_
      intro wq hw'
      obtain ⟨⟨wz, hz⟩, hw''⟩ := hw'
      dsimp only at hw''
      subst hw''
      go_wp2_with fail
      go_roundw
      case rel => exact ⟨i + 1, by omega, by go_num, Lib.hid (hB.trans (hz.mono hB.size))⟩
      case measure => simp [vInt]; omega
    · have hil : ¬ (i : Int) < (l.length : Int) := by omega
      go_wp2_with fail
      go_ret
      exact ⟨rfl, hB⟩

end Go.Proofs.YtbkekdbabkncfaaGreat
