/- Whether two lists of reports are the same. -/
import Derived.Test.YtliijiflbfgfaaaDoorAChkR

namespace Go.Proofs.YtliijiflbfgfaaaDoor
open Go.RowKit Go.Maps

set_option maxRecDepth 100000 in
set_option maxHeartbeats 1000000 in
theorem sameReports_any (l : List Rep) (A A2 : Option Addr) (c c2 : Nat) (w : World) (h : Reps w w.heap.size A l) (h2 : Reps w w.heap.size A2 l) (hl : l.length ≤ 1000) :
    Calls Tryd.prog 10 #[.slice A l.length c, .slice A2 l.length c2] w fun e w' => e = .returned (.bool true) ∧ Below w.heap.size w w' := by
  have hne : ((l.length : Int) != (l.length : Int)) = false := by simp
  go_enter Tryd.func10, Tryd.ntmps10
  go_wp2_with fail
  go_loopw [5] (fun ii wr => ∃ i : Nat, i ≤ l.length ∧ ii = .int .i64 i ∧ Hid (Below w.heap.size w wr)) (fun ii _ => l.length - (vInt ii).toNat)
  case atStart => exact ⟨0, Nat.zero_le _, rfl, Lib.hid (Below.refl _ _)⟩
  case round =>
    obtain ⟨i, hi, rfl, hR⟩ := hrel
    by_cases hlt : i < l.length
    · have hil : (i : Int) < (l.length : Int) := by omega
      have hB := hR.out
      obtain ⟨b, off, rfl, hb, C⟩ := (h.later hB).eight hlt
      obtain ⟨b2, off2, rfl, hb2, C2⟩ := (h2.later hB).eight hlt
      generalize l[i] = r at *
      obtain ⟨c0, c1, c2', c3, c4, c5, c6, c7⟩ := C
      obtain ⟨d0, d1, d2, d3, d4, d5, d6, d7⟩ := C2
      have hne2 : ∀ W, (binOp .neq 47 (.agg #[.int .i64 r.id, .int .i64 r.src, .int .i64 r.acc, .int .i64 r.made, .int .i64 r.about, .int .u8 r.kind, .int .i64 r.cents, .int .i64 r.of_]) (.agg #[.int .i64 r.id, .int .i64 r.src, .int .i64 r.acc, .int .i64 r.made, .int .i64 r.about, .int .u8 r.kind, .int .i64 r.cents, .int .i64 r.of_])).run Tryd.prog W = .ok (.bool false) W := fun W => by rw [rep_neq, sameRep_iff.2 rfl]; rfl
      clear hR
      go_upto_region 6 with fail
      go_region
      all_goals (go_wp2_with fail)
      go_roundw
      case rel => exact ⟨i + 1, by omega, by go_num, Lib.hid (hB.drew)⟩
      case measure => simp [vInt]; omega
    · have hil : ¬ (i : Int) < (l.length : Int) := by omega
      have hfin := hR.out
      clear hR
      go_wp2_with fail
      go_ret
      exact ⟨rfl, hfin⟩

end Go.Proofs.YtliijiflbfgfaaaDoor
