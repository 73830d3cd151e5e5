/- What is known on a day, by the reference: the walk. -/
import Derived.Test.YtliijiflbfgfaaaDoorAKn

namespace Go.Proofs.YtliijiflbfgfaaaDoor
open Go.RowKit Go.Maps

set_option maxRecDepth 100000 in
set_option maxHeartbeats 4000000 in
theorem known3_any (l : List Rep) (A : Option Addr) (c : Nat) (d : Int) (w : World) (h : Reps w w.heap.size A l) (hl : l.length ≤ 1000) :
    Calls Tryd.prog 16 #[.slice A l.length c, .int .i64 d] w fun e w' => ∃ v, e = .returned v ∧ w'.ownsRow w.heap.size 47 8 v (knownL l d).length ((knownL l d).flatMap repCells) ∧ Below w.heap.size w w' := by
  obtain ⟨i0, hi0, hz0, hz1, hz2⟩ := info_parts repInfo
  have HA := Lib.hid (fun (K : List Rep) A2 c2 id W hK hh => at3_any K A2 c2 id W hh hK)
  go_enter Tryd.func16, Tryd.ntmps16
  go_wp2_with fail
  go_loopw [5, 6] (fun vv ii wr => ∃ (i : Nat) (A2 : Option Addr) (c2 : Nat), i ≤ l.length ∧ vv = .slice A2 (knownL (l.take i) d).length c2 ∧ ii = .int .i64 i ∧ Hid (wr.ownsRow w.heap.size 47 8 (.slice A2 (knownL (l.take i) d).length c2) (knownL (l.take i) d).length ((knownL (l.take i) d).flatMap repCells) ∧ Below w.heap.size w wr)) (fun _ ii _ => l.length - (vInt ii).toNat)
  case atStart => exact ⟨0, none, 0, Nat.zero_le _, rfl, rfl, Lib.hid ⟨World.ownsRow_nil _ _ _ _, Below.refl _ _⟩⟩
  case round =>
    obtain ⟨i, A2, c2, hi, rfl, rfl, hR⟩ := hrel
    by_cases hlt : i < l.length
    · have hil : (i : Int) < (l.length : Int) := by omega
      obtain ⟨hO, hB⟩ := hR.out
      obtain ⟨b, off, rfl, hb, C⟩ := (h.later hB).eight hlt
      have HT : Hid (knownL (l.take (i + 1)) d = knowStep d (knownL (l.take i) d) l[i]) := Lib.hid (by rw [← knownL_snoc, List.take_succ_eq_append_getElem hlt])
      have hKl : (knownL (l.take i) d).length ≤ 1000 := Nat.le_trans (knownL_le _ _) (by rw [List.length_take]; omega)
      generalize l[i] = r at *
      generalize knownL (l.take i) d = K at *
      obtain ⟨c0, c1, c2', c3, c4, c5, c6, c7⟩ := C
      by_cases hm : r.made ≤ d
      · have em : decide (r.made ≤ d) = true := decide_eq_true hm
        have HC := Lib.hid (HA.out K A2 c2 r.id wr (by unfold maxLen; omega) (reps_own hO))
        rcases ixR_cases K r.id with ⟨hx, ha⟩ | ⟨k, hk, hx, ha⟩
        · rw [hx] at HC
          have hstep : knownL (l.take (i + 1)) d = K ++ [r] := by rw [HT.out]; unfold knowStep; rw [if_pos ⟨hm, ha⟩]
          have HO := Lib.hid hO
          have hBz := hB.size
          clear hR hm hx ha hO HT
          go_wp2_with (first
            | (go_at_call 18; (with_reducible refine (HC.out).mono ?_); rintro e w2 ⟨rfl, rfl⟩)
            | (at_builtin; refine wpList_append_own_at _ rfl _ _ 22 rfl w.heap.size 47 i0 _ 8 64 Tryd.underlying22 hi0 hz0 hz1 hz2 rfl (by decide) _ _ _ rfl (HO.out.alloc _) ⟨wr.heap.size, 0, none⟩ 1 1 (repCells r) rfl rfl (cells_new8 _ _) (repCells_one _) (by unfold maxLen; omega) (by omega) (by simp; omega) ?_; intro v' w3 hown3 hg3 _ hat3; have hB3 := (hB.alloc hB.size (.cells #[.int .i64 r.id, .int .i64 r.src, .int .i64 r.acc, .int .i64 r.made, .int .i64 r.about, .int .u8 r.kind, .int .i64 r.cents, .int .i64 r.of_] 47)).grown hg3 (by simp; omega) (fun k e => (HO.out.lt k e).1); obtain ⟨A3, c3, rfl⟩ := own_slice hown3))
          go_roundw
          case rel => exact ⟨i + 1, A3, c3, by omega, by rw [hstep, List.length_append]; rfl, by go_num, Lib.hid ⟨by rw [hstep, List.length_append, repCells_snoc]; exact hown3, hB3⟩⟩
          case measure => simp [vInt]; omega
        · rw [hx] at HC
          have hk0 : ¬ (k : Int) < 0 := by omega
          have hstep : knownL (l.take (i + 1)) d = K := by rw [HT.out]; unfold knowStep; rw [if_neg (by rw [ha]; simp)]
          have HO := Lib.hid hO
          clear hR hm hx ha hO HT hk
          go_wp2_with (go_at_call 18; (with_reducible refine (HC.out).mono ?_); rintro e w2 ⟨rfl, rfl⟩)
          go_roundw
          case rel => exact ⟨i + 1, A2, c2, by omega, by rw [hstep], by go_num, Lib.hid ⟨by rw [hstep]; exact HO.out, hB⟩⟩
          case measure => simp [vInt]; omega
      · have em : decide (r.made ≤ d) = false := decide_eq_false hm
        have hstep : knownL (l.take (i + 1)) d = K := by rw [HT.out]; unfold knowStep; rw [if_neg (fun e => hm e.1)]
        have HO := Lib.hid hO
        clear hR hO HT
        go_wp2_with fail
        go_roundw
        case rel => exact ⟨i + 1, A2, c2, by omega, by rw [hstep], by go_num, Lib.hid ⟨by rw [hstep]; exact HO.out, hB⟩⟩
        case measure => simp [vInt]; omega
    · have hil : ¬ (i : Int) < (l.length : Int) := by omega
      have hO := hR.out.1
      have hfin := hR.out.2
      rw [List.take_of_length_le (by omega)] at hO ⊢
      have HO := Lib.hid hO
      clear hR hO
      go_wp2_with fail
      go_ret
      exact ⟨_, rfl, HO.out, hfin⟩

end Go.Proofs.YtliijiflbfgfaaaDoor
