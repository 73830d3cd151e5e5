/- The least number of the withdrawals that work of a report, by the reference. -/
import Derived.Test.YtliijiflbfgfaaaDoorAAim

namespace Go.Proofs.YtliijiflbfgfaaaDoor
open Go.RowKit Go.Maps

set_option maxRecDepth 100000 in
set_option maxHeartbeats 4000000 in
theorem withdrawn3_any (l : List Rep) (A : Option Addr) (c : Nat) (id : Int) (w : World) (h : Reps w w.heap.size A l) (hl : l.length ≤ maxLen) (hk0 : atR l id ≠ none) :
    Calls Tryd.prog 20 #[.slice A l.length c, .int .i64 id] w fun e w' => e = .returned (.int .i64 (wdV l id)) ∧ Below w.heap.size w w' := by
  obtain ⟨k, hk, hx, hat⟩ : ∃ k, ∃ h : k < l.length, ixR l id = k ∧ atR l id = some l[k] := by
    rcases ixR_cases l id with ⟨_, e⟩ | e
    · exact absurd e hk0
    · exact e
  have HA3 := Lib.hid (fun W r hh => aims3_any l A c r W hh hl)
  have HAt := Lib.hid (fun W hh => hx ▸ at3_any l A c id W hh hl)
  have HTK : Hid (kindAt l id = l[k].kind) := Lib.hid (by unfold kindAt; rw [hat])
  unfold maxLen at hl
  clear hx hat hk0
  go_enter Tryd.func20, Tryd.ntmps20
  go_wp2_with (go_at_call 18; (with_reducible refine (HAt.out _ h).mono ?_); rintro e w1 ⟨rfl, rfl⟩)
  go_loopw [5, 7] (fun bb ii wr => ∃ (i : Nat) (z : Int), i ≤ l.length ∧ bb = .int .i64 z ∧ ii = .int .i64 i ∧ Hid (wdP l (l.take i) id = z ∧ Below w.heap.size w wr)) (fun _ ii _ => l.length - (vInt ii).toNat)
  case atStart => exact ⟨0, -1, Nat.zero_le _, rfl, rfl, Lib.hid ⟨rfl, Below.refl _ _⟩⟩
  case round =>
    obtain ⟨i, z, hi, rfl, rfl, hR⟩ := hrel
    by_cases hlt : i < l.length
    · as_aux_lemma =>
        have hil : (i : Int) < (l.length : Int) := by omega
        have hkl : (k : Int) < (l.length : Int) := by omega
        obtain ⟨hz, hB⟩ := hR.out
        obtain ⟨b, off, rfl, hb, C⟩ := (h.later hB).eight hlt
        obtain ⟨_, _, e2, _, C2⟩ := (h.later hB).eight hk
        cases e2
        have k5 := C2.c5
        have hkind := HTK.out
        have HT : Hid (l.take (i + 1) = l.take i ++ [l[i]]) := Lib.hid (List.take_succ_eq_append_getElem hlt)
        have HA := Lib.hid (HA3.out wr l[i] (h.later hB))
        generalize l[k] = s at *
        generalize l[i] = r at *
        obtain ⟨c0, c1, c2, c3, c4, c5, c6, c7⟩ := C
        clear C2 HA3 HAt
        by_cases h9 : r.kind = 9
        · have e9 : (r.kind == 9) = true := by simp [h9]
          by_cases ho : r.of_ = id
          · have eo : (r.of_ == id) = true := by simp [ho]
            by_cases hs : s.kind = 9
            · have es : (s.kind == 9) = true := by simp [hs]
              have es2 : (s.kind != 9) = false := by simp [hs]
              have HJ : Hid (wdP l (l.take (i + 1)) id = z) := Lib.hid (by rw [HT.out, wdP_step, if_neg (by rw [show wdB l id r = false by unfold wdB; simp [hkind, hs]]; simp), hz])
              clear h9 ho hs hR HTK
              go_wp2_with fail
              have hfin := hB
              go_roundw
              case rel => exact ⟨i + 1, z, by omega, by first | rfl | go_num, by first | rfl | go_num, Lib.hid ⟨HJ.out, hfin⟩⟩
              case measure => simp [vInt]; omega
            · have es : (s.kind == 9) = false := by simpa using hs
              have es2 : (s.kind != 9) = true := by simpa using hs
              cases ha : aimsB l r with
              | false =>
                rw [ha] at HA
                have HJ : Hid (wdP l (l.take (i + 1)) id = z) := Lib.hid (by rw [HT.out, wdP_step, if_neg (by rw [show wdB l id r = false by unfold wdB; simp [ha]]; simp), hz])
                clear h9 ho hs hR ha HTK
                go_wp2_with (go_at_call 19; (with_reducible refine (HA.out).mono ?_); rintro e w2 ⟨rfl, h2⟩)
                have hfin := hB.trans (h2.mono hB.size)
                go_roundw
                case rel => exact ⟨i + 1, z, by omega, by first | rfl | go_num, by first | rfl | go_num, Lib.hid ⟨HJ.out, hfin⟩⟩
                case measure => simp [vInt]; omega
              | true =>
                rw [ha] at HA
                have hwd : wdB l id r = true := by unfold wdB; simp [h9, ho, hkind, hs, ha]
                have hstep : wdP l (l.take (i + 1)) id = lessId z r := by rw [HT.out, wdP_step, if_pos hwd, hz]
                by_cases hb1 : z < 0
                · have HJ : Hid (wdP l (l.take (i + 1)) id = r.id) := Lib.hid (by rw [hstep]; unfold lessId; rw [if_pos (.inl hb1)])
                  have eb : decide (z < 0) = true := decide_eq_true hb1
                  clear h9 ho hs hR ha hwd hstep HTK
                  go_wp2_with (go_at_call 19; (with_reducible refine (HA.out).mono ?_); rintro e w2 ⟨rfl, h2⟩; have c0' := (h2.cell (p := ⟨b, off + i * 8, none⟩) hb).trans c0)
                  have hfin := hB.trans (h2.mono hB.size)
                  have c0' := (h2.cell (p := ⟨b, off + i * 8, none⟩) hb).trans c0
                  try go_wp2_with fail
                  go_roundw
                  case rel => exact ⟨i + 1, r.id, by omega, by first | rfl | go_num, by first | rfl | go_num, Lib.hid ⟨HJ.out, hfin⟩⟩
                  case measure => simp [vInt]; omega
                · have eb : decide (z < 0) = false := decide_eq_false hb1
                  by_cases hb2 : r.id < z
                  · have HJ : Hid (wdP l (l.take (i + 1)) id = r.id) := Lib.hid (by rw [hstep]; unfold lessId; rw [if_pos (.inr hb2)])
                    clear h9 ho hs hR ha hwd hstep HTK
                    go_wp2_with (go_at_call 19; (with_reducible refine (HA.out).mono ?_); rintro e w2 ⟨rfl, h2⟩; have c0' := (h2.cell (p := ⟨b, off + i * 8, none⟩) hb).trans c0)
                    have hfin := hB.trans (h2.mono hB.size)
                    try go_wp2_with fail
                    go_roundw
                    case rel => exact ⟨i + 1, r.id, by omega, by first | rfl | go_num, by first | rfl | go_num, Lib.hid ⟨HJ.out, hfin⟩⟩
                    case measure => simp [vInt]; omega
                  · have HJ : Hid (wdP l (l.take (i + 1)) id = z) := Lib.hid (by rw [hstep]; unfold lessId; rw [if_neg (by omega)])
                    clear h9 ho hs hR ha hwd hstep HTK
                    go_wp2_with (go_at_call 19; (with_reducible refine (HA.out).mono ?_); rintro e w2 ⟨rfl, h2⟩; have c0' := (h2.cell (p := ⟨b, off + i * 8, none⟩) hb).trans c0)
                    have hfin := hB.trans (h2.mono hB.size)
                    try go_wp2_with fail
                    go_roundw
                    case rel => exact ⟨i + 1, z, by omega, by first | rfl | go_num, by first | rfl | go_num, Lib.hid ⟨HJ.out, hfin⟩⟩
                    case measure => simp [vInt]; omega
          · have eo : (r.of_ == id) = false := by simpa using ho
            have HJ : Hid (wdP l (l.take (i + 1)) id = z) := Lib.hid (by rw [HT.out, wdP_step, if_neg (by rw [show wdB l id r = false by unfold wdB; simp [ho]]; simp), hz])
            clear h9 ho hR HTK
            go_wp2_with fail
            have hfin := hB
            go_roundw
            case rel => exact ⟨i + 1, z, by omega, by first | rfl | go_num, by first | rfl | go_num, Lib.hid ⟨HJ.out, hfin⟩⟩
            case measure => simp [vInt]; omega
        · have e9 : (r.kind == 9) = false := by simpa using h9
          have HJ : Hid (wdP l (l.take (i + 1)) id = z) := Lib.hid (by rw [HT.out, wdP_step, if_neg (by rw [show wdB l id r = false by unfold wdB; simp [h9]]; simp), hz])
          clear h9 hR HTK
          go_wp2_with fail
          have hfin := hB
          go_roundw
          case rel => exact ⟨i + 1, z, by omega, by first | rfl | go_num, by first | rfl | go_num, Lib.hid ⟨HJ.out, hfin⟩⟩
          case measure => simp [vInt]; omega
    · have hil : ¬ (i : Int) < (l.length : Int) := by omega
      have Hv : Hid (z = wdV l id) := Lib.hid (by
        have q := hR.out.1
        rw [List.take_of_length_le (by omega)] at q
        exact q.symm)
      have hfin := hR.out.2
      clear hR
      go_wp2_with fail
      go_ret
      exact ⟨by rw [← Hv.out]; rfl, hfin⟩

end Go.Proofs.YtliijiflbfgfaaaDoor
