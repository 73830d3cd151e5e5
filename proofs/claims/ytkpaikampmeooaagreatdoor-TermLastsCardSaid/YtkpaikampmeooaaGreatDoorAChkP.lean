/- The check of reports, by the program and by the reference. -/
import Derived.Test.YtkpaikampmeooaaGreatDoorTCardP2

namespace Go.Proofs.YtkpaikampmeooaaGreatDoor
open Go.RowKit Go.Maps

/-- What a report among the arguments is, whatever its numbers. -/
structure RepWf (r : Rep) : Prop where
  id : (Lit.int .i64 r.id).wf = true
  kind : 0 ≤ r.kind ∧ r.kind ≤ 255

set_option maxRecDepth 100000 in
set_option maxHeartbeats 4000000 in
theorem check_any (l : List Rep) (A : Option Addr) (c : Nat) (w : World) (h : Reps w w.heap.size A l) (hN : NeedsAt w) (hl : l.length ≤ maxLen) (hwf : ∀ r ∈ l, RepWf r) :
    Calls Tryz.prog 74 #[.slice A l.length c] w fun e w' => e = .returned (.int .i64 (checkV l)) ∧ Below w.heap.size w w' := by
  unfold maxLen at hl
  by_cases h60 : 60 < l.length
  · have hi : (60 : Int) < (l.length : Int) := by omega
    have Hv : Hid (checkV l = 4) := Lib.hid (by unfold checkV; rw [if_pos h60])
    clear h hN hwf
    go_enter Tryz.func74, Tryz.ntmps74
    go_wp2_with fail
    go_ret
    exact ⟨by rw [Hv.out]; rfl, Below.refl _ _⟩
  · have hi : ¬ (60 : Int) < (l.length : Int) := by omega
    have HR := Lib.hid (fun W r hN (hr : r ∈ l) => reportValid_any r W hN (hwf r hr).kind)
    have HO := Lib.hid (fun W hh => oneOfEachId_any l A c W hh (by omega) (fun r hr => (hwf r hr).id))
    clear hwf
    go_enter Tryz.func74, Tryz.ntmps74
    go_wp2_with fail
    go_loopw [10] (fun ii wr => ∃ i : Nat, i ≤ l.length ∧ ii = .int .i64 i ∧ Hid ((∀ r ∈ l.take i, validB r = true) ∧ Below w.heap.size w wr)) (fun ii _ => l.length - (vInt ii).toNat)
    case atStart => exact ⟨0, Nat.zero_le _, rfl, Lib.hid ⟨fun r hr => by simp at hr, Below.refl _ _⟩⟩
    case round =>
      obtain ⟨i, hi2, rfl, hR⟩ := hrel
      by_cases hlt : i < l.length
      · as_aux_lemma =>
        have hil : (i : Int) < (l.length : Int) := by omega
        obtain ⟨hV, hB⟩ := hR.out
        obtain ⟨b, off, rfl, hb, C⟩ := (h.later hB).eight hlt
        have hri : l[i] ∈ l := List.getElem_mem hlt
        have HT : Hid (l.take (i + 1) = l.take i ++ [l[i]]) := Lib.hid (List.take_succ_eq_append_getElem hlt)
        generalize l[i] = r at *
        obtain ⟨c0, c1, c2, c3, c4, c5, c6, c7⟩ := C
        have hB1 := hB.alloc hB.size (.cells #[.int .i64 r.id, .int .i64 r.src, .int .i64 r.acc, .int .i64 r.made, .int .i64 r.about, .int .u8 r.kind, .int .i64 r.cents, .int .i64 r.of_] 56)
        have HC := Lib.hid (HR.out (wr.alloc (.cells #[.int .i64 r.id, .int .i64 r.src, .int .i64 r.acc, .int .i64 r.made, .int .i64 r.about, .int .u8 r.kind, .int .i64 r.cents, .int .i64 r.of_] 56)) r (hN.later hB1) hri)
        cases hv : validB r with
        | false =>
          rw [hv] at HC
          have Hv : Hid (checkV l = 30) := Lib.hid (by
            unfold checkV
            rw [if_neg h60, if_neg (by rw [List.all_eq_true]; intro e; rw [e r hri] at hv; cases hv)])
          clear hR hV hv HT
          go_wp2_with (go_at_call 98; (with_reducible refine (HC.out).mono ?_); rintro e w2 ⟨rfl, h2⟩)
          go_ret
          exact ⟨by rw [Hv.out]; rfl, hB1.trans (h2.mono hB1.size)⟩
        | true =>
          rw [hv] at HC
          have HV : Hid (∀ q ∈ l.take (i + 1), validB q = true) := Lib.hid (fun q hq => by
            rw [HT.out] at hq
            rcases List.mem_append.1 hq with hq | hq
            · exact hV q hq
            · simp only [List.mem_cons, List.not_mem_nil, or_false] at hq
              rw [hq]; exact hv)
          clear hR hV hv HT
          go_wp2_with (go_at_call 98; (with_reducible refine (HC.out).mono ?_); rintro e w2 ⟨rfl, h2⟩)
          have hfin := hB1.trans (h2.mono hB1.size)
          go_roundw
          case rel => exact ⟨i + 1, by omega, by go_num, Lib.hid ⟨HV.out, hfin⟩⟩
          case measure => simp [vInt]; omega
      · have hil : ¬ (i : Int) < (l.length : Int) := by omega
        obtain ⟨hV, hB⟩ := hR.out
        rw [List.take_of_length_le (by omega)] at hV
        have HC := Lib.hid (HO.out wr (h.later hB))
        have hall : l.all validB = true := List.all_eq_true.2 hV
        cases hc : clashB l with
        | false =>
          have Hv : Hid (checkV l = 0) := Lib.hid (by unfold checkV; rw [if_neg h60, if_pos hall, hc]; rfl)
          rw [hc] at HC
          clear hR hV hc hall
          go_wp2_with (go_at_call 99; (with_reducible refine (HC.out).mono ?_); rintro e w2 ⟨rfl, h2⟩)
          go_ret
          exact ⟨by rw [Hv.out]; rfl, hB.trans (h2.mono hB.size)⟩
        | true =>
          have Hv : Hid (checkV l = 31) := Lib.hid (by unfold checkV; rw [if_neg h60, if_pos hall, hc]; rfl)
          rw [hc] at HC
          clear hR hV hc hall
          go_wp2_with (go_at_call 99; (with_reducible refine (HC.out).mono ?_); rintro e w2 ⟨rfl, h2⟩)
          go_ret
          exact ⟨by rw [Hv.out]; rfl, hB.trans (h2.mono hB.size)⟩

end Go.Proofs.YtkpaikampmeooaaGreatDoor
