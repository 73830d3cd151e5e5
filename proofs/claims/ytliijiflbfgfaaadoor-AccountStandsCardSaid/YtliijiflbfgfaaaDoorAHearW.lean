/- What the program hears: reports until a day, less those that are withdrawn, with the corrections that work. -/
import Derived.Test.YtliijiflbfgfaaaDoorACoP
import Derived.Test.YtliijiflbfgfaaaDoorAChkP

namespace Go.Proofs.YtliijiflbfgfaaaDoor
open Go.RowKit Go.Maps

theorem knWf_of {l : List Rep} (h : checkV l = 0) (d : Int) : KnWf (knownL l d) := by
  obtain ⟨_, h2, _⟩ := checkV_zero.1 h
  have hs := knownL_spec (d := d) l
  refine ⟨fun r hr => WalkArith.wf_i64 (by have := (validB_parts (h2 r (hs.2.1 r hr).1)).1; omega), fun r hr => WalkArith.wf_i64 ?_⟩
  have hv := h2 r (hs.2.1 r hr).1
  unfold validB at hv
  simp only [Bool.and_eq_true] at hv
  have hq := hv.2
  by_cases h7 : r.kind ≤ 7
  · rw [if_pos h7] at hq
    simp only [Bool.and_eq_true, decide_eq_true_eq] at hq
    omega
  · rw [if_neg h7] at hq
    simp only [Bool.and_eq_true, inN_iff] at hq
    omega
abbrev noKnow : Value := .agg #[.map none, .map none, .map none, .map none]
/-- What hear hands over where all is well. -/
structure Heard (w w' : World) (K : List Rep) (m0 m1 m2 m3 : Nat) : Prop where
  kn : KN w' m0 m1 m2 m3 8000 (repF (leftL K)) (wdMV K) (coMV K) (wkA K)
  below : Below w.heap.size w w'

set_option maxRecDepth 100000 in
set_option maxHeartbeats 2000000 in
theorem hear_bad (l : List Rep) (A : Option Addr) (c : Nat) (d : Int) (w : World) (h : Reps w w.heap.size A l) (hN : NeedsAt w) (hl : l.length ≤ 1000) (hwf : ∀ r ∈ l, RepWf r) (hc : checkV l ≠ 0) :
    Calls Tryd.prog 11 #[.slice A l.length c, .int .i64 d] w fun e w' => e = .returned (.tuple #[noKnow, .int .i64 (checkV l)]) ∧ Below w.heap.size w w' := by
  have b1 := (Below.refl w.heap.size w).alloc (Nat.le_refl _) (.cells #[.map none, .map none, .map none, .map none] 42)
  have k1 := Blk.new w #[.map none, .map none, .map none, .map none] 42
  have HC := Lib.hid (check_any l A c _ (h.later b1) (hN.later b1) (by unfold maxLen; omega) hwf)
  have hc0 : (checkV l != 0) = true := by simpa using hc
  generalize checkV l = z at *
  clear hc h hN hwf
  go_enter Tryd.func11, Tryd.ntmps11
  go_upto_region 3 with (go_at_call 8; (with_reducible refine (HC.out).mono ?_); rintro e w2 ⟨rfl, h2⟩)
  have k2 := k1.below h2 k1.lt
  have c2 := k2.cell
  have f2 := k2.free
  have hb := b1.trans (h2.mono b1.size)
  go_wp2_with fail
  have hrc := ((((k2.set 0 (.map none)).set 1 (.map none)).set 2 (.map none)).set 3 (.map none)).cell
  exact bodyPost_ret (v := .tuple #[noKnow, .int .i64 z]) (by simp [results, Tryd.results11, go_sem, hrc]) rfl ⟨rfl, (((hb.setCell (p := ⟨w.heap.size, 0, none⟩) (Nat.le_refl _) _).setCell (p := ⟨w.heap.size, 1, none⟩) (Nat.le_refl _) _).setCell (p := ⟨w.heap.size, 2, none⟩) (Nat.le_refl _) _).setCell (p := ⟨w.heap.size, 3, none⟩) (Nat.le_refl _) _⟩

set_option maxRecDepth 100000 in
set_option maxHeartbeats 2000000 in
theorem hear_arg (l : List Rep) (A : Option Addr) (c : Nat) (d : Int) (w : World) (h : Reps w w.heap.size A l) (hN : NeedsAt w) (hl : l.length ≤ 1000) (hwf : ∀ r ∈ l, RepWf r) (hc : checkV l = 0) (hd : inN d 0 100000 = false) :
    Calls Tryd.prog 11 #[.slice A l.length c, .int .i64 d] w fun e w' => e = .returned (.tuple #[noKnow, .int .i64 2]) ∧ Below w.heap.size w w' := by
  have b1 := (Below.refl w.heap.size w).alloc (Nat.le_refl _) (.cells #[.map none, .map none, .map none, .map none] 42)
  have k1 := Blk.new w #[.map none, .map none, .map none, .map none] 42
  have HC := Lib.hid (hc ▸ check_any l A c _ (h.later b1) (hN.later b1) (by unfold maxLen; omega) hwf)
  have HW := Lib.hid (fun W => hd ▸ withinP_any d 0 100000 W)
  clear hc h hN hwf hd
  go_enter Tryd.func11, Tryd.ntmps11
  go_upto_region 5 with (first
    | (go_at_call 8; (with_reducible refine (HC.out).mono ?_); rintro e w2 ⟨rfl, h2⟩)
    | (go_at_call 25; (with_reducible refine (HW.out _).mono ?_); rintro e w3 ⟨rfl, rfl⟩))
  have k2 := k1.below h2 k1.lt
  have c2 := k2.cell
  have f2 := k2.free
  have hb := b1.trans (h2.mono b1.size)
  go_wp2_with fail
  have hrc := ((((k2.set 0 (.map none)).set 1 (.map none)).set 2 (.map none)).set 3 (.map none)).cell
  exact bodyPost_ret (v := .tuple #[noKnow, .int .i64 2]) (by simp [results, Tryd.results11, go_sem, hrc]) rfl ⟨rfl, (((hb.setCell (p := ⟨w.heap.size, 0, none⟩) (Nat.le_refl _) _).setCell (p := ⟨w.heap.size, 1, none⟩) (Nat.le_refl _) _).setCell (p := ⟨w.heap.size, 2, none⟩) (Nat.le_refl _) _).setCell (p := ⟨w.heap.size, 3, none⟩) (Nat.le_refl _) _⟩

set_option maxRecDepth 100000 in
set_option maxHeartbeats 4000000 in
theorem hear_ok (l : List Rep) (A : Option Addr) (c : Nat) (d : Int) (w : World) (h : Reps w w.heap.size A l) (hN : NeedsAt w) (hl : l.length ≤ 1000) (hwf : ∀ r ∈ l, RepWf r) (hc : checkV l = 0) (hd : inN d 0 100000 = true) :
    Calls Tryd.prog 11 #[.slice A l.length c, .int .i64 d] w fun e w' => ∃ m0 m1 m2 m3, e = .returned (.tuple #[knowV m0 m1 m2 m3, .int .i64 0]) ∧ Heard w w' (knownL l d) m0 m1 m2 m3 := by
  have hmm := @run_makeMap Tryd.prog
  have b1 := (Below.refl w.heap.size w).alloc (Nat.le_refl _) (.cells #[.map none, .map none, .map none, .map none] 42)
  have k1 := Blk.new w #[.map none, .map none, .map none, .map none] 42
  have HC := Lib.hid (hc ▸ check_any l A c _ (h.later b1) (hN.later b1) (by unfold maxLen; omega) hwf)
  have HW := Lib.hid (fun W => hd ▸ withinP_any d 0 100000 W)
  have h60 := (checkV_zero.1 hc).1
  have HS := Lib.hid (fun W hh => newStore_any l A c d W hh hl (fun r hr => (hwf r hr).id) (checkV_zero.1 hc).2.2)
  have HK := Lib.hid (knOk_of hc d)
  have HKW := Lib.hid (knWf_of hc d)
  have HN := Lib.hid hN
  have hB0 : 0 < w.heap.size := hN.1
  have Hb1 := Lib.hid b1
  have Hk1 := Lib.hid k1
  have Hh := Lib.hid (h.later b1)
  clear hc h hwf hd hN b1 k1
  go_enter Tryd.func11, Tryd.ntmps11
  go_upto_region 7 with (first
    | (go_at_call 8; (with_reducible refine (HC.out).mono ?_); rintro e w2 ⟨rfl, h2⟩; have HS2 := Lib.hid (HS.out w2 (Hh.out.later h2)))
    | (go_at_call 25; (with_reducible refine (HW.out _).mono ?_); rintro e w3 ⟨rfl, rfl⟩)
    | (go_at_call 26; (with_reducible refine (HS2.out).mono ?_); rintro e w4 ⟨rfl, hM, h4⟩))
  have hb2 := Hb1.out.trans (h2.mono Hb1.out.size)
  have hb4 := hb2.trans (h4.mono hb2.size)
  have hm0 := hM.lt
  have hz2 := hb2.size
  generalize hw2 : w2.heap.size = s2 at *
  have k4 := (Hk1.out.below h2 Hk1.out.lt).below h4 (by have := (Hk1.out.below h2 Hk1.out.lt).lt; omega)
  have q1 := (MapFn.made w4 Tryd.prog 3)
  have q2 := (MapFn.made (w4.alloc (.map #[] 0)) Tryd.prog 3)
  have q3 := (MapFn.made ((w4.alloc (.map #[] 0)).alloc (.map #[] 0)) Tryd.prog 3)
  simp only [World.size_alloc] at q2 q3
  have hM4 : M4 w.heap.size (s2 + 1) w4.heap.size (w4.heap.size + 1) (w4.heap.size + 1 + 1) := ⟨by omega, by omega, by omega, by omega⟩
  have hKN : KN ((((w4.alloc (.map #[] 0)).alloc (.map #[] 0)).alloc (.map #[] 0)).alloc (.cells #[.map (some (s2 + 1)), .map (some w4.heap.size), .map (some (w4.heap.size + 1)), .map (some (w4.heap.size + 1 + 1))] 42)) (s2 + 1) w4.heap.size (w4.heap.size + 1) (w4.heap.size + 1 + 1) l.length (repF (knownL l d)) noM noM noM := by
    have e0 : repG (knownL l d) = intG (repF (knownL l d)) := repG_eq _
    have e1 : intG noM = fun _ => none := intG_nil
    refine ⟨?_, ?_, ?_, ?_⟩
    · rw [← e0]; exact (((hM.alloc _).alloc _).alloc _).alloc _
    · rw [e1]; exact (((q1.alloc _).alloc _).alloc _).mono (Nat.zero_le _)
    · rw [e1]; exact ((q2.alloc _).alloc _).mono (Nat.zero_le _)
    · rw [e1]; exact (q3.alloc _).mono (Nat.zero_le _)
  have hbx : Below w.heap.size w ((((w4.alloc (.map #[] 0)).alloc (.map #[] 0)).alloc (.map #[] 0)).alloc (.cells #[.map (some (s2 + 1)), .map (some w4.heap.size), .map (some (w4.heap.size + 1)), .map (some (w4.heap.size + 1 + 1))] 42)) := (((hb4.alloc hb4.size _).alloc (by have := hb4.size; simp; omega) _).alloc (by have := hb4.size; simp; omega) _).alloc (by have := hb4.size; simp; omega) _
  have kt4 := (((k4.alloc (.map #[] 0)).alloc (.map #[] 0)).alloc (.map #[] 0)).alloc (.cells #[.map (some (s2 + 1)), .map (some w4.heap.size), .map (some (w4.heap.size + 1)), .map (some (w4.heap.size + 1 + 1))] 42)
  have kt7 := Blk.new (((w4.alloc (.map #[] 0)).alloc (.map #[] 0)).alloc (.map #[] 0)) #[.map (some (s2 + 1)), .map (some w4.heap.size), .map (some (w4.heap.size + 1)), .map (some (w4.heap.size + 1 + 1))] 42
  simp only [World.size_alloc] at kt7
  clear q1 q2 q3 hM h4 h2 hb2 hb4 k4 HC HS HS2 HW Hb1 Hk1 Hh hmm
  generalize ((((w4.alloc (.map #[] 0)).alloc (.map #[] 0)).alloc (.map #[] 0)).alloc (.cells #[.map (some (s2 + 1)), .map (some w4.heap.size), .map (some (w4.heap.size + 1)), .map (some (w4.heap.size + 1 + 1))] 42)) = V at *
  generalize hg4 : w4.heap.size = s4 at *
  have HWd := Lib.hid (withdraw_any w.heap.size (s2 + 1) s4 (s4 + 1) (s4 + 1 + 1) l.length (knownL l d) V hM4 hKN HK.out HKW.out hbx.size hl)
  have HM4 := Lib.hid hM4
  have Hbx := Lib.hid hbx
  have Hk4 := Lib.hid kt4
  have Hk7 := Lib.hid kt7
  have c7 := kt7.cell
  clear hM4 hKN hbx kt4 kt7 hg4
  go_upto_region 9 with (first
    | (go_at_call 27; (with_reducible refine (HWd.out).mono ?_); rintro e w5 ⟨rfl, hK5, hs5⟩; have c75 := (Hk7.out.step hs5).cell; have HCo := Lib.hid (correct_any w.heap.size (s2 + 1) s4 (s4 + 1) (s4 + 1 + 1) (l.length + 2000) (knownL l d) w5 HM4.out hK5 HK.out HKW.out ((HN.out.below Hbx.out hB0).step hs5 hB0) hB0 (Hbx.out.trans hs5.below).size (by omega)))
    | (go_at_call 28; (with_reducible refine (HCo.out).mono ?_); rintro e w6 ⟨rfl, hK6, hs6⟩))
  have hs := hs5.trans hs6
  have c76 := (Hk7.out.step hs).cell
  have k46 := Hk4.out.step hs
  have c46 := k46.cell
  have f46 := k46.free
  have hb6 := Hbx.out.trans hs.below
  have HF := Lib.hid (hK6.mono (n' := 8000) (by omega))
  clear hK5 hK6 hs5 hs6 hs
  go_wp2_with fail
  have hrc := ((((k46.set 0 (.map (some (s2 + 1)))).set 1 (.map (some s4))).set 2 (.map (some (s4 + 1)))).set 3 (.map (some (s4 + 1 + 1)))).cell
  refine bodyPost_ret (v := .tuple #[knowV (s2 + 1) s4 (s4 + 1) (s4 + 1 + 1), .int .i64 0]) (by simp [results, Tryd.results11, go_sem, hrc]) rfl ⟨s2 + 1, s4, s4 + 1, s4 + 1 + 1, rfl, ?_, (((hb6.setCell (p := ⟨w.heap.size, 0, none⟩) (Nat.le_refl _) _).setCell (p := ⟨w.heap.size, 1, none⟩) (Nat.le_refl _) _).setCell (p := ⟨w.heap.size, 2, none⟩) (Nat.le_refl _) _).setCell (p := ⟨w.heap.size, 3, none⟩) (Nat.le_refl _) _⟩
  obtain ⟨r0, r1, r2, r3⟩ := HF.out
  have hM := HM4.out
  obtain ⟨_, _, _, _⟩ := hM
  have q : ∀ {m G}, w.heap.size < m → MapFn w6 Tryd.prog 3 m 8000 G → MapFn ((((w6.setCell ⟨w.heap.size, 0, none⟩ (.map (some (s2 + 1)))).setCell ⟨w.heap.size, 1, none⟩ (.map (some s4))).setCell ⟨w.heap.size, 2, none⟩ (.map (some (s4 + 1)))).setCell ⟨w.heap.size, 3, none⟩ (.map (some (s4 + 1 + 1)))) Tryd.prog 3 m 8000 G := fun {m G} hm hh =>
    (((hh.setCell (a := ⟨w.heap.size, 0, none⟩) (by show m ≠ w.heap.size; omega) _).setCell (a := ⟨w.heap.size, 1, none⟩) (by show m ≠ w.heap.size; omega) _).setCell (a := ⟨w.heap.size, 2, none⟩) (by show m ≠ w.heap.size; omega) _).setCell (a := ⟨w.heap.size, 3, none⟩) (by show m ≠ w.heap.size; omega) _
  exact ⟨q (by omega) r0, q (by omega) r1, q (by omega) r2, q (by omega) r3⟩

end Go.Proofs.YtliijiflbfgfaaaDoor
