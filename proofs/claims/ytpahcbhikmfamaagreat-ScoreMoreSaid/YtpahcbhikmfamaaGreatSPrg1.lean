/- Points, scales, by the program: whether they are valid. Written by a program. -/
import Derived.Test.YtpahcbhikmfamaaGreatSRef1

namespace Go.Proofs.YtpahcbhikmfamaaGreat
open Go.RowKit Go.Maps

theorem range_all {α : Type} (l : List α) (d : α) (q : α → Bool) : rangeB l.length (fun i => q (l.getD i d)) = l.all q := by
  rw [Bool.eq_iff_iff, rangeB_iff, List.all_eq_true]
  constructor
  · intro h x hx
    obtain ⟨i, hi, rfl⟩ := List.getElem_of_mem hx
    have := h i hi
    rwa [getD_lt l d hi] at this
  · intro h i hi
    rw [getD_lt l d hi]
    exact h _ (List.getElem_mem hi)
instance : Inhabited CrdD := ⟨⟨0, 0, [], none, 0⟩⟩
instance : Inhabited TreD := ⟨⟨⟨0, []⟩, none, 0⟩⟩
set_option maxHeartbeats 400000 in
theorem withinP_any (n lo hi : Int) (w : World) :
    Calls Tryz.prog 36 #[.int .i64 n, .int .i64 lo, .int .i64 hi] w fun e w' => e = .returned (.bool (inN n lo hi)) ∧ w = w' := by
  go_enter Tryz.func36, Tryz.ntmps36
  go_wp2
  all_goals go_ret
  all_goals refine ⟨ret_bool ?_, rfl⟩
  · have h : lo ≤ n := by assumption
    simp [inN, h]
  · have h : n < lo := by assumption
    have h' : ¬ lo ≤ n := by omega
    simp [inN, h']
set_option maxHeartbeats 400000 in
theorem ptsV1_any (i n : Int) (w : World) :
    Calls Tryz.prog 69 #[.int .i64 i, .int .i64 n] w fun e w' => e = .returned (.bool (ptB n)) ∧ Below w.heap.size w w' := by
  have H := Lib.hid (withinP_any n (-1000000) 1000000 w)
  go_enter Tryz.func69, Tryz.ntmps69
  go_wp2_with (go_at_call 36; (with_reducible refine (H.out).mono ?_); rintro e w1 ⟨rfl, rfl⟩)
  go_ret
  exact ⟨rfl, Below.refl _ _⟩
set_option maxRecDepth 100000 in
set_option maxHeartbeats 4000000 in
theorem allPts_any (l : List Int) (A : Option Addr) (a : Nat) (P : Nat → Bool) (w : World) (h : IntsAt w w.heap.size A l) (hl : l.length ≤ 1000)
    (HG : Hid (∀ i (_ : i < l.length) W, Below w.heap.size w W → Calls Tryz.prog 69 #[.int .i64 i, .int .i64 l[i]] W fun e w' => e = .returned (.bool (P i)) ∧ Below W.heap.size W w')) :
    Calls Tryz.prog 42 #[.slice A l.length a, .func (.func 69) #[] #[]] w fun e w' => e = .returned (.bool (rangeB l.length P)) ∧ Below w.heap.size w w' := by
  have HE : Hid (rangeB l.length P = rangeB l.length P) := Lib.hid rfl
  generalize hV : rangeB l.length P = V at *
  have HV := Lib.hid hV
  clear hV HE
  go_enter Tryz.func42, Tryz.ntmps42
  go_wp2_with fail
  go_loopw [9] (fun ii wr => ∃ i : Nat, i ≤ l.length ∧ ii = .int .i64 i ∧ Hid ((∀ j, j < i → P j = true) ∧ Below w.heap.size w wr)) (fun ii _ => l.length - (vInt ii).toNat)
  case atStart => exact ⟨0, Nat.zero_le _, rfl, Lib.hid ⟨fun j hj => by omega, Below.refl _ _⟩⟩
  case round =>
    obtain ⟨i, hi, rfl, hR⟩ := hrel
    obtain ⟨hS, hB⟩ := hR.out
    by_cases hlt : i < l.length
    · have hil : (i : Int) < (l.length : Int) := by omega
      obtain ⟨b, off, rfl, hb, c0⟩ := ints_at (h.later hB) hlt
      have HGi := Lib.hid (HG.out i hlt wr hB)
      have hB1 : Below w.heap.size w wr := hB
      cases hv : P i with
      | false =>
        have Hv : Hid (V = false) := Lib.hid (by rw [← HV.out]; exact rangeB_stop hlt hv)
        rw [hv] at HGi
        clear hS hR HG hv h
        generalize l[i] = y at *
        go_wp2_with (go_at_call 69; (with_reducible refine (HGi.out).mono ?_); rintro e w5 ⟨rfl, h5⟩)
        go_ret
        exact ⟨by rw [Hv.out]; rfl, hB1.trans (h5.mono hB1.size)⟩
      | true =>
        have HJ : Hid (∀ j, j < i + 1 → P j = true) := Lib.hid (fun j hj => by
          rcases Nat.lt_or_ge j i with hj2 | hj2
          · exact hS j hj2
          · rw [show j = i by omega]; exact hv)
        rw [hv] at HGi
        clear hS hR hv
        generalize l[i] = y at *
        go_wp2_with (go_at_call 69; (with_reducible refine (HGi.out).mono ?_); rintro e w5 ⟨rfl, h5⟩)
        go_roundw
        case rel => exact ⟨i + 1, by omega, by go_num, Lib.hid ⟨HJ.out, hB1.trans (h5.mono hB1.size)⟩⟩
        case measure => simp [vInt]; omega
    · have hil : ¬ (i : Int) < (l.length : Int) := by omega
      obtain rfl : i = l.length := by omega
      have Hv : Hid (V = true) := Lib.hid (by rw [← HV.out]; exact rangeB_iff.2 hS)
      clear hS hR
      go_wp2_with fail
      go_ret
      exact ⟨by rw [Hv.out]; rfl, hB⟩


set_option maxHeartbeats 1000000 in
theorem pointsV_any (l : List Int) (A : Option Addr) (a : Nat) (w : World) (h : IntsAt w w.heap.size A l) (hl : l.length ≤ 1000) :
    Calls Tryz.prog 55 #[.slice A l.length a] w fun e w' => e = .returned (.bool (l.all ptB)) ∧ Below w.heap.size w w' := by
  have H := Lib.hid (allPts_any l A a (fun i => ptB (l.getD i 0)) w h hl (Lib.hid (fun i hi W _ => by rw [getD_lt l 0 hi]; exact ptsV1_any i l[i] W)))
  rw [range_all l 0 ptB] at H
  go_enter Tryz.func55, Tryz.ntmps55
  go_wp2_with (go_at_call 42; (with_reducible refine (H.out).mono ?_); rintro e w1 ⟨rfl, h1⟩)
  go_ret
  exact ⟨rfl, h1⟩
theorem ints_one (W : World) (n : Int) (t : TypeId) : IntsAt (W.alloc (.cells #[.int .i64 n] t)) (W.alloc (.cells #[.int .i64 n] t)).heap.size (some ⟨W.heap.size, 0, none⟩) [n] := fun k hk => by
  have hk0 : k = 0 := by simpa using hk
  subst hk0
  refine ⟨W.heap.size, 0, rfl, by simp, fun i hi => ?_⟩
  obtain rfl : i = 0 := by omega
  exact (Blk.new W #[.int .i64 n] t).cell 0
/-- One number, in new memory. -/
theorem pointV_any (n : Int) (t : TypeId) (W : World) :
    Calls Tryz.prog 55 #[.slice (some ⟨W.heap.size, 0, none⟩) 1 1] (W.alloc (.cells #[.int .i64 n] t)) fun e w' => e = .returned (.bool (ptB n)) ∧ Below W.heap.size W w' := by
  have := pointsV_any [n] (some ⟨W.heap.size, 0, none⟩) 1 _ (ints_one W n t) (by simp)
  refine this.mono fun e w' ⟨h1, h2⟩ => ⟨by rw [h1]; simp, ?_⟩
  exact ((Below.refl W.heap.size W).alloc (Nat.le_refl _) _).trans (h2.mono (by simp))

theorem cut_prev {l : List Int} {i : Nat} (h : ∀ j, j < i → cutB l j = true) : 0 ≤ (if i = 0 then 0 else l.getD (i - 1) 0) ∧ (if i = 0 then 0 else l.getD (i - 1) 0) ≤ 1000000 := by
  by_cases h0 : i = 0
  · rw [if_pos h0]; omega
  · rw [if_neg h0]
    have h1 := cut_pos h (i - 1) (by omega)
    have h2 := h (i - 1) (by omega)
    rw [cutB, inN_iff] at h2
    omega

set_option maxRecDepth 100000 in
set_option maxHeartbeats 4000000 in
theorem scaleV_all (v : Scl) (A B : Option Addr) (a bb : Nat) (w : World) (h : IntsAt w w.heap.size A v.cuts) (hp : IntsAt w w.heap.size B v.pts) (hl : SclLe v) :
    Calls Tryz.prog 72 #[.agg #[.slice A v.cuts.length a, .slice B v.pts.length bb, .int .i64 v.non]] w fun e w' => e = .returned (.bool (sclB v)) ∧ Below w.heap.size w w' := by
  have b1 := (Below.refl w.heap.size w).alloc (Nat.le_refl _) (.cells #[.slice A v.cuts.length a, .slice B v.pts.length bb, .int .i64 v.non] 42)
  have k1 := Blk.new w #[.slice A v.cuts.length a, .slice B v.pts.length bb, .int .i64 v.non] 42
  have g1 := k1.lt
  have h1 := h.later b1
  have h1p := hp.later b1
  have l1 := hl.cuts
  have l2 := hl.pts
  have k1c := k1.cell
  have HD : Hid (sclB v = (decide (v.cuts.length ≤ 3) && decide (v.pts.length = v.cuts.length + 1) && ptB v.non && cutsB v.cuts && v.pts.all ptB)) := Lib.hid rfl
  generalize sclB v = V at *
  by_cases q1 : 3 < v.cuts.length
  · have Hv : Hid (V = false) := Lib.hid (by rw [HD.out, decide_eq_false (by omega : ¬ v.cuts.length ≤ 3)]; simp)
    have q1' : (3 : Int) < (v.cuts.length : Int) := by omega
    clear h hp h1 h1p hl HD
    go_enter Tryz.func72, Tryz.ntmps72
    go_wp2_with fail
    go_ret
    exact ⟨by rw [Hv.out]; rfl, b1⟩
  · have q1' : ¬ (3 : Int) < (v.cuts.length : Int) := by omega
    have hz : IntKind.i64.wrap ((v.cuts.length : Int) + 1) = (v.cuts.length : Int) + 1 := IntWalk.i64_in _ (by omega)
    by_cases q2 : v.pts.length = v.cuts.length + 1
    · have q2' : ((v.pts.length : Int) != (v.cuts.length : Int) + 1) = false := by rw [q2]; simp
      have HE : Hid (V = (ptB v.non && cutsB v.cuts && v.pts.all ptB)) := Lib.hid (by rw [HD.out, decide_eq_true (by omega : v.cuts.length ≤ 3), decide_eq_true q2]; simp)
      clear q2 HD
      go_enter Tryz.func72, Tryz.ntmps72
      go_wp2_with fail
      generalize hW1 : w.alloc (.cells #[.slice A v.cuts.length a, .slice B v.pts.length bb, .int .i64 v.non] 42) = W1 at *
      clear hW1 h hp
      go_loopw [3, 23] (fun zz ii wr => ∃ (i : Nat) (z : Int), i ≤ v.cuts.length ∧ zz = .int .i64 z ∧ ii = .int .i64 i ∧ Hid (z = (if i = 0 then 0 else v.cuts.getD (i - 1) 0) ∧ ∀ j, j < i → cutB v.cuts j = true) ∧ W1 = wr) (fun _ ii _ => v.cuts.length - (vInt ii).toNat)
      case atStart => exact ⟨0, 0, Nat.zero_le _, rfl, rfl, Lib.hid ⟨rfl, fun j hj => by omega⟩, by first | rfl | trivial⟩
      case round =>
        obtain ⟨i, z, hi, rfl, rfl, hR, rfl⟩ := hrel
        obtain ⟨hz0, hS⟩ := hR.out
        by_cases hlt : i < v.cuts.length
        · have hil : (i : Int) < (v.cuts.length : Int) := by omega
          obtain ⟨b, off, rfl, hb, c0⟩ := ints_at h1 hlt
          have hpv := cut_prev hS
          rw [← hz0] at hpv
          have hzw : IntKind.i64.wrap (z + 1) = z + 1 := IntWalk.i64_in _ (by omega)
          have HT : Hid (cutB v.cuts i = inN v.cuts[i] (z + 1) 1000000) := Lib.hid (by rw [cutB, getD_lt _ _ hlt, ← hz0])
          have HW := Lib.hid (withinP_any v.cuts[i] (z + 1) 1000000 W1)
          have HX : Hid (cutB v.cuts i = false → V = false) := Lib.hid (fun e => by rw [HE.out, show cutsB v.cuts = false from rangeB_stop hlt e]; simp)
          have HN : Hid (cutB v.cuts i = true → v.cuts[i] = (if i + 1 = 0 then 0 else v.cuts.getD (i + 1 - 1) 0) ∧ ∀ j, j < i + 1 → cutB v.cuts j = true) := Lib.hid (fun e => ⟨by rw [if_neg (by omega), Nat.add_sub_cancel, getD_lt _ _ hlt], fun j hj => by
            rcases Nat.lt_or_ge j i with hj2 | hj2
            · exact hS j hj2
            · rw [show j = i by omega]; exact e⟩)
          clear hR hS hz0
          generalize v.cuts[i] = y at *
          cases hv : inN y (z + 1) 1000000 with
          | false =>
            have Hv : Hid (V = false) := Lib.hid (HX.out (by rw [HT.out, hv]))
            rw [hv] at HW
            clear HX HN HT hv HE
            go_wp2_with (go_at_call 36; (with_reducible refine (HW.out).mono ?_); rintro e w1 ⟨rfl, rfl⟩)
            go_ret
            exact ⟨by rw [Hv.out]; rfl, b1⟩
          | true =>
            have HJ := Lib.hid (HN.out (by rw [HT.out, hv]))
            rw [hv] at HW
            clear HX HN HT hv
            go_wp2_with (go_at_call 36; (with_reducible refine (HW.out).mono ?_); rintro e w1 ⟨rfl, rfl⟩)
            go_roundw
            case rel => exact ⟨i + 1, y, by omega, rfl, by go_num, HJ, by first | rfl | trivial⟩
            case measure => simp [vInt]; omega
        · have hil : ¬ (i : Int) < (v.cuts.length : Int) := by omega
          obtain rfl : i = v.cuts.length := by omega
          have hC : cutsB v.cuts = true := rangeB_iff.2 hS
          have HF : Hid (V = (ptB v.non && v.pts.all ptB)) := Lib.hid (by rw [HE.out, hC]; simp)
          have HP1 := Lib.hid (fun t => pointV_any v.non t W1)
          have HP2 := Lib.hid (fun W hb => pointsV_any v.pts B bb W (h1p.later (w' := W) hb) (by omega))
          clear hR hS hC HE hz0
          cases q3 : ptB v.non with
          | false =>
            have Hv : Hid (V = false) := Lib.hid (by rw [HF.out, q3]; rfl)
            rw [q3] at HP1
            clear HF q3 HP2
            go_wp2_with (go_at_call 55; (with_reducible refine (HP1.out _).mono ?_); rintro e w5 ⟨rfl, h5⟩)
            go_ret
            exact ⟨by rw [Hv.out]; rfl, b1.trans (h5.mono b1.size)⟩
          | true =>
            have Hv : Hid (V = v.pts.all ptB) := Lib.hid (by rw [HF.out, q3]; rfl)
            rw [q3] at HP1
            clear HF q3
            go_wp2_with (first
              | (go_at_call 55; (with_reducible refine (HP1.out _).mono ?_); rintro e w5 ⟨rfl, h5⟩; have k5c := (k1.below h5 g1).cell)
              | (go_at_call 55; (with_reducible refine (HP2.out _ h5).mono ?_); rintro e w6 ⟨rfl, h6⟩))
            go_ret
            exact ⟨by rw [Hv.out]; rfl, (b1.trans (h5.mono b1.size)).trans (h6.mono (Nat.le_trans b1.size h5.size))⟩
    · have q2' : ((v.pts.length : Int) != (v.cuts.length : Int) + 1) = true := by simp; omega
      have Hv : Hid (V = false) := Lib.hid (by rw [HD.out, decide_eq_false q2]; simp)
      clear h hp h1 h1p hl q2 HD
      go_enter Tryz.func72, Tryz.ntmps72
      go_wp2_with fail
      go_ret
      exact ⟨by rw [Hv.out]; rfl, b1⟩
theorem scaleV_any (x : SclD) (w : World) (h : SclAt w w.heap.size x) (hl : SclLe x.v) :
    Calls Tryz.prog 72 #[.agg #[.slice x.A x.v.cuts.length x.a, .slice x.B x.v.pts.length x.b, .int .i64 x.v.non]] w fun e w' => e = .returned (.bool (sclB x.v)) ∧ Below w.heap.size w w' := scaleV_all x.v x.A x.B x.a x.b w h.cuts h.pts hl
end Go.Proofs.YtpahcbhikmfamaaGreat
