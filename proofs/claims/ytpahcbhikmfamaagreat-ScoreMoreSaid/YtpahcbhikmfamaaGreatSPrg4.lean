/- Values, points of a scale, by the program. Written by a program. -/
import Derived.Test.YtpahcbhikmfamaaGreatSPrg3
import Derived.Test.YtpahcbhikmfamaaGreatWQ2

namespace Go.Proofs.YtpahcbhikmfamaaGreat
open Go.RowKit Go.Maps

set_option maxHeartbeats 1000000 in
theorem valV1_any (i v : Int) (w : World) :
    Calls Tryz.prog 43 #[.int .i64 i, .int .i64 v] w fun e w' => e = .returned (.bool (valB v)) ∧ Below w.heap.size w w' := by
  by_cases h : v = -1
  · have e1 : (v == -1) = true := by simp [h]
    have Hv : Hid (valB v = true) := Lib.hid (by rw [h]; decide)
    clear h
    go_enter Tryz.func43, Tryz.ntmps43
    go_wp2_with fail
    go_ret
    exact ⟨by rw [Hv.out]; rfl, Below.refl _ _⟩
  · have e1 : (v == -1) = false := by simpa using h
    have Hv : Hid (inN v 0 1000000 = valB v) := Lib.hid (by unfold valB; rw [Bool.eq_iff_iff, inN_iff, inN_iff]; omega)
    have H := Lib.hid (withinP_any v 0 1000000 w)
    rw [Hv.out] at H
    clear h Hv
    go_enter Tryz.func43, Tryz.ntmps43
    go_wp2_with (go_at_call 36; (with_reducible refine (H.out).mono ?_); rintro e w1 ⟨rfl, rfl⟩)
    go_ret
    exact ⟨rfl, Below.refl _ _⟩
set_option maxRecDepth 100000 in
set_option maxHeartbeats 4000000 in
theorem allVal_any (l : List Int) (A : Option Addr) (a : Nat) (P : Nat → Bool) (w : World) (h : IntsAt w w.heap.size A l) (hl : l.length ≤ 1000)
    (HG : Hid (∀ i (_ : i < l.length) W, Below w.heap.size w W → Calls Tryz.prog 43 #[.int .i64 i, .int .i64 l[i]] W fun e w' => e = .returned (.bool (P i)) ∧ Below W.heap.size W w')) :
    Calls Tryz.prog 42 #[.slice A l.length a, .func (.func 43) #[] #[]] w fun e w' => e = .returned (.bool (rangeB l.length P)) ∧ Below w.heap.size w w' := by
  have HE : Hid (rangeB l.length P = rangeB l.length P) := Lib.hid rfl
  generalize hV : rangeB l.length P = V at *
  have HV := Lib.hid hV
  clear hV HE
  go_enter Tryz.func42, Tryz.ntmps42
  go_wp2_with fail
  go_loopw [9] (fun ii wr => ∃ i : Nat, i ≤ l.length ∧ ii = .int .i64 i ∧ Hid ((∀ j, j < i → P j = true) ∧ Below w.heap.size w wr)) (fun ii _ => l.length - (vInt ii).toNat)
  case atStart => exact ⟨0, Nat.zero_le _, rfl, Lib.hid ⟨fun j hj => by omega, Below.refl _ _⟩⟩
  case round =>
    obtain ⟨i, hi, rfl, hR⟩ := hrel
    obtain ⟨hS, hB⟩ := hR.out
    by_cases hlt : i < l.length
    · have hil : (i : Int) < (l.length : Int) := by omega
      obtain ⟨b, off, rfl, hb, c0⟩ := ints_at (h.later hB) hlt
      have HGi := Lib.hid (HG.out i hlt wr hB)
      have hB1 : Below w.heap.size w wr := hB
      cases hv : P i with
      | false =>
        have Hv : Hid (V = false) := Lib.hid (by rw [← HV.out]; exact rangeB_stop hlt hv)
        rw [hv] at HGi
        clear hS hR HG hv h
        generalize l[i] = y at *
        go_wp2_with (go_at_call 43; (with_reducible refine (HGi.out).mono ?_); rintro e w5 ⟨rfl, h5⟩)
        go_ret
        exact ⟨by rw [Hv.out]; rfl, hB1.trans (h5.mono hB1.size)⟩
      | true =>
        have HJ : Hid (∀ j, j < i + 1 → P j = true) := Lib.hid (fun j hj => by
          rcases Nat.lt_or_ge j i with hj2 | hj2
          · exact hS j hj2
          · rw [show j = i by omega]; exact hv)
        rw [hv] at HGi
        clear hS hR hv
        generalize l[i] = y at *
        go_wp2_with (go_at_call 43; (with_reducible refine (HGi.out).mono ?_); rintro e w5 ⟨rfl, h5⟩)
        go_roundw
        case rel => exact ⟨i + 1, by omega, by go_num, Lib.hid ⟨HJ.out, hB1.trans (h5.mono hB1.size)⟩⟩
        case measure => simp [vInt]; omega
    · have hil : ¬ (i : Int) < (l.length : Int) := by omega
      obtain rfl : i = l.length := by omega
      have Hv : Hid (V = true) := Lib.hid (by rw [← HV.out]; exact rangeB_iff.2 hS)
      clear hS hR
      go_wp2_with fail
      go_ret
      exact ⟨by rw [Hv.out]; rfl, hB⟩


set_option maxHeartbeats 1000000 in
theorem valuesV_any (traits need : Int) (C T S : Option Addr) (cl c tl t n s : Nat) (x : List Int) (A : Option Addr) (a : Nat) (w : World) (h : IntsAt w w.heap.size A x) (hl : x.length ≤ 10) :
    Calls Tryz.prog 30 #[.agg #[.int .i64 traits, .slice C cl c, .slice T tl t, .int .i64 need, .slice S n s], .slice A x.length a] w fun e w' => e = .returned (.bool (valsB traits x)) ∧ Below w.heap.size w w' := by
  have b1 := (Below.refl w.heap.size w).alloc (Nat.le_refl _) (.cells #[.int .i64 traits, .slice C cl c, .slice T tl t, .int .i64 need, .slice S n s] 66)
  have k1c := (Blk.new w #[.int .i64 traits, .slice C cl c, .slice T tl t, .int .i64 need, .slice S n s] 66).cell
  have h1 := h.later b1
  have H := Lib.hid (fun W (hb : Below w.heap.size w W) => allVal_any x A a (fun i => valB (x.getD i 0)) W (h.later hb) (by omega) (Lib.hid (fun i hi W _ => by rw [getD_lt x 0 hi]; exact valV1_any i x[i] W)))
  rw [range_all x 0 valB] at H
  by_cases ht : (x.length : Int) = traits
  · have e1 : ((x.length : Int) == traits) = true := by simpa using ht
    have Hv : Hid (x.all valB = valsB traits x) := Lib.hid (by unfold valsB; rw [decide_eq_true ht]; simp)
    rw [Hv.out] at H
    clear ht Hv h h1
    go_enter Tryz.func30, Tryz.ntmps30
    go_wp2_with (go_at_call 42; (with_reducible refine (H.out _ (by first | exact b1 | exact Below.refl _ _)).mono ?_); rintro e w5 ⟨rfl, h5⟩)
    go_ret
    exact ⟨rfl, b1.trans (h5.mono b1.size)⟩
  · have e1 : ((x.length : Int) == traits) = false := by simpa using ht
    have Hv : Hid (valsB traits x = false) := Lib.hid (by unfold valsB; rw [decide_eq_false ht]; rfl)
    clear ht h h1 H
    go_enter Tryz.func30, Tryz.ntmps30
    go_wp2_with fail
    go_ret
    exact ⟨by rw [Hv.out]; rfl, b1⟩
set_option maxHeartbeats 1000000 in
theorem yes_any (traits need : Int) (C T S : Option Addr) (cl c tl t n s : Nat) (z : Int) (w : World) (hn : -1000000 ≤ need ∧ need ≤ 1000000) :
    Calls Tryz.prog 20 #[.agg #[.int .i64 traits, .slice C cl c, .slice T tl t, .int .i64 need, .slice S n s], .int .i64 z] w fun e w' => e = .returned (.bool (decide (1000 * need ≤ z))) ∧ Below w.heap.size w w' := by
  have b1 := (Below.refl w.heap.size w).alloc (Nat.le_refl _) (.cells #[.int .i64 traits, .slice C cl c, .slice T tl t, .int .i64 need, .slice S n s] 66)
  have k1c := (Blk.new w #[.int .i64 traits, .slice C cl c, .slice T tl t, .int .i64 need, .slice S n s] 66).cell
  have hw : IntKind.i64.wrap (need * 1000) = need * 1000 := IntWalk.i64_in _ (by omega)
  have Hv : Hid (decide (need * 1000 ≤ z) = decide (1000 * need ≤ z)) := Lib.hid (by rw [Int.mul_comm])
  go_enter Tryz.func20, Tryz.ntmps20
  go_wp2_with fail
  all_goals go_ret
  all_goals (refine ⟨ret_bool ?_, b1⟩)
  all_goals (rw [← Hv.out])
  all_goals (first | rfl | (symm; simp; omega) | (simp; omega))

theorem cutsB_mono {l : List Int} (h : cutsB l = true) {i j : Nat} (hij : i ≤ j) (hj : j < l.length) : l.getD i 0 ≤ l.getD j 0 := by
  induction j with
  | zero => rw [show i = 0 by omega]; exact Int.le_refl _
  | succ j ih =>
    rcases Nat.lt_or_ge i (j + 1) with h1 | h1
    · have h2 := ih (by omega) (by omega)
      have h3 := rangeB_iff.1 h (j + 1) hj
      rw [cutB, inN_iff, if_neg (by omega), Nat.add_sub_cancel] at h3
      omega
    · rw [show i = j + 1 by omega]; exact Int.le_refl _
theorem cntLe_at {l : List Int} {v : Int} {i : Nat} (hi : i ≤ l.length) (h1 : ∀ j, j < i → l.getD j 0 ≤ v) (h2 : ∀ j, i ≤ j → j < l.length → v < l.getD j 0) : cntLe l v = i := by
  have e : l = l.take i ++ l.drop i := (List.take_append_drop i l).symm
  have f1 : (l.take i).filter (fun c => decide (c ≤ v)) = l.take i := List.filter_eq_self.2 fun c hc => by
    obtain ⟨j, hj, rfl⟩ := List.getElem_of_mem hc
    have hj2 : j < i := by rw [List.length_take] at hj; omega
    have := h1 j hj2
    rw [getD_lt l 0 (by omega)] at this
    simpa using this
  have f2 : (l.drop i).filter (fun c => decide (c ≤ v)) = [] := List.filter_eq_nil_iff.2 fun c hc => by
    obtain ⟨j, hj, rfl⟩ := List.getElem_of_mem hc
    have hj2 : i + j < l.length := by rw [List.length_drop] at hj; omega
    have := h2 (i + j) (by omega) hj2
    rw [getD_lt l 0 hj2] at this
    simpa using this
  unfold cntLe
  rw [e, List.filter_append, f1, f2, List.append_nil, List.length_take]
  omega
set_option maxRecDepth 100000 in
set_option maxHeartbeats 4000000 in
theorem scaleP_all (v : Scl) (A B : Option Addr) (a bb : Nat) (k : Nat) (x : List Int) (X : Option Addr) (xc : Nat) (w : World) (h : IntsAt w w.heap.size A v.cuts) (hp : IntsAt w w.heap.size B v.pts) (hx : IntsAt w w.heap.size X x) (hv : sclB v = true) (hk : k < x.length) (_hxl : x.length ≤ 10) :
    Calls Tryz.prog 130 #[.agg #[.slice A v.cuts.length a, .slice B v.pts.length bb, .int .i64 v.non, .int .i64 k], .slice X x.length xc] w fun e w' => e = .returned (.int .i64 (onScl v (x.getD k 0))) ∧ Below w.heap.size w w' := by
  have b1 := (Below.refl w.heap.size w).alloc (Nat.le_refl _) (.cells #[.slice A v.cuts.length a, .slice B v.pts.length bb, .int .i64 v.non, .int .i64 k] 104)
  have k1 := Blk.new w #[.slice A v.cuts.length a, .slice B v.pts.length bb, .int .i64 v.non, .int .i64 k] 104
  have k1c := k1.cell
  obtain ⟨l1, l2e, _, hC, _⟩ := sclB_iff.1 hv
  have l2 : v.cuts.length < v.pts.length := by omega
  clear l2e
  obtain ⟨bx, offx, rfl, hbx, cx⟩ := ints_at (hx.later b1) hk
  have hki : (k : Int) < (x.length : Int) := by omega
  rw [getD_lt x 0 hk]
  have HV := Lib.hid (fun q => show x[k] = q → onScl v x[k] = onScl v q from fun e => by rw [e])
  generalize x[k] = xv at *
  by_cases hx1 : xv = -1
  · have Hv : Hid (onScl v xv = v.non) := Lib.hid (by unfold onScl; rw [if_pos hx1])
    have e1 : (xv == -1) = true := by simp [hx1]
    clear h hp hx hv hx1 HV hC
    go_enter Tryz.func130, Tryz.ntmps130
    go_wp2_with fail
    go_ret
    exact ⟨by rw [Hv.out]; rfl, b1⟩
  · have HV : Hid (onScl v xv = v.pts.getD (cntLe v.cuts xv) 0) := Lib.hid (by unfold onScl; rw [if_neg hx1])
    have e1 : (xv == -1) = false := by simpa using hx1
    have h1 := h.later b1
    have h1p := hp.later b1
    clear hx1 hv h hp hx
    generalize onScl v xv = V at *
    go_enter Tryz.func130, Tryz.ntmps130
    go_wp2_with fail
    generalize hW1 : w.alloc (.cells #[.slice A v.cuts.length a, .slice B v.pts.length bb, .int .i64 v.non, .int .i64 k] 104) = W1 at *
    clear hW1 k1c
    go_loopw [6] (fun ii wr => ∃ i : Nat, i ≤ v.cuts.length ∧ ii = .int .i64 i ∧ Hid (∀ j, j < i → v.cuts.getD j 0 ≤ xv) ∧ W1 = wr) (fun ii _ => v.cuts.length - (vInt ii).toNat)
    case atStart => exact ⟨0, Nat.zero_le _, rfl, Lib.hid (fun j hj => by omega), rfl⟩
    case round =>
      obtain ⟨i, hi, rfl, hN, rfl⟩ := hrel
      have k1c := k1.cell
      have HE : Hid ((∀ j, i ≤ j → j < v.cuts.length → xv < v.cuts.getD j 0) → V = v.pts.getD i 0) := Lib.hid (fun e => by rw [HV.out, cntLe_at hi hN.out e])
      have hip : i < v.pts.length := by omega
      obtain ⟨b, off, rfl, hb, c0⟩ := ints_at h1p hip
      have hip2 : (i : Int) < (v.pts.length : Int) := by omega
      rw [getD_lt v.pts 0 hip] at HE
      generalize v.pts[i] = pv at *
      by_cases hlt : i < v.cuts.length
      · have hil : (i : Int) < (v.cuts.length : Int) := by omega
        obtain ⟨b2, off2, rfl, hb2, c2⟩ := ints_at h1 hlt
        have hge := getD_lt v.cuts 0 hlt
        by_cases hy : v.cuts[i] ≤ xv
        · have HJ : Hid (∀ j, j < i + 1 → v.cuts.getD j 0 ≤ xv) := Lib.hid (fun j hj => by
            rcases Nat.lt_or_ge j i with h5 | h5
            · exact hN.out j h5
            · rw [show j = i by omega, hge]; exact hy)
          clear hN HE hge
          generalize v.cuts[i] = y at *
          go_wp2_with fail
          go_roundw
          case rel => exact ⟨i + 1, by omega, by go_num, HJ, by first | rfl | trivial⟩
          case measure => simp [vInt]; omega
        · have Hv : Hid (V = pv) := Lib.hid (HE.out fun j h5 h6 => by
            have := cutsB_mono hC h5 h6
            rw [hge] at this
            omega)
          clear hN HE hge
          generalize v.cuts[i] = y at *
          go_wp2_with fail
          go_ret
          exact ⟨by rw [Hv.out]; rfl, b1⟩
      · have hil : ¬ (i : Int) < (v.cuts.length : Int) := by omega
        have Hv : Hid (V = pv) := Lib.hid (HE.out fun j h5 h6 => by omega)
        clear hN HE
        go_wp2_with fail
        go_ret
        exact ⟨by rw [Hv.out]; rfl, b1⟩
theorem scaleP_any (y : SclD) (k : Nat) (x : List Int) (X : Option Addr) (xc : Nat) (w : World) (h : SclAt w w.heap.size y) (hx : IntsAt w w.heap.size X x) (hv : sclB y.v = true) (hk : k < x.length) (hxl : x.length ≤ 10) :
    Calls Tryz.prog 130 #[.agg #[.slice y.A y.v.cuts.length y.a, .slice y.B y.v.pts.length y.b, .int .i64 y.v.non, .int .i64 k], .slice X x.length xc] w fun e w' => e = .returned (.int .i64 (onScl y.v (x.getD k 0))) ∧ Below w.heap.size w w' := scaleP_all y.v y.A y.B y.a y.b k x X xc w h.cuts h.pts hx hv hk hxl

/-- How far it can go from the node that lies in a block. -/
def nodMeas (n : Nat) (w : World) (p : Nat) : Nat :=
  if vInt ((w.cell? ⟨p, 0, none⟩).getD (.bool false)) = -1 then 0
  else n - (min (vInt ((w.cell? ⟨p, 2, none⟩).getD (.bool false))) (vInt ((w.cell? ⟨p, 3, none⟩).getD (.bool false)))).toNat
theorem nodMeas_eq {n : Nat} {w : World} {p : Nat} {y : Nod} {t : TypeId} (h : Blk w p #[.int .i64 y.tr, .int .i64 y.cut, .int .i64 y.low, .int .i64 y.high, .int .i64 y.pts] t) : nodMeas n w p = if y.tr = -1 then 0 else n - (min y.low y.high).toNat := by
  unfold nodMeas
  rw [h.cell, h.cell, h.cell]
  rfl
theorem nod_put {w : World} {g : Nat} {a0 a1 a2 a3 a4 c0 c1 c2 c3 c4 : Value} {t : TypeId} (h : Blk w g #[a0, a1, a2, a3, a4] t) : Blk (((((w.setCell ⟨g, 0, none⟩ c0).setCell ⟨g, 1, none⟩ c1).setCell ⟨g, 2, none⟩ c2).setCell ⟨g, 3, none⟩ c3).setCell ⟨g, 4, none⟩ c4) g #[c0, c1, c2, c3, c4] t := by
  have := ((((h.set 0 c0).set 1 c1).set 2 c2).set 3 c3).set 4 c4
  simpa using this
set_option maxRecDepth 100000 in
set_option maxHeartbeats 4000000 in
theorem treeP_all (wt : Int) (l : List Nod) (T : Option Addr) (t : Nat) (x : List Int) (A : Option Addr) (a : Nat) (w : World) (h : NodsAt w w.heap.size T l) (hx : IntsAt w w.heap.size A x) (hv : ∀ i, i < l.length → nodB l.length x.length i (l.getD i default) = true) (hl : 1 ≤ l.length) (hl2 : l.length ≤ 20) (_hxl : x.length ≤ 10) :
    Calls Tryz.prog 129 #[.agg #[.int .i64 wt, .slice T l.length t], .slice A x.length a] w fun e w' => e = .returned (.int .i64 (onTre ⟨wt, l⟩ x)) ∧ Below w.heap.size w w' := by
  have b1 := (Below.refl w.heap.size w).alloc (Nat.le_refl _) (.cells #[.int .i64 wt, .slice T l.length t] 87)
  have k1 := Blk.new w #[.int .i64 wt, .slice T l.length t] 87
  have g1 := k1.lt
  have k1c := k1.cell
  have HV : Hid (onTre ⟨wt, l⟩ x = treGo l x l.length 0) := Lib.hid rfl
  have h1 := h.later b1
  have h1x := hx.later b1
  clear h hx
  generalize onTre ⟨wt, l⟩ x = V at *
  obtain ⟨b, off, rfl, hb, c0, c1, c2, c3, c4⟩ := nods_at h1 (show 0 < l.length by omega)
  have hil0 : (0 : Int) < (l.length : Int) := by omega
  have hge0 := getD_lt l default (show 0 < l.length by omega)
  rw [Nat.zero_mul, Nat.add_zero] at c0 c1 c2 c3 c4
  have HY : Hid (l[0] = l.getD 0 default) := Lib.hid hge0.symm
  generalize l[0]'(by omega) = y at *
  go_enter Tryz.func129, Tryz.ntmps129
  go_wp2_with fail
  generalize hW1 : w.alloc (.cells #[.int .i64 wt, .slice (some ⟨b, off, none⟩) l.length t] 87) = W1 at *
  have hs1 : W1.heap.size = w.heap.size + 1 := by rw [← hW1]; simp
  have k2 := Blk.new W1 #[.int .i64 y.tr, .int .i64 y.cut, .int .i64 y.low, .int .i64 y.high, .int .i64 y.pts] 48
  rw [hs1] at k2
  have b2 := (Below.refl W1.heap.size W1).alloc (Nat.le_refl _) (.cells #[.int .i64 y.tr, .int .i64 y.cut, .int .i64 y.low, .int .i64 y.high, .int .i64 y.pts] 48)
  clear hW1 k1c c0 c1 c2 c3 c4 hb
  generalize W1.alloc (.cells #[.int .i64 y.tr, .int .i64 y.cut, .int .i64 y.low, .int .i64 y.high, .int .i64 y.pts] 48) = W2 at *
  go_loopw [] (fun wr => ∃ (i : Nat) (_ : i < l.length), Hid (Blk wr (w.heap.size + 1) #[.int .i64 (l.getD i default).tr, .int .i64 (l.getD i default).cut, .int .i64 (l.getD i default).low, .int .i64 (l.getD i default).high, .int .i64 (l.getD i default).pts] 48) ∧ Hid ((∃ f, treGo l x f i = V ∧ l.length ≤ i + f) ∧ Below W1.heap.size W1 wr)) (fun wr => nodMeas l.length wr (w.heap.size + 1))
  case atStart => exact ⟨0, by omega, Lib.hid (by rw [hge0]; exact k2), Lib.hid ⟨⟨l.length, HV.out.symm, by omega⟩, b2⟩⟩
  case round =>
    obtain ⟨i, hlt, HK, hR⟩ := hrel
    have kn := HK.out
    obtain ⟨⟨f0, hf, hfl⟩, hB⟩ := hR.out
    have k1r := k1.below hB g1
    have k1c := k1r.cell
    have knc := kn.cell
    have hil : (i : Int) < (l.length : Int) := by omega
    have hnv := hv i hlt
    have hge := getD_lt l default hlt
    have hm := nodMeas_eq (n := l.length) kn
    obtain ⟨f, rfl⟩ : ∃ f, f0 = f + 1 := ⟨f0 - 1, by omega⟩
    by_cases ht : (l.getD i default).tr = -1
    · have e1 : ((l.getD i default).tr != -1) = false := by rw [ht]; rfl
      have Hv : Hid (V = (l.getD i default).pts) := Lib.hid (by rw [← hf, treGo_leaf ht])
      clear hf hge hnv hR ht HV hm HK
      generalize l.getD i default = y at *
      go_wp2_with fail
      go_ret
      exact ⟨by rw [Hv.out]; rfl, b1.trans (hB.mono b1.size)⟩
    · have e1 : ((l.getD i default).tr != -1) = true := by simpa using ht
      obtain ⟨n1, n2, n3, n4, n5, n6⟩ := nodB_inner hnv ht
      have HF : Hid (V = if x.getD (l.getD i default).tr.toNat 0 < (l.getD i default).cut then treGo l x f (l.getD i default).low.toNat else treGo l x f (l.getD i default).high.toNat) := Lib.hid (by rw [← hf, treGo_node ht])
      rw [if_neg ht] at hm
      clear hf hge hnv hR ht HV HK HY hge0
      generalize l.getD i default = y at *
      obtain ⟨tr, cut, low, high, pts⟩ := y
      dsimp only at *
      obtain ⟨tn, rfl⟩ := Int.eq_ofNat_of_zero_le n1
      obtain ⟨ln, rfl⟩ := Int.eq_ofNat_of_zero_le (show 0 ≤ low by omega)
      obtain ⟨hn, rfl⟩ := Int.eq_ofNat_of_zero_le (show 0 ≤ high by omega)
      rw [Int.toNat_natCast, Int.toNat_natCast, Int.toNat_natCast] at HF
      have htx : tn < x.length := by omega
      obtain ⟨bx, offx, rfl, hbx, cx⟩ := ints_at (h1x.later hB) htx
      rw [getD_lt x 0 htx] at HF
      have hbxn := cx
      generalize x[tn] = xv at *
      have k1a := After.cells (B := wr.heap.size) k1r.cell k1r.lt
      have kna := After.cells (B := wr.heap.size) kn.cell kn.lt
      have dx := After.cell (B := wr.heap.size) cx hbx
      by_cases hlc : xv < cut
      · have HJ : Hid (treGo l x f ln = V) := Lib.hid (by rw [HF.out, if_pos hlc])
        obtain ⟨b5, off5, hT5, hb5, c0, c1, c2, c3, c4⟩ := nods_at (h1.later hB) (show ln < l.length by omega)
        obtain ⟨rfl, rfl⟩ : b5 = b ∧ off5 = off := by
          simp only [Option.some.injEq, Addr.mk.injEq, and_true] at hT5
          exact ⟨hT5.1.symm, hT5.2.symm⟩
        have hxn : (ln : Int) < (l.length : Int) := by omega
        have HY2 : Hid (l[ln] = l.getD ln default) := Lib.hid (getD_lt l default (by omega)).symm
        generalize l[ln]'(by omega) = y2 at *
        clear HF hT5
        go_upto_region 3 with fail
        refine wp_region_class_lit (C := fun w' => ∃ z : After wr.heap.size wr, w' = z.val) (by kernel_rfl) (by kernel_rfl) ⟨⟨_, (Below.refl _ _).drew⟩, rfl⟩ ?_
        repeat (go_big_quiet_step (fail))
        refine wpQuiet_nil ?_
        intro wq hw'
        obtain ⟨⟨wz, hz⟩, hw''⟩ := hw'
        dsimp only at hw''
        subst hw''
        have kq := kn.below hz kn.lt
        have kqc := kq.cell
        have k1q := (k1r.below hz k1r.lt).cell
        have e0 := (hz.cell (p := ⟨b5, off5 + ln * 5, none⟩) hb5).trans c0
        have e1 := (hz.cell (p := ⟨b5, off5 + ln * 5 + 1, none⟩) hb5).trans c1
        have e2 := (hz.cell (p := ⟨b5, off5 + ln * 5 + 2, none⟩) hb5).trans c2
        have e3 := (hz.cell (p := ⟨b5, off5 + ln * 5 + 3, none⟩) hb5).trans c3
        have e4 := (hz.cell (p := ⟨b5, off5 + ln * 5 + 4, none⟩) hb5).trans c4
        have z0 := kq.free 0
        have z1 := kq.free 1
        have z2 := kq.free 2
        have z3 := kq.free 3
        have z4 := kq.free 4
        go_wp2_with fail
        have hq2 := nod_put (c0 := .int .i64 y2.tr) (c1 := .int .i64 y2.cut) (c2 := .int .i64 y2.low) (c3 := .int .i64 y2.high) (c4 := .int .i64 y2.pts) kq
        refine ⟨⟨ln, by omega, Lib.hid (by rw [← HY2.out]; exact hq2), Lib.hid ⟨⟨f, HJ.out, by omega⟩, (((((hB.trans (hz.mono hB.size)).setCell (p := ⟨w.heap.size + 1, 0, none⟩) (by simp; omega) _).setCell (p := ⟨w.heap.size + 1, 1, none⟩) (by simp; omega) _).setCell (p := ⟨w.heap.size + 1, 2, none⟩) (by simp; omega) _).setCell (p := ⟨w.heap.size + 1, 3, none⟩) (by simp; omega) _).setCell (p := ⟨w.heap.size + 1, 4, none⟩) (by simp; omega) _⟩⟩, ?_⟩
        rw [hm, nodMeas_eq hq2]
        have hv3 := hv ln (by omega)
        rw [← HY2.out] at hv3
        split
        · omega
        · next ht3 =>
          have n7 := nodB_inner hv3 ht3
          omega
      · have HJ : Hid (treGo l x f hn = V) := Lib.hid (by rw [HF.out, if_neg hlc])
        obtain ⟨b5, off5, hT5, hb5, c0, c1, c2, c3, c4⟩ := nods_at (h1.later hB) (show hn < l.length by omega)
        obtain ⟨rfl, rfl⟩ : b5 = b ∧ off5 = off := by
          simp only [Option.some.injEq, Addr.mk.injEq, and_true] at hT5
          exact ⟨hT5.1.symm, hT5.2.symm⟩
        have hxn : (hn : Int) < (l.length : Int) := by omega
        have HY2 : Hid (l[hn] = l.getD hn default) := Lib.hid (getD_lt l default (by omega)).symm
        generalize l[hn]'(by omega) = y2 at *
        clear HF hT5
        go_upto_region 3 with fail
        refine wp_region_class_lit (C := fun w' => ∃ z : After wr.heap.size wr, w' = z.val) (by kernel_rfl) (by kernel_rfl) ⟨⟨_, (Below.refl _ _).drew⟩, rfl⟩ ?_
        repeat (go_big_quiet_step (fail))
        refine wpQuiet_nil ?_
        intro wq hw'
        obtain ⟨⟨wz, hz⟩, hw''⟩ := hw'
        dsimp only at hw''
        subst hw''
        have kq := kn.below hz kn.lt
        have kqc := kq.cell
        have k1q := (k1r.below hz k1r.lt).cell
        have e0 := (hz.cell (p := ⟨b5, off5 + hn * 5, none⟩) hb5).trans c0
        have e1 := (hz.cell (p := ⟨b5, off5 + hn * 5 + 1, none⟩) hb5).trans c1
        have e2 := (hz.cell (p := ⟨b5, off5 + hn * 5 + 2, none⟩) hb5).trans c2
        have e3 := (hz.cell (p := ⟨b5, off5 + hn * 5 + 3, none⟩) hb5).trans c3
        have e4 := (hz.cell (p := ⟨b5, off5 + hn * 5 + 4, none⟩) hb5).trans c4
        have z0 := kq.free 0
        have z1 := kq.free 1
        have z2 := kq.free 2
        have z3 := kq.free 3
        have z4 := kq.free 4
        go_wp2_with fail
        have hq2 := nod_put (c0 := .int .i64 y2.tr) (c1 := .int .i64 y2.cut) (c2 := .int .i64 y2.low) (c3 := .int .i64 y2.high) (c4 := .int .i64 y2.pts) kq
        refine ⟨⟨hn, by omega, Lib.hid (by rw [← HY2.out]; exact hq2), Lib.hid ⟨⟨f, HJ.out, by omega⟩, (((((hB.trans (hz.mono hB.size)).setCell (p := ⟨w.heap.size + 1, 0, none⟩) (by simp; omega) _).setCell (p := ⟨w.heap.size + 1, 1, none⟩) (by simp; omega) _).setCell (p := ⟨w.heap.size + 1, 2, none⟩) (by simp; omega) _).setCell (p := ⟨w.heap.size + 1, 3, none⟩) (by simp; omega) _).setCell (p := ⟨w.heap.size + 1, 4, none⟩) (by simp; omega) _⟩⟩, ?_⟩
        rw [hm, nodMeas_eq hq2]
        have hv3 := hv hn (by omega)
        rw [← HY2.out] at hv3
        split
        · omega
        · next ht3 =>
          have n7 := nodB_inner hv3 ht3
          omega
theorem treeP_any (y : TreD) (x : List Int) (A : Option Addr) (a : Nat) (w : World) (h : NodsAt w w.heap.size y.T y.v.nodes) (hx : IntsAt w w.heap.size A x) (hv : treB x.length y.v = true) (hxl : x.length ≤ 10) :
    Calls Tryz.prog 129 #[.agg #[.int .i64 y.v.weight, .slice y.T y.v.nodes.length y.t], .slice A x.length a] w fun e w' => e = .returned (.int .i64 (onTre y.v x)) ∧ Below w.heap.size w w' := by
  unfold treB at hv
  simp only [Bool.and_eq_true, inN_iff, rangeB_iff] at hv
  exact treeP_all y.v.weight y.v.nodes y.T y.t x A a w h hx hv.2 (by omega) (by omega) hxl
end Go.Proofs.YtpahcbhikmfamaaGreat
