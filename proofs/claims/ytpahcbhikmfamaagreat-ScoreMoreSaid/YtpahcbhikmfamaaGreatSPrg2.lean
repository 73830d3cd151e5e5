/- Cards and trees, by the program: whether they are valid. Written by a program. -/
import Derived.Test.YtpahcbhikmfamaaGreatSPrg1
import Derived.Test.YtpahcbhikmfamaaGreatSRef3
import Derived.Laws.StructEq

namespace Go.Proofs.YtpahcbhikmfamaaGreat
open Go.RowKit Go.Maps

set_option maxHeartbeats 1000000 in
theorem cardV1_any (i : Int) (y : SclD) (w : World) (h : SclAt w w.heap.size y) (hl : SclLe y.v) :
    Calls Tryz.prog 71 #[.int .i64 i, .agg #[.slice y.A y.v.cuts.length y.a, .slice y.B y.v.pts.length y.b, .int .i64 y.v.non]] w fun e w' => e = .returned (.bool (sclB y.v)) ∧ Below w.heap.size w w' := by
  have b1 := (Below.refl w.heap.size w).alloc (Nat.le_refl _) (.cells #[.slice y.A y.v.cuts.length y.a, .slice y.B y.v.pts.length y.b, .int .i64 y.v.non] 42)
  have k1c := (Blk.new w #[.slice y.A y.v.cuts.length y.a, .slice y.B y.v.pts.length y.b, .int .i64 y.v.non] 42).cell
  have H := Lib.hid (scaleV_any y _ (h.later b1) hl)
  clear h hl
  generalize sclB y.v = V at *
  go_enter Tryz.func71, Tryz.ntmps71
  go_wp2_with (go_at_call 72; (with_reducible refine (H.out).mono ?_); rintro e w5 ⟨rfl, h5⟩)
  go_ret
  exact ⟨rfl, b1.trans (h5.mono b1.size)⟩
set_option maxRecDepth 100000 in
set_option maxHeartbeats 4000000 in
theorem allScl_any (l : List SclD) (A : Option Addr) (a : Nat) (P : Nat → Bool) (w : World) (h : Flat 3 sclC w w.heap.size A l) (hl : l.length ≤ 1000)
    (HG : Hid (∀ i (_ : i < l.length) W, Below w.heap.size w W → Calls Tryz.prog 71 #[.int .i64 i, .agg #[.slice l[i].A l[i].v.cuts.length l[i].a, .slice l[i].B l[i].v.pts.length l[i].b, .int .i64 l[i].v.non]] W fun e w' => e = .returned (.bool (P i)) ∧ Below W.heap.size W w')) :
    Calls Tryz.prog 70 #[.slice A l.length a, .func (.func 71) #[] #[]] w fun e w' => e = .returned (.bool (rangeB l.length P)) ∧ Below w.heap.size w w' := by
  have HE : Hid (rangeB l.length P = rangeB l.length P) := Lib.hid rfl
  generalize hV : rangeB l.length P = V at *
  have HV := Lib.hid hV
  clear hV HE
  go_enter Tryz.func70, Tryz.ntmps70
  go_wp2_with fail
  go_loopw [9] (fun ii wr => ∃ i : Nat, i ≤ l.length ∧ ii = .int .i64 i ∧ Hid ((∀ j, j < i → P j = true) ∧ Below w.heap.size w wr)) (fun ii _ => l.length - (vInt ii).toNat)
  case atStart => exact ⟨0, Nat.zero_le _, rfl, Lib.hid ⟨fun j hj => by omega, Below.refl _ _⟩⟩
  case round =>
    obtain ⟨i, hi, rfl, hR⟩ := hrel
    obtain ⟨hS, hB⟩ := hR.out
    by_cases hlt : i < l.length
    · have hil : (i : Int) < (l.length : Int) := by omega
      obtain ⟨b, off, rfl, hb, c0, c1, c2⟩ := scls_at (h.later hB) hlt
      have HGi := Lib.hid (HG.out i hlt (wr.alloc (.cells #[.slice l[i].A l[i].v.cuts.length l[i].a, .slice l[i].B l[i].v.pts.length l[i].b, .int .i64 l[i].v.non] 42)) (hB.alloc hB.size (.cells #[.slice l[i].A l[i].v.cuts.length l[i].a, .slice l[i].B l[i].v.pts.length l[i].b, .int .i64 l[i].v.non] 42)))
      have hB1 : Below w.heap.size w (wr.alloc (.cells #[.slice l[i].A l[i].v.cuts.length l[i].a, .slice l[i].B l[i].v.pts.length l[i].b, .int .i64 l[i].v.non] 42)) := (hB.alloc hB.size (.cells #[.slice l[i].A l[i].v.cuts.length l[i].a, .slice l[i].B l[i].v.pts.length l[i].b, .int .i64 l[i].v.non] 42))
      cases hv : P i with
      | false =>
        have Hv : Hid (V = false) := Lib.hid (by rw [← HV.out]; exact rangeB_stop hlt hv)
        rw [hv] at HGi
        clear hS hR HG hv h
        generalize l[i] = y at *
        have knc := (Blk.new wr #[.slice y.A y.v.cuts.length y.a, .slice y.B y.v.pts.length y.b, .int .i64 y.v.non] 42).cell
        go_wp2_with (go_at_call 71; (with_reducible refine (HGi.out).mono ?_); rintro e w5 ⟨rfl, h5⟩)
        go_ret
        exact ⟨by rw [Hv.out]; rfl, hB1.trans (h5.mono hB1.size)⟩
      | true =>
        have HJ : Hid (∀ j, j < i + 1 → P j = true) := Lib.hid (fun j hj => by
          rcases Nat.lt_or_ge j i with hj2 | hj2
          · exact hS j hj2
          · rw [show j = i by omega]; exact hv)
        rw [hv] at HGi
        clear hS hR hv
        generalize l[i] = y at *
        have knc := (Blk.new wr #[.slice y.A y.v.cuts.length y.a, .slice y.B y.v.pts.length y.b, .int .i64 y.v.non] 42).cell
        go_wp2_with (go_at_call 71; (with_reducible refine (HGi.out).mono ?_); rintro e w5 ⟨rfl, h5⟩)
        go_roundw
        case rel => exact ⟨i + 1, by omega, by go_num, Lib.hid ⟨HJ.out, hB1.trans (h5.mono hB1.size)⟩⟩
        case measure => simp [vInt]; omega
    · have hil : ¬ (i : Int) < (l.length : Int) := by omega
      obtain rfl : i = l.length := by omega
      have Hv : Hid (V = true) := Lib.hid (by rw [← HV.out]; exact rangeB_iff.2 hS)
      clear hS hR
      go_wp2_with fail
      go_ret
      exact ⟨by rw [Hv.out]; rfl, hB⟩


set_option maxRecDepth 100000 in
set_option maxHeartbeats 4000000 in
theorem cardV_all (wt base : Int) (l : List SclD) (S : Option Addr) (s : Nat) (traits : Int) (w : World) (h : SclsAt w w.heap.size S l) (hl : l.length ≤ 10) (hls : ∀ y ∈ l, SclLe y.v) :
    Calls Tryz.prog 58 #[.agg #[.int .i64 wt, .int .i64 base, .slice S l.length s], .int .i64 traits] w fun e w' => e = .returned (.bool (crdB traits ⟨wt, base, l.map SclD.v⟩)) ∧ Below w.heap.size w w' := by
  have b1 := (Below.refl w.heap.size w).alloc (Nat.le_refl _) (.cells #[.int .i64 wt, .int .i64 base, .slice S l.length s] 37)
  have k1 := Blk.new w #[.int .i64 wt, .int .i64 base, .slice S l.length s] 37
  have g1 := k1.lt
  have k1c := k1.cell
  have HW := Lib.hid (fun W => withinP_any wt 0 1000 W)
  have HP := Lib.hid (fun t => pointV_any base t (w.alloc (.cells #[.int .i64 wt, .int .i64 base, .slice S l.length s] 37)))
  have HA := Lib.hid (fun W hb => allScl_any l S s (fun i => sclB (l.getD i default).v) W (h.later (w' := W) hb).row (by omega) (Lib.hid (fun i hi W2 hb2 => by rw [getD_lt l default hi]; exact cardV1_any i l[i] W2 (((h.later hb).later hb2).each _ (List.getElem_mem hi)) (hls _ (List.getElem_mem hi)))))
  rw [range_all l default (fun y : SclD => sclB y.v)] at HA
  have HD : Hid (crdB traits ⟨wt, base, l.map SclD.v⟩ = (inN wt 0 1000 && ptB base && decide ((l.length : Int) = traits) && l.all (fun y => sclB y.v))) := Lib.hid (by unfold crdB; simp [List.all_map, Function.comp_def])
  clear h hls
  generalize crdB traits ⟨wt, base, l.map SclD.v⟩ = V at *
  generalize l.all (fun y : SclD => sclB y.v) = al at *
  cases q1 : inN wt 0 1000 with
  | false =>
    have Hv : Hid (V = false) := Lib.hid (by rw [HD.out, q1]; rfl)
    rw [q1] at HW
    clear HD q1 HP HA
    go_enter Tryz.func58, Tryz.ntmps58
    go_upto_region 1 with fail
    generalize hW1 : w.alloc (.cells #[.int .i64 wt, .int .i64 base, .slice S l.length s] 37) = W1 at *
    clear hW1
    go_wp2_with (go_at_call 36; (with_reducible refine (HW.out _).mono ?_); rintro e w1 ⟨rfl, rfl⟩)
    go_ret
    exact ⟨by rw [Hv.out]; rfl, b1⟩
  | true =>
    rw [q1] at HW
    cases q2 : ptB base with
    | false =>
      have Hv : Hid (V = false) := Lib.hid (by rw [HD.out, q1, q2]; rfl)
      rw [q2] at HP
      clear HD q1 q2 HA
      go_enter Tryz.func58, Tryz.ntmps58
      go_upto_region 1 with fail
      generalize hW1 : w.alloc (.cells #[.int .i64 wt, .int .i64 base, .slice S l.length s] 37) = W1 at *
      clear hW1
      go_wp2_with (first
        | (go_at_call 36; (with_reducible refine (HW.out _).mono ?_); rintro e w1 ⟨rfl, rfl⟩)
        | (go_at_call 55; (with_reducible refine (HP.out _).mono ?_); rintro e w5 ⟨rfl, h5⟩))
      go_ret
      exact ⟨by rw [Hv.out]; rfl, b1.trans (h5.mono b1.size)⟩
    | true =>
      rw [q2] at HP
      by_cases q3 : (l.length : Int) = traits
      · have Hv : Hid (V = al) := Lib.hid (by rw [HD.out, q1, q2, decide_eq_true q3]; simp)
        subst q3
        clear q1 q2 HD
        go_enter Tryz.func58, Tryz.ntmps58
        go_upto_region 1 with fail
        generalize hW1 : w.alloc (.cells #[.int .i64 wt, .int .i64 base, .slice S l.length s] 37) = W1 at *
        clear hW1
        go_wp2_with (first
          | (go_at_call 36; (with_reducible refine (HW.out _).mono ?_); rintro e w1 ⟨rfl, rfl⟩)
          | (go_at_call 55; (with_reducible refine (HP.out _).mono ?_); rintro e w5 ⟨rfl, h5⟩; have k5c := (k1.below h5 g1).cell; have b5 := b1.trans (h5.mono b1.size))
          | (go_at_call 70; (with_reducible refine (HA.out _ b5).mono ?_); rintro e w6 ⟨rfl, h6⟩))
        go_ret
        exact ⟨by rw [Hv.out]; rfl, b5.trans (h6.mono b5.size)⟩
      · have Hv : Hid (V = false) := Lib.hid (by rw [HD.out, decide_eq_false q3]; simp)
        have q3' : ((l.length : Int) == traits) = false := by simpa using q3
        clear HD q1 q2 q3 HA
        go_enter Tryz.func58, Tryz.ntmps58
        go_upto_region 1 with fail
        generalize hW1 : w.alloc (.cells #[.int .i64 wt, .int .i64 base, .slice S l.length s] 37) = W1 at *
        clear hW1
        go_wp2_with (first
          | (go_at_call 36; (with_reducible refine (HW.out _).mono ?_); rintro e w1 ⟨rfl, rfl⟩)
          | (go_at_call 55; (with_reducible refine (HP.out _).mono ?_); rintro e w5 ⟨rfl, h5⟩; have k5c := (k1.below h5 g1).cell))
        go_ret
        exact ⟨by rw [Hv.out]; rfl, b1.trans (h5.mono b1.size)⟩
theorem cardV_any (x : CrdD) (traits : Int) (w : World) (h : SclsAt w w.heap.size x.S x.scales) (hl : x.scales.length ≤ 10) (hls : ∀ y ∈ x.scales, SclLe y.v) :
    Calls Tryz.prog 58 #[.agg #[.int .i64 x.weight, .int .i64 x.base, .slice x.S x.scales.length x.s], .int .i64 traits] w fun e w' => e = .returned (.bool (crdB traits x.v)) ∧ Below w.heap.size w w' := cardV_all x.weight x.base x.scales x.S x.s traits w h hl hls

set_option maxRecDepth 100000 in
set_option maxHeartbeats 4000000 in
theorem nodeV_all (tr cut low high pts next last traits : Int) (w : World) (ht : 1 ≤ traits ∧ traits ≤ 5) :
    Calls Tryz.prog 75 #[.agg #[.int .i64 tr, .int .i64 cut, .int .i64 low, .int .i64 high, .int .i64 pts], .int .i64 next, .int .i64 last, .int .i64 traits] w fun e w' => e = .returned (.bool (if tr = -1 then decide (cut = 0) && decide (low = 0) && decide (high = 0) && ptB pts else inN tr 0 (traits - 1) && inN cut 1 1000000 && inN low next last && inN high next last && decide (low ≠ high) && decide (pts = 0))) ∧ Below w.heap.size w w' := by
  have b1 := (Below.refl w.heap.size w).alloc (Nat.le_refl _) (.cells #[.int .i64 tr, .int .i64 cut, .int .i64 low, .int .i64 high, .int .i64 pts] 48)
  have k1c := (Blk.new w #[.int .i64 tr, .int .i64 cut, .int .i64 low, .int .i64 high, .int .i64 pts] 48).cell
  obtain ⟨W1, hW1⟩ : ∃ z, w.alloc (.cells #[.int .i64 tr, .int .i64 cut, .int .i64 low, .int .i64 high, .int .i64 pts] 48) = z := ⟨_, rfl⟩
  rw [hW1] at b1 k1c
  have hzt : IntKind.i64.wrap (traits - 1) = traits - 1 := IntWalk.i64_in _ (by omega)
  have HP := Lib.hid (fun t W => pointV_any pts t W)
  by_cases q : tr = -1
  · have HD : Hid ((if tr = -1 then decide (cut = 0) && decide (low = 0) && decide (high = 0) && ptB pts else inN tr 0 (traits - 1) && inN cut 1 1000000 && inN low next last && inN high next last && decide (low ≠ high) && decide (pts = 0)) = (decide (cut = 0) && decide (low = 0) && decide (high = 0) && ptB pts)) := Lib.hid (if_pos q)
    generalize (if tr = -1 then decide (cut = 0) && decide (low = 0) && decide (high = 0) && ptB pts else inN tr 0 (traits - 1) && inN cut 1 1000000 && inN low next last && inN high next last && decide (low ≠ high) && decide (pts = 0)) = V at *
    subst q
    by_cases hc0 : cut = 0
    · subst hc0
      by_cases hc1 : low = 0
      · subst hc1
        by_cases hc2 : high = 0
        · subst hc2
          have Hv : Hid (V = ptB pts) := Lib.hid (by rw [HD.out]; simp)
          clear HD
          go_enter Tryz.func75, Tryz.ntmps75
          go_upto_region 1 with fail
          (try rw [hW1])
          clear hW1
          go_wp2_with (go_at_call 55; (with_reducible refine (HP.out _ _).mono ?_); rintro e w5 ⟨rfl, h5⟩)
          go_ret
          exact ⟨by rw [Hv.out]; rfl, b1.trans (h5.mono b1.size)⟩
        · have f2 : (high == 0) = false := by simpa using hc2
          have Hv : Hid (V = false) := Lib.hid (by rw [HD.out, decide_eq_false hc2]; simp)
          clear HD HP
          go_enter Tryz.func75, Tryz.ntmps75
          go_upto_region 1 with fail
          (try rw [hW1])
          clear hW1
          go_wp2_with fail
          go_ret
          exact ⟨by rw [Hv.out]; rfl, b1⟩
      · have f1 : (low == 0) = false := by simpa using hc1
        have Hv : Hid (V = false) := Lib.hid (by rw [HD.out, decide_eq_false hc1]; simp)
        clear HD HP
        go_enter Tryz.func75, Tryz.ntmps75
        go_upto_region 1 with fail
        (try rw [hW1])
        clear hW1
        go_wp2_with fail
        go_ret
        exact ⟨by rw [Hv.out]; rfl, b1⟩
    · have f0 : (cut == 0) = false := by simpa using hc0
      have Hv : Hid (V = false) := Lib.hid (by rw [HD.out, decide_eq_false hc0]; simp)
      clear HD HP
      go_enter Tryz.func75, Tryz.ntmps75
      go_upto_region 1 with fail
      (try rw [hW1])
      clear hW1
      go_wp2_with fail
      go_ret
      exact ⟨by rw [Hv.out]; rfl, b1⟩
  · have HD : Hid ((if tr = -1 then decide (cut = 0) && decide (low = 0) && decide (high = 0) && ptB pts else inN tr 0 (traits - 1) && inN cut 1 1000000 && inN low next last && inN high next last && decide (low ≠ high) && decide (pts = 0)) = (inN tr 0 (traits - 1) && inN cut 1 1000000 && inN low next last && inN high next last && decide (low ≠ high) && decide (pts = 0))) := Lib.hid (if_neg q)
    have e1 : (tr == -1) = false := by simpa using q
    generalize (if tr = -1 then decide (cut = 0) && decide (low = 0) && decide (high = 0) && ptB pts else inN tr 0 (traits - 1) && inN cut 1 1000000 && inN low next last && inN high next last && decide (low ≠ high) && decide (pts = 0)) = V at *
    have HT := Lib.hid (fun W => withinP_any tr 0 (traits - 1) W)
    have HC := Lib.hid (fun W => withinP_any cut 1 1000000 W)
    have HL := Lib.hid (fun W => withinP_any low next last W)
    have HH := Lib.hid (fun W => withinP_any high next last W)
    clear q HP
    by_cases hc0 : inN tr 0 (traits - 1) = true
    · rw [hc0] at HT
      by_cases hc1 : inN cut 1 1000000 = true
      · rw [hc1] at HC
        by_cases hc2 : inN low next last = true
        · rw [hc2] at HL
          by_cases hc3 : inN high next last = true
          · rw [hc3] at HH
            by_cases hc4 : low = high
            · subst hc4
              have Hv : Hid (V = false) := Lib.hid (by rw [HD.out, decide_eq_false (p := low ≠ low) (fun e => e rfl)]; simp)
              clear HD
              go_enter Tryz.func75, Tryz.ntmps75
              go_upto_region 1 with fail
              (try rw [hW1])
              clear hW1
              go_wp2_with (first
                | (go_at_call 36; (with_reducible refine (HT.out _).mono ?_); rintro e w1 ⟨rfl, rfl⟩)
                | (go_at_call 36; (with_reducible refine (HC.out _).mono ?_); rintro e w1 ⟨rfl, rfl⟩)
                | (go_at_call 36; (with_reducible refine (HL.out _).mono ?_); rintro e w1 ⟨rfl, rfl⟩)
                | (go_at_call 36; (with_reducible refine (HH.out _).mono ?_); rintro e w1 ⟨rfl, rfl⟩))
              all_goals (try (exfalso; omega))
              go_ret
              exact ⟨by rw [Hv.out]; rfl, b1⟩
            · have f4 : (low != high) = true := by simpa using hc4
              by_cases hc5 : pts = 0
              · subst hc5
                have Hv : Hid (V = true) := Lib.hid (by rw [HD.out, hc0, hc1, hc2, hc3, decide_eq_true (p := low ≠ high) hc4]; rfl)
                clear HD
                go_enter Tryz.func75, Tryz.ntmps75
                go_upto_region 1 with fail
                (try rw [hW1])
                clear hW1
                go_wp2_with (first
                  | (go_at_call 36; (with_reducible refine (HT.out _).mono ?_); rintro e w1 ⟨rfl, rfl⟩)
                  | (go_at_call 36; (with_reducible refine (HC.out _).mono ?_); rintro e w1 ⟨rfl, rfl⟩)
                  | (go_at_call 36; (with_reducible refine (HL.out _).mono ?_); rintro e w1 ⟨rfl, rfl⟩)
                  | (go_at_call 36; (with_reducible refine (HH.out _).mono ?_); rintro e w1 ⟨rfl, rfl⟩))
                all_goals (try (exfalso; omega))
                go_ret
                exact ⟨by rw [Hv.out]; rfl, b1⟩
              · have f5 : (pts == 0) = false := by simpa using hc5
                have Hv : Hid (V = false) := Lib.hid (by rw [HD.out, decide_eq_false hc5]; simp)
                clear HD
                go_enter Tryz.func75, Tryz.ntmps75
                go_upto_region 1 with fail
                (try rw [hW1])
                clear hW1
                go_wp2_with (first
                  | (go_at_call 36; (with_reducible refine (HT.out _).mono ?_); rintro e w1 ⟨rfl, rfl⟩)
                  | (go_at_call 36; (with_reducible refine (HC.out _).mono ?_); rintro e w1 ⟨rfl, rfl⟩)
                  | (go_at_call 36; (with_reducible refine (HL.out _).mono ?_); rintro e w1 ⟨rfl, rfl⟩)
                  | (go_at_call 36; (with_reducible refine (HH.out _).mono ?_); rintro e w1 ⟨rfl, rfl⟩))
                all_goals (try (exfalso; omega))
                go_ret
                exact ⟨by rw [Hv.out]; rfl, b1⟩
          · have hb3 : inN high next last = false := by simpa using hc3
            rw [hb3] at HH
            have Hv : Hid (V = false) := Lib.hid (by rw [HD.out, hb3]; simp)
            clear HD
            go_enter Tryz.func75, Tryz.ntmps75
            go_upto_region 1 with fail
            (try rw [hW1])
            clear hW1
            go_wp2_with (first
              | (go_at_call 36; (with_reducible refine (HT.out _).mono ?_); rintro e w1 ⟨rfl, rfl⟩)
              | (go_at_call 36; (with_reducible refine (HC.out _).mono ?_); rintro e w1 ⟨rfl, rfl⟩)
              | (go_at_call 36; (with_reducible refine (HL.out _).mono ?_); rintro e w1 ⟨rfl, rfl⟩)
              | (go_at_call 36; (with_reducible refine (HH.out _).mono ?_); rintro e w1 ⟨rfl, rfl⟩))
            all_goals (try (exfalso; omega))
            go_ret
            exact ⟨by rw [Hv.out]; rfl, b1⟩
        · have hb2 : inN low next last = false := by simpa using hc2
          rw [hb2] at HL
          have Hv : Hid (V = false) := Lib.hid (by rw [HD.out, hb2]; simp)
          clear HD
          go_enter Tryz.func75, Tryz.ntmps75
          go_upto_region 1 with fail
          (try rw [hW1])
          clear hW1
          go_wp2_with (first
            | (go_at_call 36; (with_reducible refine (HT.out _).mono ?_); rintro e w1 ⟨rfl, rfl⟩)
            | (go_at_call 36; (with_reducible refine (HC.out _).mono ?_); rintro e w1 ⟨rfl, rfl⟩)
            | (go_at_call 36; (with_reducible refine (HL.out _).mono ?_); rintro e w1 ⟨rfl, rfl⟩)
            | (go_at_call 36; (with_reducible refine (HH.out _).mono ?_); rintro e w1 ⟨rfl, rfl⟩))
          all_goals (try (exfalso; omega))
          go_ret
          exact ⟨by rw [Hv.out]; rfl, b1⟩
      · have hb1 : inN cut 1 1000000 = false := by simpa using hc1
        rw [hb1] at HC
        have Hv : Hid (V = false) := Lib.hid (by rw [HD.out, hb1]; simp)
        clear HD
        go_enter Tryz.func75, Tryz.ntmps75
        go_upto_region 1 with fail
        (try rw [hW1])
        clear hW1
        go_wp2_with (first
          | (go_at_call 36; (with_reducible refine (HT.out _).mono ?_); rintro e w1 ⟨rfl, rfl⟩)
          | (go_at_call 36; (with_reducible refine (HC.out _).mono ?_); rintro e w1 ⟨rfl, rfl⟩)
          | (go_at_call 36; (with_reducible refine (HL.out _).mono ?_); rintro e w1 ⟨rfl, rfl⟩)
          | (go_at_call 36; (with_reducible refine (HH.out _).mono ?_); rintro e w1 ⟨rfl, rfl⟩))
        all_goals (try (exfalso; omega))
        go_ret
        exact ⟨by rw [Hv.out]; rfl, b1⟩
    · have hb0 : inN tr 0 (traits - 1) = false := by simpa using hc0
      rw [hb0] at HT
      have Hv : Hid (V = false) := Lib.hid (by rw [HD.out, hb0]; simp)
      clear HD
      go_enter Tryz.func75, Tryz.ntmps75
      go_upto_region 1 with fail
      (try rw [hW1])
      clear hW1
      go_wp2_with (first
        | (go_at_call 36; (with_reducible refine (HT.out _).mono ?_); rintro e w1 ⟨rfl, rfl⟩)
        | (go_at_call 36; (with_reducible refine (HC.out _).mono ?_); rintro e w1 ⟨rfl, rfl⟩)
        | (go_at_call 36; (with_reducible refine (HL.out _).mono ?_); rintro e w1 ⟨rfl, rfl⟩)
        | (go_at_call 36; (with_reducible refine (HH.out _).mono ?_); rintro e w1 ⟨rfl, rfl⟩))
      all_goals (try (exfalso; omega))
      go_ret
      exact ⟨by rw [Hv.out]; rfl, b1⟩
theorem nodeV_any (y : Nod) (n i : Nat) (traits : Int) (w : World) (ht : 1 ≤ traits ∧ traits ≤ 5) :
    Calls Tryz.prog 75 #[.agg #[.int .i64 y.tr, .int .i64 y.cut, .int .i64 y.low, .int .i64 y.high, .int .i64 y.pts], .int .i64 ((i : Int) + 1), .int .i64 ((n : Int) - 1), .int .i64 traits] w fun e w' => e = .returned (.bool (nodB n traits i y)) ∧ Below w.heap.size w w' := nodeV_all y.tr y.cut y.low y.high y.pts (i + 1) (n - 1) traits w ht
end Go.Proofs.YtpahcbhikmfamaaGreat
