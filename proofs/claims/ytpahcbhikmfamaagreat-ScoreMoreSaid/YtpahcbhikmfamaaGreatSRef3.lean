/- Trees, by the reference: whether they are valid. Written by a program. -/
import Derived.Test.YtpahcbhikmfamaaGreatSRef2

namespace Go.Proofs.YtpahcbhikmfamaaGreat
open Go.RowKit Go.Maps

theorem inN_false {n lo hi : Int} (h : ¬ (lo ≤ n ∧ n ≤ hi)) : inN n lo hi = false := by
  cases hb : inN n lo hi with
  | false => rfl
  | true => exact absurd (inN_iff.1 hb) h
theorem nodB_pt {n : Nat} {traits : Int} {i : Nat} {x : Nod} (h : ptB x.pts = false) : nodB n traits i x = false := by
  unfold nodB
  split
  · rw [h, Bool.and_false]
  · have : decide (x.pts = 0) = false := decide_eq_false (fun e => by rw [e] at h; simp [ptB, inN] at h)
    rw [this, Bool.and_false]
theorem nodB_leaf {n : Nat} {traits : Int} {i : Nat} {x : Nod} (h : x.tr = -1) : nodB n traits i x = (decide (x.cut = 0) && decide (x.low = 0) && decide (x.high = 0) && ptB x.pts) := by unfold nodB; rw [if_pos h]
theorem nodB_node {n : Nat} {traits : Int} {i : Nat} {x : Nod} (h : ¬ x.tr = -1) : nodB n traits i x = (inN x.tr 0 (traits - 1) && inN x.cut 1 1000000 && inN x.low (i + 1) (n - 1) && inN x.high (i + 1) (n - 1) && decide (x.low ≠ x.high) && decide (x.pts = 0)) := by unfold nodB; rw [if_neg h]

set_option maxRecDepth 100000 in
set_option maxHeartbeats 8000000 in
theorem tree6_all (wt : Int) (l : List Nod) (T : Option Addr) (t : Nat) (traits : Int) (w : World) (h : NodsAt w w.heap.size T l) (hl : l.length ≤ 20) (ht : 1 ≤ traits ∧ traits ≤ 5) :
    Calls Tryz.prog 29 #[.agg #[.int .i64 wt, .slice T l.length t], .int .i64 traits] w fun e w' => e = .returned (.bool (treB traits ⟨wt, l⟩)) ∧ Below w.heap.size w w' := by
  have b1 := (Below.refl w.heap.size w).alloc (Nat.le_refl _) (.cells #[.int .i64 wt, .slice T l.length t] 45)
  have k1 := Blk.new w #[.int .i64 wt, .slice T l.length t] 45
  have g1 := k1.lt
  have k1c := k1.cell
  have HW := Lib.hid (fun W => within6_any wt 0 1000 W)
  have HL := Lib.hid (fun W => within6_any l.length 1 7 W)
  have HD : Hid (treB traits ⟨wt, l⟩ = (inN wt 0 1000 && inN l.length 1 7 && rangeB l.length fun i => nodB l.length traits i (l.getD i default))) := Lib.hid rfl
  generalize treB traits ⟨wt, l⟩ = V at *
  cases q1 : inN wt 0 1000 with
  | false =>
    have Hv : Hid (V = false) := Lib.hid (by rw [HD.out, q1]; rfl)
    rw [q1] at HW
    clear h HD q1 HL
    go_enter Tryz.func29, Tryz.ntmps29
    go_wp2_with (go_at_call 26; (with_reducible refine (HW.out _).mono ?_); rintro e w1 ⟨rfl, rfl⟩)
    go_ret
    exact ⟨by rw [Hv.out]; rfl, b1⟩
  | true =>
    rw [q1] at HW
    cases q2 : inN l.length 1 7 with
    | false =>
      have Hv : Hid (V = false) := Lib.hid (by rw [HD.out, q1, q2]; rfl)
      rw [q2] at HL
      clear h HD q1 q2
      go_enter Tryz.func29, Tryz.ntmps29
      go_wp2_with (first
        | (go_at_call 26; (with_reducible refine (HW.out _).mono ?_); rintro e w1 ⟨rfl, rfl⟩)
        | (go_at_call 26; (with_reducible refine (HL.out _).mono ?_); rintro e w1 ⟨rfl, rfl⟩))
      go_ret
      exact ⟨by rw [Hv.out]; rfl, b1⟩
    | true =>
      have HE : Hid (V = rangeB l.length fun i => nodB l.length traits i (l.getD i default)) := Lib.hid (by rw [HD.out, q1, q2]; simp)
      rw [q2] at HL
      clear q1 q2 HD
      go_enter Tryz.func29, Tryz.ntmps29
      go_wp2_with (first
        | (go_at_call 26; (with_reducible refine (HW.out _).mono ?_); rintro e w1 ⟨rfl, rfl⟩)
        | (go_at_call 26; (with_reducible refine (HL.out _).mono ?_); rintro e w1 ⟨rfl, rfl⟩))
      have h1 := h.later b1
      have hzt : IntKind.i64.wrap (traits - 1) = traits - 1 := IntWalk.i64_in _ (by omega)
      generalize hW1 : w.alloc (.cells #[.int .i64 wt, .slice T l.length t] 45) = W1 at *
      clear hW1 k1c h HW HL
      go_loopw [5] (fun ii wr => ∃ i : Nat, i ≤ l.length ∧ ii = .int .i64 i ∧ Hid ((∀ j, (hj : j < i) → (hq : j < l.length) → nodB l.length traits j l[j] = true) ∧ Below W1.heap.size W1 wr)) (fun ii _ => l.length - (vInt ii).toNat)
      case atStart => exact ⟨0, Nat.zero_le _, rfl, Lib.hid ⟨fun j hj => by omega, Below.refl _ _⟩⟩
      case round =>
        obtain ⟨i, hi, rfl, hR⟩ := hrel
        obtain ⟨hS, hB⟩ := hR.out
        have k2 := k1.below hB g1
        have b2 := b1.trans (hB.mono b1.size)
        have k2c := k2.cell
        by_cases hlt : i < l.length
        · have hil : (i : Int) < (l.length : Int) := by omega
          obtain ⟨b, off, rfl, hb, c0, c1, c2, c3, c4⟩ := nods_at (h1.later hB) hlt
          have HB : Hid (nodB l.length traits i l[i] = false → V = false) := Lib.hid (fun e => by rw [HE.out]; exact rangeB_stop hlt (by rw [getD_lt l default hlt]; exact e))
          have HN : Hid (nodB l.length traits i l[i] = true → ∀ j, (hj : j < i + 1) → (hq : j < l.length) → nodB l.length traits j l[j] = true) := Lib.hid (fun e j hj hq => by
            rcases Nat.lt_or_ge j i with hj2 | hj2
            · exact hS j hj2 hq
            · obtain rfl : j = i := by omega
              exact e)
          have hlen : l.length ≤ 20 := hl
          generalize l[i] = y at *
          obtain ⟨tr, cut, low, high, pts⟩ := y
          dsimp only at c0 c1 c2 c3 c4
          have HPi := Lib.hid (fun W => points6_any pts W)
          have HT := Lib.hid (fun W => within6_any tr 0 (traits - 1) W)
          have HC := Lib.hid (fun W => within6_any cut 1 1000000 W)
          have k3 := k2.alloc (.cells #[.int .i64 tr, .int .i64 cut, .int .i64 low, .int .i64 high, .int .i64 pts] 48)
          have kn := Blk.new wr #[.int .i64 tr, .int .i64 cut, .int .i64 low, .int .i64 high, .int .i64 pts] 48
          have b3 := b2.alloc b2.size (.cells #[.int .i64 tr, .int .i64 cut, .int .i64 low, .int .i64 high, .int .i64 pts] 48)
          have k3c := k3.cell
          have knc := kn.cell
          have gk := k2.lt
          clear hS hR h1
          by_cases hp : ptB pts = true
          · rw [hp] at HPi
            by_cases h1l : tr = -1
            · have e1 : (tr == -1) = true := by simp [h1l]
              have HNB : Hid (nodB l.length traits i ⟨tr, cut, low, high, pts⟩ = (decide (cut = 0) && decide (low = 0) && decide (high = 0) && ptB pts)) := Lib.hid (nodB_leaf (x := ⟨tr, cut, low, high, pts⟩) h1l)
              clear h1l HT HC
              by_cases hc0 : cut = 0
              · subst hc0
                by_cases hc1 : low = 0
                · subst hc1
                  by_cases hc2 : high = 0
                  · subst hc2
                    have HJ := Lib.hid (HN.out (by rw [HNB.out, hp]; rfl))
                    clear HB HN HNB
                    go_wp2_with (go_at_call 27; (with_reducible refine (HPi.out _).mono ?_); rintro e w1 ⟨rfl, rfl⟩)
                    all_goals (try (exfalso; omega))
                    go_roundw
                    case rel => exact ⟨i + 1, by omega, by go_num, Lib.hid ⟨HJ.out, hB.alloc hB.size _⟩⟩
                    case measure => simp [vInt]; omega
                  · have f2 : (high != 0) = true := by simpa using hc2
                    have Hv : Hid (V = false) := Lib.hid (HB.out (by rw [HNB.out, decide_eq_false hc2]; simp))
                    clear HB HN HNB
                    go_wp2_with (go_at_call 27; (with_reducible refine (HPi.out _).mono ?_); rintro e w1 ⟨rfl, rfl⟩)
                    all_goals (try (exfalso; omega))
                    go_ret
                    exact ⟨by rw [Hv.out]; rfl, b3⟩
                · have f1 : (low != 0) = true := by simpa using hc1
                  have Hv : Hid (V = false) := Lib.hid (HB.out (by rw [HNB.out, decide_eq_false hc1]; simp))
                  clear HB HN HNB
                  go_wp2_with (go_at_call 27; (with_reducible refine (HPi.out _).mono ?_); rintro e w1 ⟨rfl, rfl⟩)
                  all_goals (try (exfalso; omega))
                  go_ret
                  exact ⟨by rw [Hv.out]; rfl, b3⟩
              · have f0 : (cut != 0) = true := by simpa using hc0
                have Hv : Hid (V = false) := Lib.hid (HB.out (by rw [HNB.out, decide_eq_false hc0]; simp))
                clear HB HN HNB
                go_wp2_with (go_at_call 27; (with_reducible refine (HPi.out _).mono ?_); rintro e w1 ⟨rfl, rfl⟩)
                all_goals (try (exfalso; omega))
                go_ret
                exact ⟨by rw [Hv.out]; rfl, b3⟩
            · have e1 : (tr == -1) = false := by simpa using h1l
              have HNB := Lib.hid (nodB_node (n := l.length) (traits := traits) (i := i) (x := ⟨tr, cut, low, high, pts⟩) h1l)
              clear h1l
              by_cases hc0 : inN tr 0 (traits - 1) = true
              · rw [hc0] at HT
                by_cases hc1 : inN cut 1 1000000 = true
                · rw [hc1] at HC
                  by_cases hc2 : (i : Int) < low
                  · have n2 : ¬ low ≤ (i : Int) := by omega
                    by_cases hc3 : (i : Int) < high
                    · have n3 : ¬ high ≤ (i : Int) := by omega
                      by_cases hc4 : low < (l.length : Int)
                      · have n4 : ¬ (l.length : Int) ≤ low := by omega
                        by_cases hc5 : high < (l.length : Int)
                        · have n5 : ¬ (l.length : Int) ≤ high := by omega
                          by_cases hc6 : low = high
                          · subst hc6
                            have Hv : Hid (V = false) := Lib.hid (HB.out (by rw [HNB.out, decide_eq_false (p := low ≠ low) (fun e => e rfl)]; simp))
                            clear HB HN HNB
                            go_wp2_with (first
                              | (go_at_call 27; (with_reducible refine (HPi.out _).mono ?_); rintro e w1 ⟨rfl, rfl⟩)
                              | (go_at_call 26; (with_reducible refine (HT.out _).mono ?_); rintro e w1 ⟨rfl, rfl⟩)
                              | (go_at_call 26; (with_reducible refine (HC.out _).mono ?_); rintro e w1 ⟨rfl, rfl⟩))
                            all_goals (try (exfalso; omega))
                            go_ret
                            exact ⟨by rw [Hv.out]; rfl, b3⟩
                          · have f6 : (low == high) = false := by simpa using hc6
                            by_cases hc7 : pts = 0
                            · subst hc7
                              have HJ := Lib.hid (HN.out (by rw [HNB.out, hc0, hc1, inN_iff.2 (show ((i : Int) + 1 ≤ low ∧ low ≤ (l.length : Int) - 1) by omega), inN_iff.2 (show ((i : Int) + 1 ≤ high ∧ high ≤ (l.length : Int) - 1) by omega), decide_eq_true (p := low ≠ high) hc6]; rfl))
                              clear HB HN HNB
                              go_wp2_with (first
                                | (go_at_call 27; (with_reducible refine (HPi.out _).mono ?_); rintro e w1 ⟨rfl, rfl⟩)
                                | (go_at_call 26; (with_reducible refine (HT.out _).mono ?_); rintro e w1 ⟨rfl, rfl⟩)
                                | (go_at_call 26; (with_reducible refine (HC.out _).mono ?_); rintro e w1 ⟨rfl, rfl⟩))
                              all_goals (try (exfalso; omega))
                              go_roundw
                              case rel => exact ⟨i + 1, by omega, by go_num, Lib.hid ⟨HJ.out, hB.alloc hB.size _⟩⟩
                              case measure => simp [vInt]; omega
                            · have f7 : (pts != 0) = true := by simpa using hc7
                              have Hv : Hid (V = false) := Lib.hid (HB.out (by rw [HNB.out, decide_eq_false hc7]; simp))
                              clear HB HN HNB
                              go_wp2_with (first
                                | (go_at_call 27; (with_reducible refine (HPi.out _).mono ?_); rintro e w1 ⟨rfl, rfl⟩)
                                | (go_at_call 26; (with_reducible refine (HT.out _).mono ?_); rintro e w1 ⟨rfl, rfl⟩)
                                | (go_at_call 26; (with_reducible refine (HC.out _).mono ?_); rintro e w1 ⟨rfl, rfl⟩))
                              all_goals (try (exfalso; omega))
                              go_ret
                              exact ⟨by rw [Hv.out]; rfl, b3⟩
                        · have n5 : (l.length : Int) ≤ high := by omega
                          clear hc5
                          have Hv : Hid (V = false) := Lib.hid (HB.out (by rw [HNB.out, inN_false (n := high) (lo := i + 1) (hi := l.length - 1) (by omega)]; simp))
                          clear HB HN HNB
                          go_wp2_with (first
                            | (go_at_call 27; (with_reducible refine (HPi.out _).mono ?_); rintro e w1 ⟨rfl, rfl⟩)
                            | (go_at_call 26; (with_reducible refine (HT.out _).mono ?_); rintro e w1 ⟨rfl, rfl⟩)
                            | (go_at_call 26; (with_reducible refine (HC.out _).mono ?_); rintro e w1 ⟨rfl, rfl⟩))
                          all_goals (try (exfalso; omega))
                          go_ret
                          exact ⟨by rw [Hv.out]; rfl, b3⟩
                      · have n4 : (l.length : Int) ≤ low := by omega
                        clear hc4
                        have Hv : Hid (V = false) := Lib.hid (HB.out (by rw [HNB.out, inN_false (n := low) (lo := i + 1) (hi := l.length - 1) (by omega)]; simp))
                        clear HB HN HNB
                        go_wp2_with (first
                          | (go_at_call 27; (with_reducible refine (HPi.out _).mono ?_); rintro e w1 ⟨rfl, rfl⟩)
                          | (go_at_call 26; (with_reducible refine (HT.out _).mono ?_); rintro e w1 ⟨rfl, rfl⟩)
                          | (go_at_call 26; (with_reducible refine (HC.out _).mono ?_); rintro e w1 ⟨rfl, rfl⟩))
                        all_goals (try (exfalso; omega))
                        go_ret
                        exact ⟨by rw [Hv.out]; rfl, b3⟩
                    · have n3 : high ≤ (i : Int) := by omega
                      clear hc3
                      have Hv : Hid (V = false) := Lib.hid (HB.out (by rw [HNB.out, inN_false (n := high) (lo := i + 1) (hi := l.length - 1) (by omega)]; simp))
                      clear HB HN HNB
                      go_wp2_with (first
                        | (go_at_call 27; (with_reducible refine (HPi.out _).mono ?_); rintro e w1 ⟨rfl, rfl⟩)
                        | (go_at_call 26; (with_reducible refine (HT.out _).mono ?_); rintro e w1 ⟨rfl, rfl⟩)
                        | (go_at_call 26; (with_reducible refine (HC.out _).mono ?_); rintro e w1 ⟨rfl, rfl⟩))
                      all_goals (try (exfalso; omega))
                      go_ret
                      exact ⟨by rw [Hv.out]; rfl, b3⟩
                  · have n2 : low ≤ (i : Int) := by omega
                    clear hc2
                    have Hv : Hid (V = false) := Lib.hid (HB.out (by rw [HNB.out, inN_false (n := low) (lo := i + 1) (hi := l.length - 1) (by omega)]; simp))
                    clear HB HN HNB
                    go_wp2_with (first
                      | (go_at_call 27; (with_reducible refine (HPi.out _).mono ?_); rintro e w1 ⟨rfl, rfl⟩)
                      | (go_at_call 26; (with_reducible refine (HT.out _).mono ?_); rintro e w1 ⟨rfl, rfl⟩)
                      | (go_at_call 26; (with_reducible refine (HC.out _).mono ?_); rintro e w1 ⟨rfl, rfl⟩))
                    all_goals (try (exfalso; omega))
                    go_ret
                    exact ⟨by rw [Hv.out]; rfl, b3⟩
                · have hb1 : inN cut 1 1000000 = false := by simpa using hc1
                  rw [hb1] at HC
                  have Hv : Hid (V = false) := Lib.hid (HB.out (by rw [HNB.out, hb1]; simp))
                  clear HB HN HNB
                  go_wp2_with (first
                    | (go_at_call 27; (with_reducible refine (HPi.out _).mono ?_); rintro e w1 ⟨rfl, rfl⟩)
                    | (go_at_call 26; (with_reducible refine (HT.out _).mono ?_); rintro e w1 ⟨rfl, rfl⟩)
                    | (go_at_call 26; (with_reducible refine (HC.out _).mono ?_); rintro e w1 ⟨rfl, rfl⟩))
                  all_goals (try (exfalso; omega))
                  go_ret
                  exact ⟨by rw [Hv.out]; rfl, b3⟩
              · have hb0 : inN tr 0 (traits - 1) = false := by simpa using hc0
                rw [hb0] at HT
                have Hv : Hid (V = false) := Lib.hid (HB.out (by rw [HNB.out, hb0]; simp))
                clear HB HN HNB
                go_wp2_with (first
                  | (go_at_call 27; (with_reducible refine (HPi.out _).mono ?_); rintro e w1 ⟨rfl, rfl⟩)
                  | (go_at_call 26; (with_reducible refine (HT.out _).mono ?_); rintro e w1 ⟨rfl, rfl⟩)
                  | (go_at_call 26; (with_reducible refine (HC.out _).mono ?_); rintro e w1 ⟨rfl, rfl⟩))
                all_goals (try (exfalso; omega))
                go_ret
                exact ⟨by rw [Hv.out]; rfl, b3⟩
          · have hp' : ptB pts = false := by simpa using hp
            have Hv : Hid (V = false) := Lib.hid (HB.out (nodB_pt (x := ⟨tr, cut, low, high, pts⟩) hp'))
            rw [hp'] at HPi
            clear HB HN hp hp' HT HC
            go_wp2_with (go_at_call 27; (with_reducible refine (HPi.out _).mono ?_); rintro e w1 ⟨rfl, rfl⟩)
            go_ret
            exact ⟨by rw [Hv.out]; rfl, b3⟩
        · have hil : ¬ (i : Int) < (l.length : Int) := by omega
          obtain rfl : i = l.length := by omega
          have Hv : Hid (V = true) := Lib.hid (by rw [HE.out, rangeB_iff]; intro j hj; rw [getD_lt l default hj]; exact hS j hj hj)
          clear hR hS
          go_wp2_with fail
          go_ret
          exact ⟨by rw [Hv.out]; rfl, b2⟩
theorem tree6_any (x : TreD) (traits : Int) (w : World) (h : NodsAt w w.heap.size x.T x.v.nodes) (hl : x.v.nodes.length ≤ 20) (ht : 1 ≤ traits ∧ traits ≤ 5) :
    Calls Tryz.prog 29 #[.agg #[.int .i64 x.v.weight, .slice x.T x.v.nodes.length x.t], .int .i64 traits] w fun e w' => e = .returned (.bool (treB traits x.v)) ∧ Below w.heap.size w w' := tree6_all x.v.weight x.v.nodes x.T x.t traits w h hl ht
end Go.Proofs.YtpahcbhikmfamaaGreat
