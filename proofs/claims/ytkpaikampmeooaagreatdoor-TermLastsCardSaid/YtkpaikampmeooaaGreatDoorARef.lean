/- Reports of accounts, by the reference: what its small functions answer. -/
import Derived.Test.YtkpaikampmeooaaGreatDoorTCardP1

namespace Go.Proofs.YtkpaikampmeooaaGreatDoor
open Go.RowKit

set_option maxHeartbeats 400000 in
theorem within3_any (n lo hi : Int) (w : World) :
    Calls Tryz.prog 39 #[.int .i64 n, .int .i64 lo, .int .i64 hi] w fun e w' => e = .returned (.bool (inN n lo hi)) ∧ w = w' := by
  go_enter Tryz.func39, Tryz.ntmps39
  go_wp2
  all_goals go_ret
  all_goals refine ⟨ret_bool ?_, rfl⟩
  · have h : lo ≤ n := by assumption
    simp [inN, h]
  · have h : n < lo := by assumption
    have h' : ¬ lo ≤ n := by omega
    simp [inN, h']

set_option maxHeartbeats 1000000 in
theorem cents3_any (k n : Int) (w : World) :
    Calls Tryz.prog 85 #[.int .u8 k, .int .i64 n] w fun e w' => e = .returned (.bool (centsB k n)) ∧ w = w' := by
  have HW := Lib.hid (fun lo hi W => within3_any n lo hi W)
  by_cases h1 : k = 1
  · subst h1
    clear HW
    go_enter Tryz.func85, Tryz.ntmps85
    go_wp2_with fail
    all_goals go_ret
    all_goals refine ⟨ret_bool ?_, rfl⟩
    all_goals (rw [Bool.eq_iff_iff]; simp [centsB, inN, centsMax]; omega)
  · by_cases h7 : k = 7
    · subst h7
      clear HW
      go_enter Tryz.func85, Tryz.ntmps85
      go_wp2_with fail
      all_goals go_ret
      all_goals refine ⟨ret_bool ?_, rfl⟩
      all_goals (rw [Bool.eq_iff_iff]; simp [centsB, inN, centsMax]; omega)
    · by_cases h5 : k = 5
      · subst h5
        go_enter Tryz.func85, Tryz.ntmps85
        go_wp2_with (go_at_call 39; (with_reducible refine (HW.out _ _ _).mono ?_); rintro e w1 ⟨rfl, rfl⟩)
        go_ret
        exact ⟨rfl, rfl⟩
      · have e1 : (k == 1) = false := by simpa using h1
        have e7 : (k == 7) = false := by simpa using h7
        have e5 : (k == 5) = false := by simpa using h5
        have e : centsB k n = inN n 0 1000000000000 := by unfold centsB centsMax; rw [if_neg h1, if_neg h7, if_neg h5]
        rw [e]
        clear e h1 h7 h5
        go_enter Tryz.func85, Tryz.ntmps85
        go_wp2_with (go_at_call 39; (with_reducible refine (HW.out _ _ _).mono ?_); rintro e w1 ⟨rfl, rfl⟩)
        go_ret
        exact ⟨rfl, rfl⟩

set_option maxHeartbeats 2000000 in
theorem before3_any (a b : Rep) (w : World) :
    Calls Tryz.prog 65 #[.agg #[.int .i64 a.id, .int .i64 a.src, .int .i64 a.acc, .int .i64 a.made, .int .i64 a.about, .int .u8 a.kind, .int .i64 a.cents, .int .i64 a.of_], .agg #[.int .i64 b.id, .int .i64 b.src, .int .i64 b.acc, .int .i64 b.made, .int .i64 b.about, .int .u8 b.kind, .int .i64 b.cents, .int .i64 b.of_]] w fun e w' => e = .returned (.bool (beforeB a b)) ∧ Below w.heap.size w w' := by
  have hb : Below w.heap.size w ((w.alloc (.cells #[.int .i64 a.id, .int .i64 a.src, .int .i64 a.acc, .int .i64 a.made, .int .i64 a.about, .int .u8 a.kind, .int .i64 a.cents, .int .i64 a.of_] 56)).alloc (.cells #[.int .i64 b.id, .int .i64 b.src, .int .i64 b.acc, .int .i64 b.made, .int .i64 b.about, .int .u8 b.kind, .int .i64 b.cents, .int .i64 b.of_] 56)) := ((Below.refl _ _).alloc (Nat.le_refl _) _).alloc (by simp) _
  go_enter Tryz.func65, Tryz.ntmps65
  by_cases h1 : a.about < b.about
  · have e : beforeB a b = true := by rw [beforeB_iff]; exact .inl h1
    rw [e]
    go_wp2_with fail
    go_ret
    exact ⟨rfl, hb⟩
  · by_cases h2 : a.about = b.about
    · have e : beforeB a b = decide (a.id < b.id) := by unfold beforeB; simp [h2]
      rw [e]
      have h3 : (a.about == b.about) = true := by simp [h2]
      clear h2
      go_wp2_with fail
      all_goals go_ret
      all_goals exact ⟨ret_bool (by first | rfl | (simp [*]; done)), hb⟩
    · have e : beforeB a b = false := by rw [Bool.eq_false_iff, Ne, beforeB_iff]; omega
      rw [e]
      have h3 : (a.about == b.about) = false := by simpa using h2
      clear h2
      go_wp2_with fail
      go_ret
      exact ⟨rfl, hb⟩

set_option maxRecDepth 100000 in
set_option maxHeartbeats 4000000 in
theorem valid3_any (r : Rep) (w : World) (hk : 0 ≤ r.kind ∧ r.kind ≤ 255) :
    Calls Tryz.prog 62 #[.agg #[.int .i64 r.id, .int .i64 r.src, .int .i64 r.acc, .int .i64 r.made, .int .i64 r.about, .int .u8 r.kind, .int .i64 r.cents, .int .i64 r.of_]] w fun e w' => e = .returned (.bool (validB r)) ∧ Below w.heap.size w w' := by
  have HW := Lib.hid (fun n lo hi W => within3_any n lo hi W)
  have HC := Lib.hid (fun W => cents3_any r.kind r.cents W)
  have hws : IntKind.i64.wrap r.kind = r.kind := IntWalk.i64_in _ (by omega)
  have hb : Below w.heap.size w (w.alloc (.cells #[.int .i64 r.id, .int .i64 r.src, .int .i64 r.acc, .int .i64 r.made, .int .i64 r.about, .int .u8 r.kind, .int .i64 r.cents, .int .i64 r.of_] 56)) := (Below.refl _ _).alloc (Nat.le_refl _) _
  clear hk
  cases h0 : inN r.id 0 999999 with
  | false =>
    go_enter Tryz.func62, Tryz.ntmps62
    go_wp2_with (first
      | (go_at_call 39; (with_reducible refine (HW.out _ _ _ _).mono ?_); rintro e w1 ⟨rfl, rfl⟩)
      | (go_at_call 85; (with_reducible refine (HC.out _).mono ?_); rintro e w1 ⟨rfl, rfl⟩))
    all_goals go_ret
    all_goals exact ⟨ret_bool (by simp [validB, h0]), hb⟩
  | true =>
    cases h1 : inN r.src 0 999999 with
    | false =>
      go_enter Tryz.func62, Tryz.ntmps62
      go_wp2_with (first
        | (go_at_call 39; (with_reducible refine (HW.out _ _ _ _).mono ?_); rintro e w1 ⟨rfl, rfl⟩)
        | (go_at_call 85; (with_reducible refine (HC.out _).mono ?_); rintro e w1 ⟨rfl, rfl⟩))
      all_goals go_ret
      all_goals exact ⟨ret_bool (by simp [validB, h0, h1]), hb⟩
    | true =>
      cases h2 : inN r.acc 0 999999 with
      | false =>
        go_enter Tryz.func62, Tryz.ntmps62
        go_wp2_with (first
          | (go_at_call 39; (with_reducible refine (HW.out _ _ _ _).mono ?_); rintro e w1 ⟨rfl, rfl⟩)
          | (go_at_call 85; (with_reducible refine (HC.out _).mono ?_); rintro e w1 ⟨rfl, rfl⟩))
        all_goals go_ret
        all_goals exact ⟨ret_bool (by simp [validB, h0, h1, h2]), hb⟩
      | true =>
        cases h3 : inN r.made 0 100000 with
        | false =>
          go_enter Tryz.func62, Tryz.ntmps62
          go_wp2_with (first
            | (go_at_call 39; (with_reducible refine (HW.out _ _ _ _).mono ?_); rintro e w1 ⟨rfl, rfl⟩)
            | (go_at_call 85; (with_reducible refine (HC.out _).mono ?_); rintro e w1 ⟨rfl, rfl⟩))
          all_goals go_ret
          all_goals exact ⟨ret_bool (by simp [validB, h0, h1, h2, h3]), hb⟩
        | true =>
          cases h4 : inN r.about 0 100000 with
          | false =>
            go_enter Tryz.func62, Tryz.ntmps62
            go_wp2_with (first
              | (go_at_call 39; (with_reducible refine (HW.out _ _ _ _).mono ?_); rintro e w1 ⟨rfl, rfl⟩)
              | (go_at_call 85; (with_reducible refine (HC.out _).mono ?_); rintro e w1 ⟨rfl, rfl⟩))
            all_goals go_ret
            all_goals exact ⟨ret_bool (by simp [validB, h0, h1, h2, h3, h4]), hb⟩
          | true =>
            cases h5 : inN r.kind 1 9 with
            | false =>
              go_enter Tryz.func62, Tryz.ntmps62
              go_wp2_with (first
                | (go_at_call 39; (with_reducible refine (HW.out _ _ _ _).mono ?_); rintro e w1 ⟨rfl, rfl⟩)
                | (go_at_call 85; (with_reducible refine (HC.out _).mono ?_); rintro e w1 ⟨rfl, rfl⟩))
              all_goals go_ret
              all_goals exact ⟨ret_bool (by simp [validB, h0, h1, h2, h3, h4, h5]), hb⟩
            | true =>
              by_cases hk7 : r.kind ≤ 7
              · cases hc : centsB r.kind r.cents with
                | false =>
                  go_enter Tryz.func62, Tryz.ntmps62
                  go_wp2_with (first
                    | (go_at_call 39; (with_reducible refine (HW.out _ _ _ _).mono ?_); rintro e w1 ⟨rfl, rfl⟩)
                    | (go_at_call 85; (with_reducible refine (HC.out _).mono ?_); rintro e w1 ⟨rfl, rfl⟩))
                  all_goals go_ret
                  all_goals exact ⟨ret_bool (by simp [validB, h0, h1, h2, h3, h4, h5, hk7, hc]), hb⟩
                | true =>
                  have ev : validB r = (r.of_ == 0) := by rw [Bool.eq_iff_iff]; simp [validB, h0, h1, h2, h3, h4, h5, hk7, hc]
                  rw [ev]
                  go_enter Tryz.func62, Tryz.ntmps62
                  go_wp2_with (first
                    | (go_at_call 39; (with_reducible refine (HW.out _ _ _ _).mono ?_); rintro e w1 ⟨rfl, rfl⟩)
                    | (go_at_call 85; (with_reducible refine (HC.out _).mono ?_); rintro e w1 ⟨rfl, rfl⟩))
                  all_goals go_ret
                  all_goals exact ⟨rfl, hb⟩
              · cases ho : inN r.of_ 0 999999 with
                | false =>
                  go_enter Tryz.func62, Tryz.ntmps62
                  go_wp2_with (first
                    | (go_at_call 39; (with_reducible refine (HW.out _ _ _ _).mono ?_); rintro e w1 ⟨rfl, rfl⟩)
                    | (go_at_call 85; (with_reducible refine (HC.out _).mono ?_); rintro e w1 ⟨rfl, rfl⟩))
                  all_goals go_ret
                  all_goals exact ⟨ret_bool (by simp [validB, h0, h1, h2, h3, h4, h5, (show ¬ r.kind ≤ 7 by omega), ho]), hb⟩
                | true =>
                  by_cases hi : r.of_ = r.id
                  · have hi2 : (r.of_ == r.id) = true := by simp [hi]
                    have ev : validB r = false := by simp [validB, h0, h1, h2, h3, h4, h5, hk7, hi]
                    rw [ev]
                    clear hi ev
                    go_enter Tryz.func62, Tryz.ntmps62
                    go_wp2_with (first
                      | (go_at_call 39; (with_reducible refine (HW.out _ _ _ _).mono ?_); rintro e w1 ⟨rfl, rfl⟩)
                      | (go_at_call 85; (with_reducible refine (HC.out _).mono ?_); rintro e w1 ⟨rfl, rfl⟩))
                    all_goals go_ret
                    all_goals exact ⟨rfl, hb⟩
                  · have hi2 : (r.of_ == r.id) = false := by simpa using hi
                    by_cases h8 : r.kind = 8
                    · have h82 : (r.kind == 8) = true := by simp [h8]
                      have ev : validB r = inN r.cents 0 1000000000000 := by simp [validB, h0, h1, h2, h3, h4, ho, hi, h8, (show inN 8 1 9 = true from rfl)]
                      rw [ev]
                      clear h8 hi ev
                      go_enter Tryz.func62, Tryz.ntmps62
                      go_wp2_with (first
                        | (go_at_call 39; (with_reducible refine (HW.out _ _ _ _).mono ?_); rintro e w1 ⟨rfl, rfl⟩)
                        | (go_at_call 85; (with_reducible refine (HC.out _).mono ?_); rintro e w1 ⟨rfl, rfl⟩))
                      all_goals go_ret
                      all_goals exact ⟨rfl, hb⟩
                    · have h82 : (r.kind == 8) = false := by simpa using h8
                      by_cases hz : r.cents = 0
                      · have hz2 : (r.cents == 0) = true := by simp [hz]
                        have ev : validB r = (r.about == 0) := by rw [Bool.eq_iff_iff]; simp [validB, h0, h1, h2, h3, h4, h5, hk7, ho, hi, h8, hz]
                        rw [ev]
                        clear h8 hi hz ev
                        go_enter Tryz.func62, Tryz.ntmps62
                        go_wp2_with (first
                          | (go_at_call 39; (with_reducible refine (HW.out _ _ _ _).mono ?_); rintro e w1 ⟨rfl, rfl⟩)
                          | (go_at_call 85; (with_reducible refine (HC.out _).mono ?_); rintro e w1 ⟨rfl, rfl⟩))
                        all_goals go_ret
                        all_goals exact ⟨rfl, hb⟩
                      · have hz2 : (r.cents == 0) = false := by simp [hz]
                        have ev : validB r = false := by simp [validB, h0, h1, h2, h3, h4, h5, hk7, ho, hi, h8, hz]
                        rw [ev]
                        clear h8 hi hz ev
                        go_enter Tryz.func62, Tryz.ntmps62
                        go_wp2_with (first
                          | (go_at_call 39; (with_reducible refine (HW.out _ _ _ _).mono ?_); rintro e w1 ⟨rfl, rfl⟩)
                          | (go_at_call 85; (with_reducible refine (HC.out _).mono ?_); rintro e w1 ⟨rfl, rfl⟩))
                        all_goals go_ret
                        all_goals exact ⟨rfl, hb⟩

end Go.Proofs.YtkpaikampmeooaaGreatDoor
