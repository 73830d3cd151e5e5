/- Contracts of the small functions that tell whether a number, a word or rules are valid, of the program and of the reference. -/
import Derived.Test.YtbkmfomdhjhkpaaGreatRows
import Derived.WalkKit
import Derived.WalkSpells
import Derived.WalkLawsBesides
import Derived.BigQuiet
import Derived.BigGuardPart
import Derived.Lib.Hide
import Derived.OneCell
namespace Go.Proofs.YtbkmfomdhjhkpaaGreat
open Go.RowKit

/-- Whether a number is from lo to hi. -/
def inB (n lo hi : Int) : Bool := decide (lo ≤ n) && decide (n ≤ hi)

theorem ret_bool {a b : Bool} (h : a = b) : Ending.returned (.bool a) = .returned (.bool b) := by rw [h]
theorem ret_int {k : IntKind} {a b : Int} (h : a = b) : Ending.returned (.int k a) = .returned (.int k b) := by rw [h]

set_option maxHeartbeats 400000 in
theorem within_any (n lo hi : Int) (w : World) :
    Calls Tryz.prog 35 #[.int .i64 n, .int .i64 lo, .int .i64 hi] w fun e w' => e = .returned (.bool (inB n lo hi)) ∧ w = w' := by
  go_enter Tryz.func35, Tryz.ntmps35
  go_wp2
  all_goals go_ret
  all_goals refine ⟨ret_bool ?_, rfl⟩
  · have h : lo ≤ n := by assumption
    simp [inB, h]
  · have h : n < lo := by assumption
    have h' : ¬ lo ≤ n := by omega
    simp [inB, h']

set_option maxHeartbeats 400000 in
theorem refWithin_any (n lo hi : Int) (w : World) :
    Calls Tryz.prog 42 #[.int .i64 n, .int .i64 lo, .int .i64 hi] w fun e w' => e = .returned (.bool (inB n lo hi)) ∧ w = w' := by
  go_enter Tryz.func42, Tryz.ntmps42
  go_wp2
  all_goals go_ret
  all_goals refine ⟨ret_bool ?_, rfl⟩
  · have h : lo ≤ n := by assumption
    simp [inB, h]
  · have h : n < lo := by assumption
    have h' : ¬ lo ≤ n := by omega
    simp [inB, h']

/-- Whether all bytes are from lo to hi. -/
def allB (l : List UInt8) (lo hi : Int) : Bool := l.all fun c => inB (c.toNat : Int) lo hi

theorem take_snoc (s : ByteArray) (k : Nat) (h : k < s.size) : s.data.toList.take (k + 1) = s.data.toList.take k ++ [s[k]] := by
  rw [List.take_succ_eq_append_getElem (by simpa using h)]; rfl
theorem allB_snoc (s : ByteArray) (k : Nat) (h : k < s.size) (lo hi : Int) : allB (s.data.toList.take (k + 1)) lo hi = (allB (s.data.toList.take k) lo hi && inB (s[k].toNat : Int) lo hi) := by
  rw [take_snoc s k h]; simp [allB]
theorem allB_false (s : ByteArray) (k : Nat) (h : k < s.size) (lo hi : Int) (hb : inB (s[k].toNat : Int) lo hi = false) : allB s.data.toList lo hi = false := by
  unfold allB
  rw [List.all_eq_false]
  refine ⟨s[k], ?_, by simpa using hb⟩
  exact List.getElem_mem (l := s.data.toList) (n := k) (by simpa using h)

set_option maxHeartbeats 400000 in
theorem only_any (s : ByteArray) (lo hi : Int) (w : World) (hs : s.size ≤ maxLen) :
    Calls Tryz.prog 94 #[.string s, .int .u8 lo, .int .u8 hi] w fun e w' => e = .returned (.bool (allB s.data.toList lo hi)) ∧ w = w' := by
  unfold maxLen at hs
  go_enter Tryz.func94, Tryz.ntmps94
  go_wp2
  go_loop [10] (fun i => ∃ k : Nat, k ≤ s.size ∧ i = .int .i64 k ∧ Hid (allB (s.data.toList.take k) lo hi = true)) (fun i => s.size - (intOf i).toNat)
  case atStart => exact ⟨0, Nat.zero_le _, rfl, rfl⟩
  case round =>
    obtain ⟨k, hk, rfl, hall⟩ := hrel
    by_cases hlt : k < s.size
    · have HS := Lib.hid (allB_snoc s k hlt lo hi)
      have HF := Lib.hid (allB_false s k hlt lo hi)
      go_wp2
      · go_ret
        exact ⟨ret_bool (HF.out (by have h : (s[k].toNat : Int) < lo := by assumption
                                    simp [inB]; omega)).symm, rfl⟩
      · go_ret
        exact ⟨ret_bool (HF.out (by have h : hi < (s[k].toNat : Int) := by assumption
                                    simp [inB]; omega)).symm, rfl⟩
      · have h1 : (s[k].toNat : Int) ≤ hi := by assumption
        have h2 : ¬ (s[k].toNat : Int) < lo := by assumption
        go_round
        case rel => exact ⟨k + 1, by omega, by go_num, Lib.hid (by rw [HS.out, hall.out]; simp [inB]; omega)⟩
        case measure => simp [intOf]; omega
    · go_wp2
      go_ret
      have e : s.data.toList.take k = s.data.toList := List.take_of_length_le (by simp; omega)
      exact ⟨ret_bool (by rw [← e]; exact hall.symm), rfl⟩

set_option maxHeartbeats 400000 in
theorem of_any (s : ByteArray) (lo hi : Int) (w : World) (hs : s.size ≤ maxLen) :
    Calls Tryz.prog 48 #[.string s, .int .u8 lo, .int .u8 hi] w fun e w' => e = .returned (.bool (allB s.data.toList lo hi)) ∧ w = w' := by
  unfold maxLen at hs
  go_enter Tryz.func48, Tryz.ntmps48
  go_wp2
  go_loop [7] (fun i => ∃ k : Nat, k ≤ s.size ∧ i = .int .i64 k ∧ Hid (allB (s.data.toList.take k) lo hi = true)) (fun i => s.size - (intOf i).toNat)
  case atStart => exact ⟨0, Nat.zero_le _, rfl, rfl⟩
  case round =>
    obtain ⟨k, hk, rfl, hall⟩ := hrel
    by_cases hlt : k < s.size
    · have HS := Lib.hid (allB_snoc s k hlt lo hi)
      have HF := Lib.hid (allB_false s k hlt lo hi)
      go_wp2
      · go_ret
        exact ⟨ret_bool (HF.out (by have h : (s[k].toNat : Int) < lo := by assumption
                                    simp [inB]; omega)).symm, rfl⟩
      · go_ret
        exact ⟨ret_bool (HF.out (by have h : hi < (s[k].toNat : Int) := by assumption
                                    simp [inB]; omega)).symm, rfl⟩
      · have h1 : (s[k].toNat : Int) ≤ hi := by assumption
        have h2 : ¬ (s[k].toNat : Int) < lo := by assumption
        go_round
        case rel => exact ⟨k + 1, by omega, by go_num, Lib.hid (by rw [HS.out, hall.out]; simp [inB]; omega)⟩
        case measure => simp [intOf]; omega
    · go_wp2
      go_ret
      have e : s.data.toList.take k = s.data.toList := List.take_of_length_le (by simp; omega)
      exact ⟨ret_bool (by rw [← e]; exact hall.symm), rfl⟩

def daysB (a b : Int) : Bool := inB a 0 100000 && inB b a 100000
def rulesB (l d y t : Int) : Bool := inB l 0 5 && inB d 0 5 && inB y 0 1000 && inB t 1 1000

set_option maxHeartbeats 400000 in
theorem daysValid_any (a b : Int) (w : World) :
    Calls Tryz.prog 75 #[.int .i64 a, .int .i64 b] w fun e w' => e = .returned (.bool (daysB a b)) ∧ w = w' := by
  go_enter Tryz.func75, Tryz.ntmps75
  go_wp2_with (go_at_call 35; refine (within_any _ _ _ _).mono ?_; rintro e w' ⟨rfl, rfl⟩)
  all_goals go_ret
  all_goals exact ⟨ret_bool (by simp [daysB, *]), rfl⟩

set_option maxHeartbeats 400000 in
theorem rulesValid_any (l d y t : Int) (w : World) :
    Calls Tryz.prog 29 #[.agg #[.int .i64 l, .int .i64 d, .int .i64 y, .int .i64 t]] w fun e w' => e = .returned (.bool (rulesB l d y t)) ∧ w' = w.alloc (.cells #[.int .i64 l, .int .i64 d, .int .i64 y, .int .i64 t] 23) := by
  go_enter Tryz.func29, Tryz.ntmps29
  go_wp2_with (go_at_call 35; refine (within_any _ _ _ _).mono ?_; rintro e w' ⟨rfl, rfl⟩)
  all_goals go_ret
  all_goals exact ⟨ret_bool (by simp [rulesB, *]), rfl⟩

set_option maxHeartbeats 400000 in
theorem refRules_any (l d y t : Int) (w : World) :
    Calls Tryz.prog 20 #[.agg #[.int .i64 l, .int .i64 d, .int .i64 y, .int .i64 t]] w fun e w' => e = .returned (.bool (rulesB l d y t)) ∧ w' = w.alloc (.cells #[.int .i64 l, .int .i64 d, .int .i64 y, .int .i64 t] 23) := by
  go_enter Tryz.func20, Tryz.ntmps20
  go_wp2_with (go_at_call 42; refine (refWithin_any _ _ _ _).mono ?_; rintro e w' ⟨rfl, rfl⟩)
  all_goals go_ret
  all_goals exact ⟨ret_bool (by simp [rulesB, *]), rfl⟩

set_option maxHeartbeats 400000 in
theorem spanned_any (a b lo hi : Int) (w : World) :
    Calls Tryz.prog 47 #[.agg #[.int .i64 a, .int .i64 b], .int .i64 lo, .int .i64 hi] w fun e w' => e = .returned (.bool (decide (lo ≤ a) && decide (a ≤ b) && decide (b ≤ hi))) ∧ w' = w.alloc (.cells #[.int .i64 a, .int .i64 b] 44) := by
  go_enter Tryz.func47, Tryz.ntmps47
  go_wp2
  all_goals go_ret
  all_goals refine ⟨ret_bool ?_, rfl⟩
  · have h1 : lo ≤ a := by assumption
    have h2 : a ≤ b := by assumption
    simp [h1, h2]
  · have h1 : lo ≤ a := by assumption
    have h2 : b < a := by assumption
    have h3 : ¬ a ≤ b := by omega
    simp [h3]
  · have h1 : a < lo := by assumption
    have h3 : ¬ lo ≤ a := by omega
    simp [h3]

def numB (s : List UInt8) : Bool := s.isEmpty || (decide (s.length = 9) && allB s 48 57)

set_option maxHeartbeats 400000 in
theorem numberValid_any (s : ByteArray) (w : World) (hs : s.size ≤ maxLen) :
    Calls Tryz.prog 76 #[.string s] w fun e w' => e = .returned (.bool (numB s.data.toList)) ∧ w = w' := by
  go_enter Tryz.func76, Tryz.ntmps76
  go_wp2_with (go_at_call 94; refine (only_any _ _ _ _ hs).mono ?_; rintro e w' ⟨rfl, rfl⟩)
  all_goals go_ret
  all_goals refine ⟨ret_bool ?_, rfl⟩
  · have h : s.toList.isEmpty = true := by assumption
    rw [ByteArray.toList_eq] at h
    simp [numB, h]
  · have h : s.toList.isEmpty = false := by assumption
    have h9 : (s.size : Int) = 9 := by assumption
    rw [ByteArray.toList_eq] at h
    have h9' : s.data.toList.length = 9 := by simp; omega
    simp only [numB, h, h9', decide_true, Bool.false_or, Bool.true_and]
  · have h : s.toList.isEmpty = false := by assumption
    have h9 : ¬ (s.size : Int) = 9 := by assumption
    rw [ByteArray.toList_eq] at h
    have h9' : ¬ s.data.toList.length = 9 := by simp; omega
    simp only [numB, h, h9', decide_false, Bool.false_or, Bool.false_and]

end Go.Proofs.YtbkmfomdhjhkpaaGreat
