/- What is asked of two records, question by question: the program's. -/
import Derived.Test.YtmnkcblopbjiaaaNum
namespace Go.Proofs.Ytmnkcblopbjiaaa
open Go.RowKit

structure Mat where
  names : Int
  num : Int
  born : Int
  place : Int
  one : Int
deriving DecidableEq

section
variable (t : Mat) (A D A' D' : Option Addr) (c d c' d' m m' : Nat) (r s : Rec) (w : World)

set_option maxHeartbeats 400000 in
theorem bornApart_any :
    Calls Try.prog 52 #[.agg #[.int .u8 t.names, .int .u8 t.num, .int .u8 t.born, .int .u8 t.place, .int .u8 t.one], .agg #[.int .i64 r.id, .slice A r.names.length c, .int .u8 r.suf, .int .i64 r.lo, .int .i64 r.hi, .string r.num, .bool r.twin, .slice D r.stays.length d, .map (some m)], .agg #[.int .i64 s.id, .slice A' s.names.length c', .int .u8 s.suf, .int .i64 s.lo, .int .i64 s.hi, .string s.num, .bool s.twin, .slice D' s.stays.length d', .map (some m')]] w fun e w' => e = .returned (.bool (decide (t.born = 0))) ∧ Below w.heap.size w w' := by
  go_enter Try.func52, Try.ntmps52
  go_wp2
  go_ret
  exact ⟨ret_bool (by rfl), (((Below.refl _ _).alloc (Nat.le_refl _) _).alloc (by simp) _).alloc (by simp; omega) _⟩

set_option maxHeartbeats 400000 in
theorem seniorAndJunior_any :
    Calls Try.prog 53 #[.agg #[.int .u8 t.names, .int .u8 t.num, .int .u8 t.born, .int .u8 t.place, .int .u8 t.one], .agg #[.int .i64 r.id, .slice A r.names.length c, .int .u8 r.suf, .int .i64 r.lo, .int .i64 r.hi, .string r.num, .bool r.twin, .slice D r.stays.length d, .map (some m)], .agg #[.int .i64 s.id, .slice A' s.names.length c', .int .u8 s.suf, .int .i64 s.lo, .int .i64 s.hi, .string s.num, .bool s.twin, .slice D' s.stays.length d', .map (some m')]] w fun e w' => e = .returned (.bool (decide ((r.suf = 1 ∧ s.suf = 2) ∨ (r.suf = 2 ∧ s.suf = 1)))) ∧ Below w.heap.size w w' := by
  go_enter Try.func53, Try.ntmps53
  go_wp2
  all_goals go_ret
  all_goals exact ⟨ret_bool (by simp_all <;> rfl), (((Below.refl _ _).alloc (Nat.le_refl _) _).alloc (by simp) _).alloc (by simp; omega) _⟩

set_option maxHeartbeats 400000 in
theorem namesApart_any :
    Calls Try.prog 54 #[.agg #[.int .u8 t.names, .int .u8 t.num, .int .u8 t.born, .int .u8 t.place, .int .u8 t.one], .agg #[.int .i64 r.id, .slice A r.names.length c, .int .u8 r.suf, .int .i64 r.lo, .int .i64 r.hi, .string r.num, .bool r.twin, .slice D r.stays.length d, .map (some m)], .agg #[.int .i64 s.id, .slice A' s.names.length c', .int .u8 s.suf, .int .i64 s.lo, .int .i64 s.hi, .string s.num, .bool s.twin, .slice D' s.stays.length d', .map (some m')]] w fun e w' => e = .returned (.bool (decide (t.names = 0) && decide (t.num ≠ 3))) ∧ Below w.heap.size w w' := by
  go_enter Try.func54, Try.ntmps54
  go_wp2
  all_goals go_ret
  all_goals exact ⟨ret_bool (by simp_all <;> rfl), (((Below.refl _ _).alloc (Nat.le_refl _) _).alloc (by simp) _).alloc (by simp; omega) _⟩

set_option maxHeartbeats 400000 in
theorem numbersApart_any :
    Calls Try.prog 55 #[.agg #[.int .u8 t.names, .int .u8 t.num, .int .u8 t.born, .int .u8 t.place, .int .u8 t.one], .agg #[.int .i64 r.id, .slice A r.names.length c, .int .u8 r.suf, .int .i64 r.lo, .int .i64 r.hi, .string r.num, .bool r.twin, .slice D r.stays.length d, .map (some m)], .agg #[.int .i64 s.id, .slice A' s.names.length c', .int .u8 s.suf, .int .i64 s.lo, .int .i64 s.hi, .string s.num, .bool s.twin, .slice D' s.stays.length d', .map (some m')]] w fun e w' => e = .returned (.bool (decide (t.num = 0) && decide (t.place ≠ 3))) ∧ Below w.heap.size w w' := by
  go_enter Try.func55, Try.ntmps55
  go_wp2
  all_goals go_ret
  all_goals exact ⟨ret_bool (by simp_all <;> rfl), (((Below.refl _ _).alloc (Nat.le_refl _) _).alloc (by simp) _).alloc (by simp; omega) _⟩

set_option maxHeartbeats 400000 in
theorem twins_any :
    Calls Try.prog 56 #[.agg #[.int .u8 t.names, .int .u8 t.num, .int .u8 t.born, .int .u8 t.place, .int .u8 t.one], .agg #[.int .i64 r.id, .slice A r.names.length c, .int .u8 r.suf, .int .i64 r.lo, .int .i64 r.hi, .string r.num, .bool r.twin, .slice D r.stays.length d, .map (some m)], .agg #[.int .i64 s.id, .slice A' s.names.length c', .int .u8 s.suf, .int .i64 s.lo, .int .i64 s.hi, .string s.num, .bool s.twin, .slice D' s.stays.length d', .map (some m')]] w fun e w' => e = .returned (.bool ((r.twin || s.twin) && decide (t.num ≠ 3 ∧ t.names ≠ 3))) ∧ Below w.heap.size w w' := by
  go_enter Try.func56, Try.ntmps56
  go_wp2
  all_goals go_ret
  all_goals exact ⟨ret_bool (by simp_all <;> rfl), (((Below.refl _ _).alloc (Nat.le_refl _) _).alloc (by simp) _).alloc (by simp; omega) _⟩

set_option maxHeartbeats 400000 in
theorem oneNumber_any :
    Calls Try.prog 57 #[.agg #[.int .u8 t.names, .int .u8 t.num, .int .u8 t.born, .int .u8 t.place, .int .u8 t.one], .agg #[.int .i64 r.id, .slice A r.names.length c, .int .u8 r.suf, .int .i64 r.lo, .int .i64 r.hi, .string r.num, .bool r.twin, .slice D r.stays.length d, .map (some m)], .agg #[.int .i64 s.id, .slice A' s.names.length c', .int .u8 s.suf, .int .i64 s.lo, .int .i64 s.hi, .string s.num, .bool s.twin, .slice D' s.stays.length d', .map (some m')]] w fun e w' => e = .returned (.bool (decide (t.num = 3) && (decide (t.names = 3) || decide (t.names = 2)))) ∧ Below w.heap.size w w' := by
  go_enter Try.func57, Try.ntmps57
  go_wp2
  all_goals go_ret
  all_goals exact ⟨ret_bool (by simp_all <;> rfl), (((Below.refl _ _).alloc (Nat.le_refl _) _).alloc (by simp) _).alloc (by simp; omega) _⟩

set_option maxHeartbeats 1000000 in
theorem oneLife_any :
    Calls Try.prog 58 #[.agg #[.int .u8 t.names, .int .u8 t.num, .int .u8 t.born, .int .u8 t.place, .int .u8 t.one], .agg #[.int .i64 r.id, .slice A r.names.length c, .int .u8 r.suf, .int .i64 r.lo, .int .i64 r.hi, .string r.num, .bool r.twin, .slice D r.stays.length d, .map (some m)], .agg #[.int .i64 s.id, .slice A' s.names.length c', .int .u8 s.suf, .int .i64 s.lo, .int .i64 s.hi, .string s.num, .bool s.twin, .slice D' s.stays.length d', .map (some m')]] w fun e w' => e = .returned (.bool (decide (t.names = 3 ∧ t.born = 3 ∧ t.place = 3) && !r.twin && !s.twin)) ∧ Below w.heap.size w w' := by
  go_enter Try.func58, Try.ntmps58
  go_wp2
  all_goals go_ret
  all_goals exact ⟨ret_bool (by simp_all <;> rfl), (((((Below.refl _ _).alloc (Nat.le_refl _) _).alloc (by simp) _).alloc (by simp; omega) _).alloc (by simp; omega) _).alloc (by simp; omega) _⟩
end

end Go.Proofs.Ytmnkcblopbjiaaa
