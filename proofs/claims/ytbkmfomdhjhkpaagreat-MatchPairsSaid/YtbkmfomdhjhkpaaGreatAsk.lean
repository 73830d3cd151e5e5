/- What is asked of two records, question by question: the program's. -/
import Derived.Test.YtbkmfomdhjhkpaaGreatNum
namespace Go.Proofs.YtbkmfomdhjhkpaaGreat
open Go.RowKit

structure Mat where
  names : Int
  num : Int
  born : Int
  place : Int
  one : Int
deriving DecidableEq

section
variable (t : Mat) (A D A' D' : Option Addr) (c d c' d' m m' : Nat) (r s : Rec) (w : World)

set_option maxHeartbeats 400000 in
theorem bornApart_any :
    Calls Tryz.prog 99 #[.agg #[.int .u8 t.names, .int .u8 t.num, .int .u8 t.born, .int .u8 t.place, .int .u8 t.one], .agg #[.int .i64 r.id, .slice A r.names.length c, .int .u8 r.suf, .int .i64 r.lo, .int .i64 r.hi, .string r.num, .bool r.twin, .slice D r.stays.length d, .map (some m)], .agg #[.int .i64 s.id, .slice A' s.names.length c', .int .u8 s.suf, .int .i64 s.lo, .int .i64 s.hi, .string s.num, .bool s.twin, .slice D' s.stays.length d', .map (some m')]] w fun e w' => e = .returned (.bool (decide (t.born = 0))) ∧ Below w.heap.size w w' := by
  go_enter Tryz.func99, Tryz.ntmps99
  go_wp2
  go_ret
  exact ⟨ret_bool (by rfl), (((Below.refl _ _).alloc (Nat.le_refl _) _).alloc (by simp) _).alloc (by simp; omega) _⟩

set_option maxHeartbeats 400000 in
theorem seniorAndJunior_any :
    Calls Tryz.prog 100 #[.agg #[.int .u8 t.names, .int .u8 t.num, .int .u8 t.born, .int .u8 t.place, .int .u8 t.one], .agg #[.int .i64 r.id, .slice A r.names.length c, .int .u8 r.suf, .int .i64 r.lo, .int .i64 r.hi, .string r.num, .bool r.twin, .slice D r.stays.length d, .map (some m)], .agg #[.int .i64 s.id, .slice A' s.names.length c', .int .u8 s.suf, .int .i64 s.lo, .int .i64 s.hi, .string s.num, .bool s.twin, .slice D' s.stays.length d', .map (some m')]] w fun e w' => e = .returned (.bool (decide ((r.suf = 1 ∧ s.suf = 2) ∨ (r.suf = 2 ∧ s.suf = 1)))) ∧ Below w.heap.size w w' := by
  go_enter Tryz.func100, Tryz.ntmps100
  go_wp2
  all_goals go_ret
  all_goals exact ⟨ret_bool (by simp_all <;> rfl), (((Below.refl _ _).alloc (Nat.le_refl _) _).alloc (by simp) _).alloc (by simp; omega) _⟩

set_option maxHeartbeats 400000 in
theorem namesApart_any :
    Calls Tryz.prog 101 #[.agg #[.int .u8 t.names, .int .u8 t.num, .int .u8 t.born, .int .u8 t.place, .int .u8 t.one], .agg #[.int .i64 r.id, .slice A r.names.length c, .int .u8 r.suf, .int .i64 r.lo, .int .i64 r.hi, .string r.num, .bool r.twin, .slice D r.stays.length d, .map (some m)], .agg #[.int .i64 s.id, .slice A' s.names.length c', .int .u8 s.suf, .int .i64 s.lo, .int .i64 s.hi, .string s.num, .bool s.twin, .slice D' s.stays.length d', .map (some m')]] w fun e w' => e = .returned (.bool (decide (t.names = 0) && decide (t.num ≠ 3))) ∧ Below w.heap.size w w' := by
  go_enter Tryz.func101, Tryz.ntmps101
  go_wp2
  all_goals go_ret
  all_goals exact ⟨ret_bool (by simp_all <;> rfl), (((Below.refl _ _).alloc (Nat.le_refl _) _).alloc (by simp) _).alloc (by simp; omega) _⟩

set_option maxHeartbeats 400000 in
theorem numbersApart_any :
    Calls Tryz.prog 102 #[.agg #[.int .u8 t.names, .int .u8 t.num, .int .u8 t.born, .int .u8 t.place, .int .u8 t.one], .agg #[.int .i64 r.id, .slice A r.names.length c, .int .u8 r.suf, .int .i64 r.lo, .int .i64 r.hi, .string r.num, .bool r.twin, .slice D r.stays.length d, .map (some m)], .agg #[.int .i64 s.id, .slice A' s.names.length c', .int .u8 s.suf, .int .i64 s.lo, .int .i64 s.hi, .string s.num, .bool s.twin, .slice D' s.stays.length d', .map (some m')]] w fun e w' => e = .returned (.bool (decide (t.num = 0) && decide (t.place ≠ 3))) ∧ Below w.heap.size w w' := by
  go_enter Tryz.func102, Tryz.ntmps102
  go_wp2
  all_goals go_ret
  all_goals exact ⟨ret_bool (by simp_all <;> rfl), (((Below.refl _ _).alloc (Nat.le_refl _) _).alloc (by simp) _).alloc (by simp; omega) _⟩

set_option maxHeartbeats 400000 in
theorem twins_any :
    Calls Tryz.prog 103 #[.agg #[.int .u8 t.names, .int .u8 t.num, .int .u8 t.born, .int .u8 t.place, .int .u8 t.one], .agg #[.int .i64 r.id, .slice A r.names.length c, .int .u8 r.suf, .int .i64 r.lo, .int .i64 r.hi, .string r.num, .bool r.twin, .slice D r.stays.length d, .map (some m)], .agg #[.int .i64 s.id, .slice A' s.names.length c', .int .u8 s.suf, .int .i64 s.lo, .int .i64 s.hi, .string s.num, .bool s.twin, .slice D' s.stays.length d', .map (some m')]] w fun e w' => e = .returned (.bool ((r.twin || s.twin) && decide (t.num ≠ 3 ∧ t.names ≠ 3))) ∧ Below w.heap.size w w' := by
  go_enter Tryz.func103, Tryz.ntmps103
  go_wp2
  all_goals go_ret
  all_goals exact ⟨ret_bool (by simp_all <;> rfl), (((Below.refl _ _).alloc (Nat.le_refl _) _).alloc (by simp) _).alloc (by simp; omega) _⟩

set_option maxHeartbeats 400000 in
theorem oneNumber_any :
    Calls Tryz.prog 104 #[.agg #[.int .u8 t.names, .int .u8 t.num, .int .u8 t.born, .int .u8 t.place, .int .u8 t.one], .agg #[.int .i64 r.id, .slice A r.names.length c, .int .u8 r.suf, .int .i64 r.lo, .int .i64 r.hi, .string r.num, .bool r.twin, .slice D r.stays.length d, .map (some m)], .agg #[.int .i64 s.id, .slice A' s.names.length c', .int .u8 s.suf, .int .i64 s.lo, .int .i64 s.hi, .string s.num, .bool s.twin, .slice D' s.stays.length d', .map (some m')]] w fun e w' => e = .returned (.bool (decide (t.num = 3) && (decide (t.names = 3) || decide (t.names = 2)))) ∧ Below w.heap.size w w' := by
  go_enter Tryz.func104, Tryz.ntmps104
  go_wp2
  all_goals go_ret
  all_goals exact ⟨ret_bool (by simp_all <;> rfl), (((Below.refl _ _).alloc (Nat.le_refl _) _).alloc (by simp) _).alloc (by simp; omega) _⟩

set_option maxHeartbeats 1000000 in
theorem oneLife_any :
    Calls Tryz.prog 105 #[.agg #[.int .u8 t.names, .int .u8 t.num, .int .u8 t.born, .int .u8 t.place, .int .u8 t.one], .agg #[.int .i64 r.id, .slice A r.names.length c, .int .u8 r.suf, .int .i64 r.lo, .int .i64 r.hi, .string r.num, .bool r.twin, .slice D r.stays.length d, .map (some m)], .agg #[.int .i64 s.id, .slice A' s.names.length c', .int .u8 s.suf, .int .i64 s.lo, .int .i64 s.hi, .string s.num, .bool s.twin, .slice D' s.stays.length d', .map (some m')]] w fun e w' => e = .returned (.bool (decide (t.names = 3 ∧ t.born = 3 ∧ t.place = 3) && !r.twin && !s.twin)) ∧ Below w.heap.size w w' := by
  go_enter Tryz.func105, Tryz.ntmps105
  go_wp2
  all_goals go_ret
  all_goals exact ⟨ret_bool (by simp_all <;> rfl), (((((Below.refl _ _).alloc (Nat.le_refl _) _).alloc (by simp) _).alloc (by simp; omega) _).alloc (by simp; omega) _).alloc (by simp; omega) _⟩
end

end Go.Proofs.YtbkmfomdhjhkpaaGreat
