/- The checks of rules and a record (both), whether a record is great, a record in new memory, and whether two records are the same. -/
import Derived.Test.YtoinegfcodnjhaaGreatDoorRef
namespace Go.Proofs.YtoinegfcodnjhaaGreatDoor
open Go.RowKit

def chk (u : Rul) (r : Rec) : Int := if rulesB u.l u.d u.y u.t then (if recB r then 0 else 11) else 10

set_option maxHeartbeats 400000 in
theorem check_any (u : Rul) (A D : Option Addr) (c d : Nat) (r : Rec) (w : World) (h : RecAt w w.heap.size A D r) :
    Calls Tryz.prog 17 #[.agg #[.int .i64 u.l, .int .i64 u.d, .int .i64 u.y, .int .i64 u.t], .agg #[.int .i64 r.id, .slice A r.names.length c, .int .u8 r.suf, .int .i64 r.lo, .int .i64 r.hi, .string r.num, .bool r.twin, .slice D r.stays.length d]] w fun e w' => e = .returned (.int .i64 (chk u r)) ∧ Below w.heap.size w w' := by
  have h2 := ((h.alloc (Nat.le_refl _) (.cells #[.int .i64 u.l, .int .i64 u.d, .int .i64 u.y, .int .i64 u.t] 34)).alloc (by simp) (.cells #[.int .i64 r.id, .slice A r.names.length c, .int .u8 r.suf, .int .i64 r.lo, .int .i64 r.hi, .string r.num, .bool r.twin, .slice D r.stays.length d] 41)).alloc (by simp; omega) (.cells #[.int .i64 u.l, .int .i64 u.d, .int .i64 u.y, .int .i64 u.t] 34)
  have h3 := h2.more (show w.heap.size ≤ w.heap.size + 3 by omega)
  go_enter Tryz.func17, Tryz.ntmps17
  go_wp2_with (first
    | (go_at_call 20; refine (rulesValid_any _ _ _ _ _).mono ?_; rintro e w' ⟨rfl, rfl⟩)
    | (go_at_call 33; refine (recordValid_any _ _ _ _ _ _ (by simpa using h3)).mono ?_; rintro e w1 ⟨rfl, hb1⟩))
  · have g : (!rulesB u.l u.d u.y u.t) = true := by assumption
    simp only [Bool.not_eq_true'] at g
    go_ret
    exact ⟨ret_int (by simp [chk, g]), (((Below.refl _ _).alloc (Nat.le_refl _) _).alloc (by simp) _).alloc (by simp; omega) _⟩
  · have g : (!rulesB u.l u.d u.y u.t) = false := by assumption
    have k : (!recB r) = true := by assumption
    simp only [Bool.not_eq_true', Bool.not_eq_false'] at g k
    go_ret
    exact ⟨ret_int (by simp [chk, g, k]), ((((Below.refl _ _).alloc (Nat.le_refl _) _).alloc (by simp) _).alloc (by simp; omega) _).trans (hb1.mono (by simp; omega))⟩
  · have g : (!rulesB u.l u.d u.y u.t) = false := by assumption
    have k : (!recB r) = false := by assumption
    simp only [Bool.not_eq_false'] at g k
    go_ret
    exact ⟨ret_int (by simp [chk, g, k]), ((((Below.refl _ _).alloc (Nat.le_refl _) _).alloc (by simp) _).alloc (by simp; omega) _).trans (hb1.mono (by simp; omega))⟩

def great1 (r : Rec) : Bool := decide (8 < r.names.length) || decide (10 < r.stays.length) || decide (20 < r.num.size)
def short (s : ByteArray) : Bool := decide (s.size ≤ 30)
def greatB (r : Rec) : Bool := great1 r || !r.names.all short

end Go.Proofs.YtoinegfcodnjhaaGreatDoor
