/- Two records that read alike are the same. -/
import Derived.Test.YtbkmfomdhjhkpaaGreatTwin
namespace Go.Proofs.YtbkmfomdhjhkpaaGreat
open Go.RowKit

theorem below_drewN {B : Nat} {a w : World} (h : Below B a w) (n : Nat) : Below B a (w.drewN n) := ⟨h.os, h.tape, h.output, h.size, h.block⟩

set_option maxRecDepth 100000 in
set_option maxHeartbeats 1000000 in
theorem same_any (A D A' D' : Option Addr) (c d c' d' : Nat) (r : Rec) (w : World) (h : RecAt w w.heap.size A D r) (h' : RecAt w w.heap.size A' D' r) :
    Calls Tryz.prog 44 #[.agg #[.int .i64 r.id, .slice A r.names.length c, .int .u8 r.suf, .int .i64 r.lo, .int .i64 r.hi, .string r.num, .bool r.twin, .slice D r.stays.length d], .agg #[.int .i64 r.id, .slice A' r.names.length c', .int .u8 r.suf, .int .i64 r.lo, .int .i64 r.hi, .string r.num, .bool r.twin, .slice D' r.stays.length d']] w fun e w' => e = .returned (.bool true) ∧ Below w.heap.size w w' := by
  have hnl := h.names_le
  have hsl := h.stays_le
  unfold maxLen at hnl hsl
  go_enter Tryz.func44, Tryz.ntmps44
  go_wp2_with fail
  have s1 := (h.alloc (Nat.le_refl _) (.cells #[.int .i64 r.id, .slice A r.names.length c, .int .u8 r.suf, .int .i64 r.lo, .int .i64 r.hi, .string r.num, .bool r.twin, .slice D r.stays.length d] 47)).alloc (by simp) (.cells #[.int .i64 r.id, .slice A' r.names.length c', .int .u8 r.suf, .int .i64 r.lo, .int .i64 r.hi, .string r.num, .bool r.twin, .slice D' r.stays.length d'] 47)
  have s2 := (h'.alloc (Nat.le_refl _) (.cells #[.int .i64 r.id, .slice A r.names.length c, .int .u8 r.suf, .int .i64 r.lo, .int .i64 r.hi, .string r.num, .bool r.twin, .slice D r.stays.length d] 47)).alloc (by simp) (.cells #[.int .i64 r.id, .slice A' r.names.length c', .int .u8 r.suf, .int .i64 r.lo, .int .i64 r.hi, .string r.num, .bool r.twin, .slice D' r.stays.length d'] 47)
  go_loopw [5] (fun i wr => ∃ k : Nat, k ≤ r.names.length ∧ i = .int .i64 k ∧ ∃ m, wr = ((w.alloc (.cells #[.int .i64 r.id, .slice A r.names.length c, .int .u8 r.suf, .int .i64 r.lo, .int .i64 r.hi, .string r.num, .bool r.twin, .slice D r.stays.length d] 47)).alloc (.cells #[.int .i64 r.id, .slice A' r.names.length c', .int .u8 r.suf, .int .i64 r.lo, .int .i64 r.hi, .string r.num, .bool r.twin, .slice D' r.stays.length d'] 47)).drewN m) (fun i _ => r.names.length - (intOf i).toNat)
  case atStart => exact ⟨0, Nat.zero_le _, rfl, 0, rfl⟩
  case round =>
    obtain ⟨k, hk, rfl, m, rfl⟩ := hrel
    by_cases hlt : k < r.names.length
    · obtain ⟨b, off, rfl, hb, hc, hs⟩ := s1.strs k hlt
      obtain ⟨b', off', rfl, hb', hc', hs'⟩ := s2.strs k hlt
      generalize r.names[k] = s at hc hs hc' hs'
      have hlt' : (k : Int) < (r.names.length : Int) := by omega
      go_wp2
      go_quiet (fail)
      go_wp2
      go_roundw
      case rel => exact ⟨k + 1, by omega, by go_num, _, rfl⟩
      case measure => simp [intOf]; omega
    · go_wp2
      go_loopw [6] (fun i wr => ∃ k : Nat, k ≤ r.stays.length ∧ i = .int .i64 k ∧ ∃ m, wr = ((w.alloc (.cells #[.int .i64 r.id, .slice A r.names.length c, .int .u8 r.suf, .int .i64 r.lo, .int .i64 r.hi, .string r.num, .bool r.twin, .slice D r.stays.length d] 47)).alloc (.cells #[.int .i64 r.id, .slice A' r.names.length c', .int .u8 r.suf, .int .i64 r.lo, .int .i64 r.hi, .string r.num, .bool r.twin, .slice D' r.stays.length d'] 47)).drewN m) (fun i _ => r.stays.length - (intOf i).toNat)
      case atStart => exact ⟨0, Nat.zero_le _, rfl, m, rfl⟩
      case round =>
        obtain ⟨k, hk, rfl, m, rfl⟩ := hrel
        by_cases hlt : k < r.stays.length
        · obtain ⟨b, off, rfl, hb, c1, c2, c3⟩ := s1.stays k hlt
          obtain ⟨b', off', rfl, hb', c1', c2', c3'⟩ := s2.stays k hlt
          generalize r.stays[k] = s at c1 c2 c3 c1' c2' c3'
          have hlt' : (k : Int) < (r.stays.length : Int) := by omega
          go_wp2
          go_quiet (fail)
          go_wp2
          go_roundw
          case rel => exact ⟨k + 1, by omega, by go_num, _, rfl⟩
          case measure => simp [intOf]; omega
        · go_wp2
          go_ret
          exact ⟨rfl, below_drewN ((((Below.refl _ _).alloc (Nat.le_refl _) _).alloc (by simp) _)) _⟩

end Go.Proofs.YtbkmfomdhjhkpaaGreat
