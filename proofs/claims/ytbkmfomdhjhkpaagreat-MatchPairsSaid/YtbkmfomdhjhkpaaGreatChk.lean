/- The checks of rules and a record (both), whether a record is great, a record in new memory, and whether two records are the same. -/
import Derived.Test.YtbkmfomdhjhkpaaGreatRef
namespace Go.Proofs.YtbkmfomdhjhkpaaGreat
open Go.RowKit

def chk (u : Rul) (r : Rec) : Int := if rulesB u.l u.d u.y u.t then (if recB r then 0 else 11) else 10

set_option maxHeartbeats 400000 in
theorem check_any (u : Rul) (A D : Option Addr) (c d : Nat) (r : Rec) (w : World) (h : RecAt w w.heap.size A D r) :
    Calls Tryz.prog 51 #[.agg #[.int .i64 u.l, .int .i64 u.d, .int .i64 u.y, .int .i64 u.t], .agg #[.int .i64 r.id, .slice A r.names.length c, .int .u8 r.suf, .int .i64 r.lo, .int .i64 r.hi, .string r.num, .bool r.twin, .slice D r.stays.length d]] w fun e w' => e = .returned (.int .i64 (chk u r)) ∧ Below w.heap.size w w' := by
  have h2 := ((h.alloc (Nat.le_refl _) (.cells #[.int .i64 u.l, .int .i64 u.d, .int .i64 u.y, .int .i64 u.t] 23)).alloc (by simp) (.cells #[.int .i64 r.id, .slice A r.names.length c, .int .u8 r.suf, .int .i64 r.lo, .int .i64 r.hi, .string r.num, .bool r.twin, .slice D r.stays.length d] 47)).alloc (by simp; omega) (.cells #[.int .i64 u.l, .int .i64 u.d, .int .i64 u.y, .int .i64 u.t] 23)
  have h3 := h2.more (show w.heap.size ≤ w.heap.size + 3 by omega)
  go_enter Tryz.func51, Tryz.ntmps51
  go_wp2_with (first
    | (go_at_call 29; refine (rulesValid_any _ _ _ _ _).mono ?_; rintro e w' ⟨rfl, rfl⟩)
    | (go_at_call 54; refine (recordValid_any _ _ _ _ _ _ (by simpa using h3)).mono ?_; rintro e w1 ⟨rfl, hb1⟩))
  · have g : (!rulesB u.l u.d u.y u.t) = true := by assumption
    simp only [Bool.not_eq_true'] at g
    go_ret
    exact ⟨ret_int (by simp [chk, g]), (((Below.refl _ _).alloc (Nat.le_refl _) _).alloc (by simp) _).alloc (by simp; omega) _⟩
  · have g : (!rulesB u.l u.d u.y u.t) = false := by assumption
    have k : (!recB r) = true := by assumption
    simp only [Bool.not_eq_true', Bool.not_eq_false'] at g k
    go_ret
    exact ⟨ret_int (by simp [chk, g, k]), ((((Below.refl _ _).alloc (Nat.le_refl _) _).alloc (by simp) _).alloc (by simp; omega) _).trans (hb1.mono (by simp; omega))⟩
  · have g : (!rulesB u.l u.d u.y u.t) = false := by assumption
    have k : (!recB r) = false := by assumption
    simp only [Bool.not_eq_false'] at g k
    go_ret
    exact ⟨ret_int (by simp [chk, g, k]), ((((Below.refl _ _).alloc (Nat.le_refl _) _).alloc (by simp) _).alloc (by simp; omega) _).trans (hb1.mono (by simp; omega))⟩

def great1 (r : Rec) : Bool := decide (8 < r.names.length) || decide (10 < r.stays.length) || decide (20 < r.num.size)
def short (s : ByteArray) : Bool := decide (s.size ≤ 30)
def greatB (r : Rec) : Bool := great1 r || !r.names.all short

set_option maxHeartbeats 400000 in
theorem greatOne_any (A D : Option Addr) (c d : Nat) (r : Rec) (w : World) (h : RecAt w w.heap.size A D r) :
    Calls Tryz.prog 28 #[.agg #[.int .i64 r.id, .slice A r.names.length c, .int .u8 r.suf, .int .i64 r.lo, .int .i64 r.hi, .string r.num, .bool r.twin, .slice D r.stays.length d]] w fun e w' => e = .returned (.bool (greatB r)) ∧ w' = w.alloc (.cells #[.int .i64 r.id, .slice A r.names.length c, .int .u8 r.suf, .int .i64 r.lo, .int .i64 r.hi, .string r.num, .bool r.twin, .slice D r.stays.length d] 47) := by
  have hnl := h.names_le
  have hsl := h.stays_le
  have hnum := h.num_le
  unfold maxLen at hnl hsl hnum
  have hs2 := h.strs.alloc (Nat.le_refl _) (.cells #[.int .i64 r.id, .slice A r.names.length c, .int .u8 r.suf, .int .i64 r.lo, .int .i64 r.hi, .string r.num, .bool r.twin, .slice D r.stays.length d] 47)
  cases hg : great1 r with
  | true =>
    have Hg := Lib.hid hg
    clear hg
    go_enter Tryz.func28, Tryz.ntmps28
    go_upto_region 1 with fail
    go_cut [19] (fun s wx => s = .bool true ∧ wx = w.alloc (.cells #[.int .i64 r.id, .slice A r.names.length c, .int .u8 r.suf, .int .i64 r.lo, .int .i64 r.hi, .string r.num, .bool r.twin, .slice D r.stays.length d] 47))
    case first =>
      go_wp2
      all_goals go_meet
      all_goals first | exact ⟨rfl, rfl⟩ | (have hx := Hg.out; simp [great1] at hx; exact ⟨by simp; omega, rfl⟩)
    case rest =>
      obtain ⟨rfl, rfl⟩ := hcut
      go_wp2
      go_ret
      exact ⟨ret_bool (by rw [greatB, Hg.out]; rfl), rfl⟩
  | false =>
    have Hg := Lib.hid hg
    clear hg
    go_enter Tryz.func28, Tryz.ntmps28
    go_upto_region 1 with fail
    go_cut [19] (fun s wx => s = .bool false ∧ wx = w.alloc (.cells #[.int .i64 r.id, .slice A r.names.length c, .int .u8 r.suf, .int .i64 r.lo, .int .i64 r.hi, .string r.num, .bool r.twin, .slice D r.stays.length d] 47))
    case first =>
      go_wp2
      all_goals go_meet
      all_goals (have hx := Hg.out; simp [great1] at hx; exact ⟨by simp; omega, rfl⟩)
    case rest =>
      obtain ⟨rfl, rfl⟩ := hcut
      go_wp2
      go_loop [3] (fun i => ∃ k : Nat, k ≤ r.names.length ∧ i = .int .i64 k ∧ Hid ((r.names.take k).all short = true)) (fun i => r.names.length - (intOf i).toNat)
      case atStart => exact ⟨0, Nat.zero_le _, rfl, rfl⟩
      case round =>
        obtain ⟨k, hk, rfl, hall⟩ := hrel
        by_cases hlt : k < r.names.length
        · obtain ⟨b, off, rfl, hb, hc, hs⟩ := hs2 k hlt
          have HN := Lib.hid (all_next short r.names k hlt hall.out)
          have HS := Lib.hid (all_stop short r.names k hlt)
          generalize r.names[k] = s at hc hs HN HS
          unfold maxLen at hs
          go_wp2
          · have e1 : (30 : Int) < (s.size : Int) := by assumption
            go_ret
            exact ⟨ret_bool (by rw [greatB, HS.out (by simp [short]; omega)]; simp), rfl⟩
          · have e1 : (s.size : Int) ≤ 30 := by assumption
            go_round
            case rel => exact ⟨k + 1, by omega, by go_num, Lib.hid (HN.out (by simp [short]; omega))⟩
            case measure => simp [intOf]; omega
        · have hall' := Lib.hid (all_end short r.names k hlt hall.out)
          go_wp2
          go_ret
          exact ⟨ret_bool (by rw [greatB, Hg.out, hall'.out]; rfl), rfl⟩

end Go.Proofs.YtbkmfomdhjhkpaaGreat
