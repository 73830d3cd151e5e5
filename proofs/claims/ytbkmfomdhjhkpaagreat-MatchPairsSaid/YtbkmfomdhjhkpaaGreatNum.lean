/- How numbers and births of two records agree: the program's and the reference's. -/
import Derived.Test.YtbkmfomdhjhkpaaGreatWords
namespace Go.Proofs.YtbkmfomdhjhkpaaGreat
open Go.RowKit

def numS (dg : Int) (a b : ByteArray) : Int := if a.toList.isEmpty = true ∨ b.toList.isEmpty = true then 1 else if diffs a b 9 = 0 then 3 else if (diffs a b 9 : Int) ≤ dg then 2 else 0

theorem diffs_zero (a b : ByteArray) (k : Nat) : diffs a b k = 0 ↔ ∀ i, i < k → a.data.toList[i]? = b.data.toList[i]? := by
  induction k with
  | zero => simp [diffs]
  | succ k ih =>
    rw [diffs_succ]
    constructor
    · intro h i hi
      split at h
      · rename_i he
        by_cases e : i = k
        · subst e; exact he
        · exact ih.1 (by omega) i (by omega)
      · omega
    · intro h
      rw [if_pos (h k (by omega)), ih.2 (fun i hi => h i (by omega))]
theorem diffs_eq (a b : ByteArray) (ha : a.size = 9) (hb : b.size = 9) : diffs a b 9 = 0 ↔ a.toList = b.toList := by
  rw [diffs_zero, ByteArray.toList_eq, ByteArray.toList_eq]
  constructor
  · intro h
    apply List.ext_getElem? fun i => ?_
    by_cases hi : i < 9
    · exact h i hi
    · rw [List.getElem?_eq_none (by rw [len_size]; omega), List.getElem?_eq_none (by rw [len_size]; omega)]
  · intro h i _; rw [h]

set_option maxHeartbeats 1000000 in
theorem refNumbers_any (u : Rul) (a b : ByteArray) (w : World) (ha : a.toList.isEmpty = false → a.size = 9) (hb : b.toList.isEmpty = false → b.size = 9) :
    Calls Tryz.prog 63 #[.agg #[.int .i64 u.l, .int .i64 u.d, .int .i64 u.y, .int .i64 u.t], .string a, .string b] w fun e w' => e = .returned (.int .u8 (numS u.d a b)) ∧ Below w.heap.size w w' := by
  cases hA : a.toList.isEmpty with
  | true =>
    have e : numS u.d a b = 1 := by simp [numS, hA]
    rw [e]
    clear e ha hb
    go_enter Tryz.func63, Tryz.ntmps63
    go_wp2
    go_ret
    exact ⟨rfl, (Below.refl _ _).alloc (Nat.le_refl _) _⟩
  | false =>
    cases hB : b.toList.isEmpty with
    | true =>
      have e : numS u.d a b = 1 := by simp [numS, hB]
      rw [e]
      clear e ha hb
      go_enter Tryz.func63, Tryz.ntmps63
      go_wp2
      go_ret
      exact ⟨rfl, (Below.refl _ _).alloc (Nat.le_refl _) _⟩
    | false =>
      have ha9 := Lib.hid (ha hA)
      have hb9 := Lib.hid (hb hB)
      have e : Hid (numS u.d a b = if diffs a b 9 = 0 then 3 else if (diffs a b 9 : Int) ≤ u.d then 2 else 0) := Lib.hid (by simp [numS, hA, hB])
      clear ha hb
      go_enter Tryz.func63, Tryz.ntmps63
      go_wp2
      go_loopw [7, 8] (fun n i wr => ∃ k : Nat, k ≤ 9 ∧ i = .int .i64 k ∧ n = .int .i64 (diffs a b k) ∧ ∃ m, wr = (w.alloc (.cells #[.int .i64 u.l, .int .i64 u.d, .int .i64 u.y, .int .i64 u.t] 23)).drewN m) (fun _ i _ => 9 - (intOf i).toNat)
      case atStart => exact ⟨0, Nat.zero_le _, rfl, rfl, 0, rfl⟩
      case round =>
        obtain ⟨k, hk, rfl, rfl, m, rfl⟩ := hrel
        by_cases hlt : k < 9
        · have hka : (k : Int) < (a.size : Int) := by have := ha9.out; omega
          have hkb : (k : Int) < (b.size : Int) := by have := hb9.out; omega
          have hk9 : (k : Int) < 9 := by omega
          have HS := Lib.hid (diffs_succ a b k)
          have HD := Lib.hid (digit_eq a b k (by omega) (by omega))
          have hle := diffs_le a b k
          generalize diffs a b k = n at HS hle
          go_wp2
          go_quiet (fail)
          go_wp2
          · have h : ¬ (a[k].toNat : Int) = (b[k].toNat : Int) := by
              have ht : ((a[k].toNat : Int) != (b[k].toNat : Int)) = true := by assumption
              simpa using ht
            go_roundw
            case rel => exact ⟨k + 1, by omega, by go_num, by rw [HS.out, if_neg (fun e => h (HD.out.1 e))]; go_num, _, rfl⟩
            case measure => simp [intOf]; omega
          · have h : (a[k].toNat : Int) = (b[k].toNat : Int) := by
              have ht : ((a[k].toNat : Int) != (b[k].toNat : Int)) = false := by assumption
              simpa using ht
            go_roundw
            case rel => exact ⟨k + 1, by omega, by go_num, by rw [HS.out, if_pos (HD.out.2 h)]; go_num, _, rfl⟩
            case measure => simp [intOf]; omega
        · obtain rfl : k = 9 := by omega
          generalize diffs a b 9 = n at e
          go_wp2
          · have h : ((n : Int) == 0) = true := by assumption
            go_ret
            exact ⟨ret_int (by rw [e.out, if_pos (by simpa using h)]), below_drewN ((Below.refl _ _).alloc (Nat.le_refl _) _) _⟩
          · have h : ((n : Int) == 0) = false := by assumption
            have h2 : (n : Int) ≤ u.d := by assumption
            go_ret
            exact ⟨ret_int (by rw [e.out, if_neg (by simpa using h), if_pos h2]), below_drewN ((Below.refl _ _).alloc (Nat.le_refl _) _) _⟩
          · have h : ((n : Int) == 0) = false := by assumption
            have h2 : u.d < (n : Int) := by assumption
            go_ret
            exact ⟨ret_int (by rw [e.out, if_neg (by simpa using h), if_neg (by omega)]), below_drewN ((Below.refl _ _).alloc (Nat.le_refl _) _) _⟩

set_option maxHeartbeats 1000000 in
theorem numbersAgree_any (u : Rul) (A D A' D' : Option Addr) (c d c' d' m m' : Nat) (r s : Rec) (w : World) (ha : r.num.toList.isEmpty = false → r.num.size = 9) (hb : s.num.toList.isEmpty = false → s.num.size = 9) :
    Calls Tryz.prog 58 #[.agg #[.int .i64 u.l, .int .i64 u.d, .int .i64 u.y, .int .i64 u.t], .agg #[.int .i64 r.id, .slice A r.names.length c, .int .u8 r.suf, .int .i64 r.lo, .int .i64 r.hi, .string r.num, .bool r.twin, .slice D r.stays.length d, .map (some m)], .agg #[.int .i64 s.id, .slice A' s.names.length c', .int .u8 s.suf, .int .i64 s.lo, .int .i64 s.hi, .string s.num, .bool s.twin, .slice D' s.stays.length d', .map (some m')]] w fun e w' => e = .returned (.int .u8 (numS u.d r.num s.num)) ∧ Below w.heap.size w w' := by
  have hbel : Below w.heap.size w (((w.alloc (.cells #[.int .i64 u.l, .int .i64 u.d, .int .i64 u.y, .int .i64 u.t] 23)).alloc (.cells #[.int .i64 r.id, .slice A r.names.length c, .int .u8 r.suf, .int .i64 r.lo, .int .i64 r.hi, .string r.num, .bool r.twin, .slice D r.stays.length d, .map (some m)] 83)).alloc (.cells #[.int .i64 s.id, .slice A' s.names.length c', .int .u8 s.suf, .int .i64 s.lo, .int .i64 s.hi, .string s.num, .bool s.twin, .slice D' s.stays.length d', .map (some m')] 83)) := (((Below.refl _ _).alloc (Nat.le_refl _) _).alloc (by simp) _).alloc (by simp; omega) _
  cases hA : r.num.toList.isEmpty with
  | true =>
    have e : numS u.d r.num s.num = 1 := by simp [numS, hA]
    rw [e]
    clear e ha hb
    go_enter Tryz.func58, Tryz.ntmps58
    go_wp2
    go_ret
    exact ⟨rfl, hbel⟩
  | false =>
    cases hB : s.num.toList.isEmpty with
    | true =>
      have e : numS u.d r.num s.num = 1 := by simp [numS, hB]
      rw [e]
      clear e ha hb
      go_enter Tryz.func58, Tryz.ntmps58
      go_wp2
      go_ret
      exact ⟨rfl, hbel⟩
    | false =>
      have ha9 := ha hA
      have hb9 := hb hB
      have e : Hid (numS u.d r.num s.num = if diffs r.num s.num 9 = 0 then 3 else if (diffs r.num s.num 9 : Int) ≤ u.d then 2 else 0) := Lib.hid (by simp [numS, hA, hB])
      have hD := Lib.hid (diffs_eq _ _ ha9 hb9)
      have hcon := fun W => unlikeDigits_any r.num s.num W ha9 hb9
      have hc := Lib.hid hcon
      clear ha hb ha9 hb9 hcon
      generalize diffs r.num s.num 9 = n at e hD hc
      cases hE : (r.num.toList == s.num.toList) with
      | true =>
        go_enter Tryz.func58, Tryz.ntmps58
        go_wp2
        go_ret
        exact ⟨ret_int (by rw [e.out, if_pos (hD.out.2 (by simpa using hE))]), hbel⟩
      | false =>
        have hn : ¬ n = 0 := fun h => by have := hD.out.1 h; rw [this] at hE; simp at hE
        cases hL : decide ((n : Int) ≤ u.d) with
        | true =>
          go_enter Tryz.func58, Tryz.ntmps58
          go_wp2
          go_quiet ((go_at_call 86; refine Calls.quiet_of (hc.out _)))
          go_wp2
          go_ret
          exact ⟨ret_int (by rw [e.out, if_neg hn, if_pos (of_decide_eq_true hL)]), below_drewN hbel _⟩
        | false =>
          go_enter Tryz.func58, Tryz.ntmps58
          go_wp2
          go_quiet ((go_at_call 86; refine Calls.quiet_of (hc.out _)))
          go_wp2
          go_ret
          exact ⟨ret_int (by rw [e.out, if_neg hn, if_neg (of_decide_eq_false hL)]), below_drewN hbel _⟩

/-- How births agree, days being up to 'off' apart. -/
def birS (off a b c d : Int) : Int := if a = b ∧ a = c ∧ b = d then 3 else if a - d ≤ off ∧ c - b ≤ off then 1 else 0

set_option maxHeartbeats 1000000 in
theorem refBirths_any (u : Rul) (a b c d : Int) (w : World) (ha : 0 ≤ a ∧ a ≤ 100000) (hb : 0 ≤ b ∧ b ≤ 100000) (hc : 0 ≤ c ∧ c ≤ 100000) (hd : 0 ≤ d ∧ d ≤ 100000) :
    Calls Tryz.prog 64 #[.agg #[.int .i64 u.l, .int .i64 u.d, .int .i64 u.y, .int .i64 u.t], .agg #[.int .i64 a, .int .i64 b], .agg #[.int .i64 c, .int .i64 d]] w fun e w' => e = .returned (.int .u8 (birS u.y a b c d)) ∧ Below w.heap.size w w' := by
  go_enter Tryz.func64, Tryz.ntmps64
  go_wp2
  all_goals go_ret
  all_goals refine ⟨ret_int ?_, (((Below.refl _ _).alloc (Nat.le_refl _) _).alloc (by simp) _).alloc (by simp; omega) _⟩
  all_goals first
    | (rw [birS, if_pos (by omega)]; done)
    | (rw [birS, if_neg (by omega), if_pos (by omega)]; done)
    | (rw [birS, if_neg (by omega), if_neg (by omega)]; done)

set_option maxHeartbeats 1000000 in
theorem birthsAgree_any (u : Rul) (A D A' D' : Option Addr) (c d c' d' m m' : Nat) (r s : Rec) (w : World) (ha : 0 ≤ r.lo ∧ r.lo ≤ 100000) (hb : 0 ≤ r.hi ∧ r.hi ≤ 100000) (hc : 0 ≤ s.lo ∧ s.lo ≤ 100000) (hd : 0 ≤ s.hi ∧ s.hi ≤ 100000) :
    Calls Tryz.prog 59 #[.agg #[.int .i64 u.l, .int .i64 u.d, .int .i64 u.y, .int .i64 u.t], .agg #[.int .i64 r.id, .slice A r.names.length c, .int .u8 r.suf, .int .i64 r.lo, .int .i64 r.hi, .string r.num, .bool r.twin, .slice D r.stays.length d, .map (some m)], .agg #[.int .i64 s.id, .slice A' s.names.length c', .int .u8 s.suf, .int .i64 s.lo, .int .i64 s.hi, .string s.num, .bool s.twin, .slice D' s.stays.length d', .map (some m')]] w fun e w' => e = .returned (.int .u8 (birS u.y r.lo r.hi s.lo s.hi)) ∧ Below w.heap.size w w' := by
  go_enter Tryz.func59, Tryz.ntmps59
  go_wp2
  all_goals go_ret
  all_goals refine ⟨ret_int ?_, (((Below.refl _ _).alloc (Nat.le_refl _) _).alloc (by simp) _).alloc (by simp; omega) _⟩
  all_goals try simp only [beq_iff_eq, beq_eq_false_iff_ne, ne_eq] at *
  all_goals first
    | (rw [birS, if_pos (by omega)]; done)
    | (rw [birS, if_neg (by omega), if_pos (by omega)]; done)
    | (rw [birS, if_neg (by omega), if_neg (by omega)]; done)

end Go.Proofs.YtbkmfomdhjhkpaaGreat
