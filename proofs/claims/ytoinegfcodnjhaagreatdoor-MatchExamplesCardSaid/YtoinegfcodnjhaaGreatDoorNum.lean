/- How numbers and births of two records agree: the program's and the reference's. -/
import Derived.Test.YtoinegfcodnjhaaGreatDoorWords
namespace Go.Proofs.YtoinegfcodnjhaaGreatDoor
open Go.RowKit

def numS (dg : Int) (a b : ByteArray) : Int := if a.toList.isEmpty = true ∨ b.toList.isEmpty = true then 1 else if diffs a b 9 = 0 then 3 else if (diffs a b 9 : Int) ≤ dg then 2 else 0

theorem diffs_zero (a b : ByteArray) (k : Nat) : diffs a b k = 0 ↔ ∀ i, i < k → a.data.toList[i]? = b.data.toList[i]? := by
  induction k with
  | zero => simp [diffs]
  | succ k ih =>
    rw [diffs_succ]
    constructor
    · intro h i hi
      split at h
      · rename_i he
        by_cases e : i = k
        · subst e; exact he
        · exact ih.1 (by omega) i (by omega)
      · omega
    · intro h
      rw [if_pos (h k (by omega)), ih.2 (fun i hi => h i (by omega))]
theorem diffs_eq (a b : ByteArray) (ha : a.size = 9) (hb : b.size = 9) : diffs a b 9 = 0 ↔ a.toList = b.toList := by
  rw [diffs_zero, ByteArray.toList_eq, ByteArray.toList_eq]
  constructor
  · intro h
    apply List.ext_getElem? fun i => ?_
    by_cases hi : i < 9
    · exact h i hi
    · rw [List.getElem?_eq_none (by rw [len_size]; omega), List.getElem?_eq_none (by rw [len_size]; omega)]
  · intro h i _; rw [h]

set_option maxHeartbeats 1000000 in
theorem numbersAgree_any (u : Rul) (A D A' D' : Option Addr) (c d c' d' m m' : Nat) (r s : Rec) (w : World) (ha : r.num.toList.isEmpty = false → r.num.size = 9) (hb : s.num.toList.isEmpty = false → s.num.size = 9) :
    Calls Tryz.prog 35 #[.agg #[.int .i64 u.l, .int .i64 u.d, .int .i64 u.y, .int .i64 u.t], .agg #[.int .i64 r.id, .slice A r.names.length c, .int .u8 r.suf, .int .i64 r.lo, .int .i64 r.hi, .string r.num, .bool r.twin, .slice D r.stays.length d, .map (some m)], .agg #[.int .i64 s.id, .slice A' s.names.length c', .int .u8 s.suf, .int .i64 s.lo, .int .i64 s.hi, .string s.num, .bool s.twin, .slice D' s.stays.length d', .map (some m')]] w fun e w' => e = .returned (.int .u8 (numS u.d r.num s.num)) ∧ Below w.heap.size w w' := by
  have hbel : Below w.heap.size w (((w.alloc (.cells #[.int .i64 u.l, .int .i64 u.d, .int .i64 u.y, .int .i64 u.t] 34)).alloc (.cells #[.int .i64 r.id, .slice A r.names.length c, .int .u8 r.suf, .int .i64 r.lo, .int .i64 r.hi, .string r.num, .bool r.twin, .slice D r.stays.length d, .map (some m)] 61)).alloc (.cells #[.int .i64 s.id, .slice A' s.names.length c', .int .u8 s.suf, .int .i64 s.lo, .int .i64 s.hi, .string s.num, .bool s.twin, .slice D' s.stays.length d', .map (some m')] 61)) := (((Below.refl _ _).alloc (Nat.le_refl _) _).alloc (by simp) _).alloc (by simp; omega) _
  cases hA : r.num.toList.isEmpty with
  | true =>
    have e : numS u.d r.num s.num = 1 := by simp [numS, hA]
    rw [e]
    clear e ha hb
    go_enter Tryz.func35, Tryz.ntmps35
    go_wp2
    go_ret
    exact ⟨rfl, hbel⟩
  | false =>
    cases hB : s.num.toList.isEmpty with
    | true =>
      have e : numS u.d r.num s.num = 1 := by simp [numS, hB]
      rw [e]
      clear e ha hb
      go_enter Tryz.func35, Tryz.ntmps35
      go_wp2
      go_ret
      exact ⟨rfl, hbel⟩
    | false =>
      have ha9 := ha hA
      have hb9 := hb hB
      have e : Hid (numS u.d r.num s.num = if diffs r.num s.num 9 = 0 then 3 else if (diffs r.num s.num 9 : Int) ≤ u.d then 2 else 0) := Lib.hid (by simp [numS, hA, hB])
      have hD := Lib.hid (diffs_eq _ _ ha9 hb9)
      have hcon := fun W => unlikeDigits_any r.num s.num W ha9 hb9
      have hc := Lib.hid hcon
      clear ha hb ha9 hb9 hcon
      generalize diffs r.num s.num 9 = n at e hD hc
      cases hE : (r.num.toList == s.num.toList) with
      | true =>
        go_enter Tryz.func35, Tryz.ntmps35
        go_wp2
        go_ret
        exact ⟨ret_int (by rw [e.out, if_pos (hD.out.2 (by simpa using hE))]), hbel⟩
      | false =>
        have hn : ¬ n = 0 := fun h => by have := hD.out.1 h; rw [this] at hE; simp at hE
        cases hL : decide ((n : Int) ≤ u.d) with
        | true =>
          go_enter Tryz.func35, Tryz.ntmps35
          go_wp2
          go_quiet ((go_at_call 58; refine Calls.quiet_of (hc.out _)))
          go_wp2
          go_ret
          exact ⟨ret_int (by rw [e.out, if_neg hn, if_pos (of_decide_eq_true hL)]), below_drewN hbel _⟩
        | false =>
          go_enter Tryz.func35, Tryz.ntmps35
          go_wp2
          go_quiet ((go_at_call 58; refine Calls.quiet_of (hc.out _)))
          go_wp2
          go_ret
          exact ⟨ret_int (by rw [e.out, if_neg hn, if_neg (of_decide_eq_false hL)]), below_drewN hbel _⟩

/-- How births agree, days being up to 'off' apart. -/
def birS (off a b c d : Int) : Int := if a = b ∧ a = c ∧ b = d then 3 else if a - d ≤ off ∧ c - b ≤ off then 1 else 0

set_option maxHeartbeats 1000000 in
theorem birthsAgree_any (u : Rul) (A D A' D' : Option Addr) (c d c' d' m m' : Nat) (r s : Rec) (w : World) (ha : 0 ≤ r.lo ∧ r.lo ≤ 100000) (hb : 0 ≤ r.hi ∧ r.hi ≤ 100000) (hc : 0 ≤ s.lo ∧ s.lo ≤ 100000) (hd : 0 ≤ s.hi ∧ s.hi ≤ 100000) :
    Calls Tryz.prog 36 #[.agg #[.int .i64 u.l, .int .i64 u.d, .int .i64 u.y, .int .i64 u.t], .agg #[.int .i64 r.id, .slice A r.names.length c, .int .u8 r.suf, .int .i64 r.lo, .int .i64 r.hi, .string r.num, .bool r.twin, .slice D r.stays.length d, .map (some m)], .agg #[.int .i64 s.id, .slice A' s.names.length c', .int .u8 s.suf, .int .i64 s.lo, .int .i64 s.hi, .string s.num, .bool s.twin, .slice D' s.stays.length d', .map (some m')]] w fun e w' => e = .returned (.int .u8 (birS u.y r.lo r.hi s.lo s.hi)) ∧ Below w.heap.size w w' := by
  go_enter Tryz.func36, Tryz.ntmps36
  go_wp2
  all_goals go_ret
  all_goals refine ⟨ret_int ?_, (((Below.refl _ _).alloc (Nat.le_refl _) _).alloc (by simp) _).alloc (by simp; omega) _⟩
  all_goals try simp only [beq_iff_eq, beq_eq_false_iff_ne, ne_eq] at *
  all_goals first
    | (rw [birS, if_pos (by omega)]; done)
    | (rw [birS, if_neg (by omega), if_pos (by omega)]; done)
    | (rw [birS, if_neg (by omega), if_neg (by omega)]; done)

end Go.Proofs.YtoinegfcodnjhaaGreatDoor
