/- Words, numbers and days: the program's small functions on two of each. -/
import Derived.Test.YtbkmfomdhjhkpaaGreatSub
namespace Go.Proofs.YtbkmfomdhjhkpaaGreat
open Go.RowKit

theorem first_eq (a b : ByteArray) (hb : 0 < b.size) : (a.toList == (b.extract 0 1).toList) = (decide (a.size = 1) && headB a b) := by
  have e2 : b.data.toList.head? = some b[0] := by
    rw [List.head?_eq_getElem?]; exact List.getElem?_eq_getElem (l := b.data.toList) (i := 0) (by simpa using hb)
  have ex : (b.extract 0 1).toList = [b[0]] := by
    rw [ByteArray.toList_eq]
    have : (b.extract 0 1).data.toList = (b.data.toList.take 1) := by simp
    rw [this]
    cases hl : b.data.toList with
    | nil => rw [hl] at e2; cases e2
    | cons c l => rw [hl] at e2; simp at e2; simp [e2]
  rw [ex, ByteArray.toList_eq, Bool.eq_iff_iff]
  unfold headB
  rw [e2]
  simp only [beq_iff_eq, Bool.and_eq_true, decide_eq_true_eq]
  rw [← len_size]
  cases hl : a.data.toList with
  | nil => simp
  | cons c l => cases l <;> simp

set_option maxHeartbeats 400000 in
theorem sameWords_any (a b : ByteArray) (w : World) (ha : 0 < a.size) (hb : 0 < b.size) :
    Calls Tryz.prog 85 #[.string a, .string b] w fun e w' => e = .returned (.bool (sameW a b)) ∧ w = w' := by
  have h1 : (1 : Int) ≤ (a.size : Int) := by omega
  have h2 : (1 : Int) ≤ (b.size : Int) := by omega
  have F1 := Lib.hid (first_eq a b hb)
  have F2 := Lib.hid (first_eq b a ha)
  have hh : Hid (headB b a = headB a b) := Lib.hid (by unfold headB; exact decide_eq_decide.2 ⟨fun h => h.symm, fun h => h.symm⟩)
  go_enter Tryz.func85, Tryz.ntmps85
  go_wp2
  all_goals go_ret
  all_goals refine ⟨ret_bool ?_, rfl⟩
  · have h : a.toList = b.toList := by assumption
    simp [sameW, h]
  · have h : ¬ a.toList = b.toList := by assumption
    have g : a.toList = (b.extract 0 1).toList := by assumption
    have f := F1.out
    rw [g, BEq.rfl] at f
    simp only [sameW, ← f]; simp
  · have h : ¬ a.toList = b.toList := by assumption
    have g : ¬ a.toList = (b.extract 0 1).toList := by assumption
    have f := F1.out
    have e1 : (a.toList == (b.extract 0 1).toList) = false := by simpa using g
    have e2 : (a.toList == b.toList) = false := by simpa using h
    rw [e1] at f
    rw [sameW, ← f, e2, F2.out, hh.out]; simp

set_option maxHeartbeats 400000 in
theorem likeWords_any (n : Int) (a b : ByteArray) (w : World) (ha : 0 < a.size) (hb : 0 < b.size) (ha' : a.size ≤ 20) (hb' : b.size ≤ 20) (hn : 0 ≤ n) :
    Calls Tryz.prog 82 #[.int .i64 n, .string a, .string b] w fun e w' => e = .returned (.bool (fitL n a b)) ∧ Below w.heap.size w w' := by
  go_enter Tryz.func82, Tryz.ntmps82
  go_wp2_with (first
    | (go_at_call 85; refine (sameWords_any _ _ _ ha hb).mono ?_; rintro e w' ⟨rfl, rfl⟩)
    | (go_at_call 53; refine (edits_any _ _ _ ha' hb').mono ?_; rintro e w1 ⟨rfl, hb1⟩))
  · have h : sameW a b = true := by assumption
    go_ret
    exact ⟨ret_bool (by simp [fitL, h]), Below.refl _ _⟩
  · have h : sameW a b = false := by assumption
    go_ret
    exact ⟨ret_bool (by simp [fitL, h, hn]), hb1⟩

/-- How many places of two numbers differ, among the first k. -/
def diffs (a b : ByteArray) (k : Nat) : Nat := ((List.range k).filter fun i => decide (a.data.toList[i]? ≠ b.data.toList[i]?)).length
theorem diffs_succ (a b : ByteArray) (k : Nat) : diffs a b (k + 1) = diffs a b k + if a.data.toList[k]? = b.data.toList[k]? then 0 else 1 := by
  unfold diffs
  rw [List.range_succ, List.filter_append, List.length_append]
  by_cases h : a.data.toList[k]? = b.data.toList[k]?
  · rw [List.filter_cons, if_neg (by simpa using h), if_pos h]; rfl
  · rw [List.filter_cons, if_pos (by simpa using h), if_neg h]; rfl
theorem diffs_le (a b : ByteArray) (k : Nat) : diffs a b k ≤ k := by
  induction k with
  | zero => simp [diffs]
  | succ k ih => rw [diffs_succ]; split <;> omega

theorem digit_eq (a b : ByteArray) (k : Nat) (ha : k < a.size) (hb : k < b.size) : (a.data.toList[k]? = b.data.toList[k]?) ↔ (a[k].toNat : Int) = (b[k].toNat : Int) := by
  have e1 : a.data.toList[k]? = some a[k] := List.getElem?_eq_getElem (l := a.data.toList) (i := k) (by simpa using ha)
  have e2 : b.data.toList[k]? = some b[k] := List.getElem?_eq_getElem (l := b.data.toList) (i := k) (by simpa using hb)
  rw [e1, e2, Option.some.injEq]
  constructor
  · intro h; rw [h]
  · intro h; exact UInt8.toNat_inj.1 (by omega)

set_option maxHeartbeats 400000 in
theorem unlikeDigits_any (a b : ByteArray) (w : World) (ha : a.size = 9) (hb : b.size = 9) :
    Calls Tryz.prog 86 #[.string a, .string b] w fun e w' => e = .returned (.int .i64 (diffs a b 9)) ∧ ∃ n, w' = w.drewN n := by
  have ha' := Lib.hid ha
  have hb' := Lib.hid hb
  clear ha hb
  go_enter Tryz.func86, Tryz.ntmps86
  go_wp2
  go_loopw [5, 7] (fun n i wr => ∃ k : Nat, k ≤ 9 ∧ i = .int .i64 k ∧ n = .int .i64 (diffs a b k) ∧ ∃ m, wr = w.drewN m) (fun _ i _ => 9 - (intOf i).toNat)
  case atStart => exact ⟨0, Nat.zero_le _, rfl, rfl, 0, rfl⟩
  case round =>
    obtain ⟨k, hk, rfl, rfl, m, rfl⟩ := hrel
    by_cases hlt : k < 9
    · have hka : (k : Int) < (a.size : Int) := by have := ha'.out; omega
      have hkb : (k : Int) < (b.size : Int) := by have := hb'.out; omega
      have hk9 : (k : Int) < 9 := by omega
      have HS := Lib.hid (diffs_succ a b k)
      have HD := Lib.hid (digit_eq a b k (by omega) (by omega))
      have hle := diffs_le a b k
      generalize diffs a b k = n at HS hle
      go_wp2
      go_quiet (fail)
      go_wp2
      · have h : ¬ (a[k].toNat : Int) = (b[k].toNat : Int) := by
          have ht : ((a[k].toNat : Int) != (b[k].toNat : Int)) = true := by assumption
          simpa using ht
        go_roundw
        case rel => exact ⟨k + 1, by omega, by go_num, by rw [HS.out, if_neg (fun e => h (HD.out.1 e))]; go_num, _, rfl⟩
        case measure => simp [intOf]; omega
      · have h : (a[k].toNat : Int) = (b[k].toNat : Int) := by
          have ht : ((a[k].toNat : Int) != (b[k].toNat : Int)) = false := by assumption
          simpa using ht
        go_roundw
        case rel => exact ⟨k + 1, by omega, by go_num, by rw [HS.out, if_pos (HD.out.2 h)]; go_num, _, rfl⟩
        case measure => simp [intOf]; omega
    · obtain rfl : k = 9 := by omega
      go_wp2
      go_ret
      exact ⟨rfl, _, rfl⟩

end Go.Proofs.YtbkmfomdhjhkpaaGreat
