/- The reference's functions that tell whether a record is valid or great, and the checks of both. -/
import Derived.Test.YtoinegfcodnjhaaGreatDoorMem
namespace Go.Proofs.YtoinegfcodnjhaaGreatDoor
open Go.RowKit

theorem recB_id {r : Rec} (h : inB r.id 0 999999 = false) : recB r = false := by simp [recB, h]
theorem recB_names {r : Rec} (h : namesB r.names = false) : recB r = false := by simp [recB, h]
theorem recB_suf {r : Rec} (h : 2 < r.suf) : recB r = false := by
  have h2 : ¬ r.suf ≤ 2 := by omega
  simp [recB, h2]
theorem recB_days {r : Rec} (h : daysB r.lo r.hi = false) : recB r = false := by simp [recB, h]
theorem recB_num {r : Rec} (h : numB r.num.data.toList = false) : recB r = false := by simp [recB, h]
theorem recB_stays {r : Rec} (h : staysB r.stays = false) : recB r = false := by simp [recB, h]
theorem span_days (a b : Int) : (decide (0 ≤ a) && decide (a ≤ b) && decide (b ≤ 100000)) = daysB a b := by
  rw [Bool.eq_iff_iff]; simp [daysB, inB]; omega

theorem len_size (s : ByteArray) : s.data.toList.length = s.size := rfl
theorem numB_none {s : ByteArray} (h : (s.size : Int) = 0) : numB s.data.toList = true := by
  have h0 : s.data.toList.length = 0 := by rw [len_size]; omega
  rw [List.length_eq_zero_iff] at h0
  rw [h0]; rfl
theorem allB_none {s : ByteArray} (lo hi : Int) (h : (s.size : Int) = 0) : allB s.data.toList lo hi = true := by
  have h0 : s.data.toList.length = 0 := by rw [len_size]; omega
  rw [List.length_eq_zero_iff] at h0
  rw [h0]; rfl
theorem numB_some {s : ByteArray} (h : ¬ (s.size : Int) = 0) : numB s.data.toList = (decide (s.size = 9) && allB s.data.toList 48 57) := by
  have h0 : s.data.toList.isEmpty = false := by
    cases hl : s.data.toList with
    | nil => exfalso; apply h; have := len_size s; rw [hl] at this; simp at this; omega
    | cons a l => rfl
  rw [numB, h0, Bool.false_or, len_size]

end Go.Proofs.YtoinegfcodnjhaaGreatDoor
