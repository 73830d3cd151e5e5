/- Words that are the same, or like each other, and given names that are some of others in their order: the reference's. -/
import Derived.Test.YtoinegfcodnjhaaGreatDoorEdw
namespace Go.Proofs.YtoinegfcodnjhaaGreatDoor
open Go.RowKit

def headB (a b : ByteArray) : Bool := decide (a.data.toList.head? = b.data.toList.head?)
/-- Two words are the same: equal, or one is the other's first letter. -/
def sameW (a b : ByteArray) : Bool := (a.toList == b.toList) || (decide (a.size = 1) && headB a b) || (decide (b.size = 1) && headB a b)

theorem headB_eq (a b : ByteArray) (ha : 0 < a.size) (hb : 0 < b.size) : ((a[0].toNat : Int) == (b[0].toNat : Int)) = headB a b := by
  have e1 : a.data.toList.head? = some a[0] := by
    rw [List.head?_eq_getElem?]; exact List.getElem?_eq_getElem (l := a.data.toList) (i := 0) (by simpa using ha)
  have e2 : b.data.toList.head? = some b[0] := by
    rw [List.head?_eq_getElem?]; exact List.getElem?_eq_getElem (l := b.data.toList) (i := 0) (by simpa using hb)
  unfold headB
  rw [e1, e2, Bool.eq_iff_iff]
  simp only [beq_iff_eq, decide_eq_true_eq, Option.some.injEq]
  constructor
  · intro h; exact UInt8.toNat_inj.1 (by omega)
  · intro h; rw [h]

theorem one_eq (n : Nat) : ((n : Int) == 1) = decide (n = 1) := by
  rw [Bool.eq_iff_iff]; simp; omega

/-- Whether the first names, in their order, fit some of the second ones. -/
def subs (fit : ByteArray → ByteArray → Bool) : List ByteArray → List ByteArray → Bool
  | [], _ => true
  | _ :: _, [] => false
  | x :: xs, y :: ys => if fit x y then subs fit xs ys else subs fit (x :: xs) ys

theorem subs_none (fit : ByteArray → ByteArray → Bool) (l m : List ByteArray) (i : Nat) (hi : ¬ i < l.length) : subs fit (l.drop i) m = true := by
  rw [List.drop_of_length_le (by omega)]; cases m <;> rfl
theorem subs_out (fit : ByteArray → ByteArray → Bool) (l m : List ByteArray) (i j : Nat) (hi : i < l.length) (hj : ¬ j < m.length) : subs fit (l.drop i) (m.drop j) = false := by
  rw [List.drop_of_length_le (l := m) (by omega), List.drop_eq_getElem_cons hi]; rfl
theorem subs_fit (fit : ByteArray → ByteArray → Bool) (l m : List ByteArray) (i j : Nat) (hi : i < l.length) (hj : j < m.length) (h : fit l[i] m[j] = true) : subs fit (l.drop i) (m.drop j) = subs fit (l.drop (i + 1)) (m.drop (j + 1)) := by
  rw [List.drop_eq_getElem_cons hi, List.drop_eq_getElem_cons hj, subs, if_pos h]
theorem subs_skip (fit : ByteArray → ByteArray → Bool) (l m : List ByteArray) (i j : Nat) (hi : i < l.length) (hj : j < m.length) (h : fit l[i] m[j] = false) : subs fit (l.drop i) (m.drop j) = subs fit (l.drop i) (m.drop (j + 1)) := by
  rw [List.drop_eq_getElem_cons hi, List.drop_eq_getElem_cons hj, subs, if_neg (by rw [h]; simp)]

/-- With how many letters wrong words fit (fewer than none: they are to be the same). -/
def fitL (n : Int) (x y : ByteArray) : Bool := sameW x y || (decide (0 ≤ n) && decide ((lev x.data.toList y.data.toList : Int) ≤ n))

end Go.Proofs.YtoinegfcodnjhaaGreatDoor
