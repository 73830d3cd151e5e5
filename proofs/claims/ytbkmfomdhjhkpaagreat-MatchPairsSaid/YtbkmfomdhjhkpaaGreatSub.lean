/- Words that are the same, or like each other, and given names that are some of others in their order: the reference's. -/
import Derived.Test.YtbkmfomdhjhkpaaGreatEdw
namespace Go.Proofs.YtbkmfomdhjhkpaaGreat
open Go.RowKit

def headB (a b : ByteArray) : Bool := decide (a.data.toList.head? = b.data.toList.head?)
/-- Two words are the same: equal, or one is the other's first letter. -/
def sameW (a b : ByteArray) : Bool := (a.toList == b.toList) || (decide (a.size = 1) && headB a b) || (decide (b.size = 1) && headB a b)

theorem headB_eq (a b : ByteArray) (ha : 0 < a.size) (hb : 0 < b.size) : ((a[0].toNat : Int) == (b[0].toNat : Int)) = headB a b := by
  have e1 : a.data.toList.head? = some a[0] := by
    rw [List.head?_eq_getElem?]; exact List.getElem?_eq_getElem (l := a.data.toList) (i := 0) (by simpa using ha)
  have e2 : b.data.toList.head? = some b[0] := by
    rw [List.head?_eq_getElem?]; exact List.getElem?_eq_getElem (l := b.data.toList) (i := 0) (by simpa using hb)
  unfold headB
  rw [e1, e2, Bool.eq_iff_iff]
  simp only [beq_iff_eq, decide_eq_true_eq, Option.some.injEq]
  constructor
  · intro h; exact UInt8.toNat_inj.1 (by omega)
  · intro h; rw [h]

theorem one_eq (n : Nat) : ((n : Int) == 1) = decide (n = 1) := by
  rw [Bool.eq_iff_iff]; simp; omega

set_option maxHeartbeats 1000000 in
theorem refSame_any (a b : ByteArray) (w : World) (ha : 0 < a.size) (hb : 0 < b.size) :
    Calls Tryz.prog 106 #[.string a, .string b] w fun e w' => e = .returned (.bool (sameW a b)) ∧ ∃ n, w' = w.drewN n := by
  have HH := Lib.hid (headB_eq a b ha hb)
  have h1 : (0 : Int) < (a.size : Int) := by omega
  have h2 : (0 : Int) < (b.size : Int) := by omega
  cases hE : (a.toList == b.toList) with
  | true =>
    have e : sameW a b = true := by simp only [sameW, hE, Bool.true_or]
    rw [e]
    clear e
    go_enter Tryz.func106, Tryz.ntmps106
    go_wp2
    go_quiet (fail)
    go_wp2
    go_ret
    exact ⟨rfl, _, rfl⟩
  | false =>
    cases hH : ((a[0].toNat : Int) == (b[0].toNat : Int)) with
    | true =>
      have hh : headB a b = true := HH.out.symm.trans hH
      cases hA : ((a.size : Int) == 1) with
      | true =>
        have e : sameW a b = true := by
          have := (one_eq _).symm.trans hA
          simp only [sameW, hE, hh, this]; simp
        rw [e]
        clear e hh
        go_enter Tryz.func106, Tryz.ntmps106
        go_wp2
        go_quiet (fail)
        go_wp2
        go_ret
        exact ⟨rfl, _, rfl⟩
      | false =>
        cases hB : ((b.size : Int) == 1) with
        | true =>
          have e : sameW a b = true := by
            have := (one_eq _).symm.trans hB
            simp only [sameW, hE, hh, this]; simp
          rw [e]
          clear e hh
          go_enter Tryz.func106, Tryz.ntmps106
          go_wp2
          go_quiet (fail)
          go_wp2
          go_ret
          exact ⟨rfl, _, rfl⟩
        | false =>
          have e : sameW a b = false := by
            have g1 := (one_eq _).symm.trans hA
            have g2 := (one_eq _).symm.trans hB
            simp only [sameW, hE, hh, g1, g2]; simp
          rw [e]
          clear e hh
          go_enter Tryz.func106, Tryz.ntmps106
          go_wp2
          go_quiet (fail)
          go_wp2
          go_ret
          exact ⟨rfl, _, rfl⟩
    | false =>
      have hh : headB a b = false := HH.out.symm.trans hH
      have e : sameW a b = false := by simp only [sameW, hE, hh, Bool.and_false, Bool.or_self]
      rw [e]
      clear e hh
      cases hA : ((a.size : Int) == 1) <;> cases hB : ((b.size : Int) == 1)
      all_goals
        go_enter Tryz.func106, Tryz.ntmps106
        go_wp2
        go_quiet (fail)
        go_wp2
        go_ret
        exact ⟨rfl, _, rfl⟩

/-- Whether the first names, in their order, fit some of the second ones. -/
def subs (fit : ByteArray → ByteArray → Bool) : List ByteArray → List ByteArray → Bool
  | [], _ => true
  | _ :: _, [] => false
  | x :: xs, y :: ys => if fit x y then subs fit xs ys else subs fit (x :: xs) ys

theorem subs_none (fit : ByteArray → ByteArray → Bool) (l m : List ByteArray) (i : Nat) (hi : ¬ i < l.length) : subs fit (l.drop i) m = true := by
  rw [List.drop_of_length_le (by omega)]; cases m <;> rfl
theorem subs_out (fit : ByteArray → ByteArray → Bool) (l m : List ByteArray) (i j : Nat) (hi : i < l.length) (hj : ¬ j < m.length) : subs fit (l.drop i) (m.drop j) = false := by
  rw [List.drop_of_length_le (l := m) (by omega), List.drop_eq_getElem_cons hi]; rfl
theorem subs_fit (fit : ByteArray → ByteArray → Bool) (l m : List ByteArray) (i j : Nat) (hi : i < l.length) (hj : j < m.length) (h : fit l[i] m[j] = true) : subs fit (l.drop i) (m.drop j) = subs fit (l.drop (i + 1)) (m.drop (j + 1)) := by
  rw [List.drop_eq_getElem_cons hi, List.drop_eq_getElem_cons hj, subs, if_pos h]
theorem subs_skip (fit : ByteArray → ByteArray → Bool) (l m : List ByteArray) (i j : Nat) (hi : i < l.length) (hj : j < m.length) (h : fit l[i] m[j] = false) : subs fit (l.drop i) (m.drop j) = subs fit (l.drop i) (m.drop (j + 1)) := by
  rw [List.drop_eq_getElem_cons hi, List.drop_eq_getElem_cons hj, subs, if_neg (by rw [h]; simp)]

/-- With how many letters wrong words fit (fewer than none: they are to be the same). -/
def fitL (n : Int) (x y : ByteArray) : Bool := sameW x y || (decide (0 ≤ n) && decide ((lev x.data.toList y.data.toList : Int) ≤ n))

end Go.Proofs.YtbkmfomdhjhkpaaGreat
