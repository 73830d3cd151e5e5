/- Edits of two words with their errors: the program's and the reference's. -/
import Derived.Test.YtbkmfomdhjhkpaaGreatEdr
namespace Go.Proofs.YtbkmfomdhjhkpaaGreat
open Go.RowKit

def wordsOk (a b : ByteArray) : Bool := decide (a.size ≤ 20) && decide (b.size ≤ 20)
def edN (a b : ByteArray) : Int := if wordsOk a b = true then (lev a.data.toList b.data.toList : Int) else 0
def edE (a b : ByteArray) : Int := if wordsOk a b = true then 0 else 2

set_option maxHeartbeats 400000 in
theorem edits2_any (a b : ByteArray) (w : World) :
    Calls Tryz.prog 25 #[.string a, .string b] w fun e w' => e = .returned (.tuple #[.int .i64 (edN a b), .int .i64 (edE a b)]) ∧ Below w.heap.size w w' := by
  by_cases ha : a.size ≤ 20
  · by_cases hb : b.size ≤ 20
    · have e1 : edN a b = (lev a.data.toList b.data.toList : Int) := by simp [edN, wordsOk, ha, hb]
      have e2 : edE a b = 0 := by simp [edE, wordsOk, ha, hb]
      rw [e1, e2]
      have h1 : ¬ (20 : Int) < (a.size : Int) := by omega
      have h2 : ¬ (20 : Int) < (b.size : Int) := by omega
      clear e1 e2
      go_enter Tryz.func25, Tryz.ntmps25
      go_wp2_with (go_at_call 53; refine (edits_any _ _ _ ha hb).mono ?_; rintro e w1 ⟨rfl, hb1⟩)
      go_ret2
      exact ⟨rfl, hb1⟩
    · have e1 : edN a b = 0 := by simp [edN, wordsOk, hb]
      have e2 : edE a b = 2 := by simp [edE, wordsOk, hb]
      rw [e1, e2]
      have h1 : ¬ (20 : Int) < (a.size : Int) := by omega
      have h2 : (20 : Int) < (b.size : Int) := by omega
      clear e1 e2
      go_enter Tryz.func25, Tryz.ntmps25
      go_wp2
      go_ret2
      exact ⟨rfl, Below.refl _ _⟩
  · have e1 : edN a b = 0 := by simp [edN, wordsOk, ha]
    have e2 : edE a b = 2 := by simp [edE, wordsOk, ha]
    rw [e1, e2]
    have h1 : (20 : Int) < (a.size : Int) := by omega
    clear e1 e2
    go_enter Tryz.func25, Tryz.ntmps25
    go_wp2
    go_ret2
    exact ⟨rfl, Below.refl _ _⟩

end Go.Proofs.YtbkmfomdhjhkpaaGreat
