/- Whether two records are one person's, by the questions that are asked: the program's. -/
import Derived.Test.YtbkmfomdhjhkpaaGreatAsk
import Derived.Laws.EntriesVeiled
namespace Go.Proofs.YtbkmfomdhjhkpaaGreat
open Go.RowKit

def asked (t : Mat) (r s : Rec) : Nat → Bool
  | 0 => decide (t.born = 0)
  | 1 => decide ((r.suf = 1 ∧ s.suf = 2) ∨ (r.suf = 2 ∧ s.suf = 1))
  | 2 => decide (t.names = 0) && decide (t.num ≠ 3)
  | 3 => decide (t.num = 0) && decide (t.place ≠ 3)
  | 4 => (r.twin || s.twin) && decide (t.num ≠ 3 ∧ t.names ≠ 3)
  | 5 => decide (t.num = 3) && (decide (t.names = 3) || decide (t.names = 2))
  | 6 => decide (t.names = 3 ∧ t.born = 3 ∧ t.place = 3) && !r.twin && !s.twin
  | _ => false
def told (i : Nat) : Int := if i < 5 then 0 else 2
/-- What is told by the first question, from the i-th on, that holds. -/
def toldBy (q : Nat → Bool) : Nat → Nat → Int
  | 0, _ => 1
  | k + 1, i => if q i = true then told i else toldBy q k (i + 1)
def decided (t : Mat) (r s : Rec) : Int := toldBy (asked t r s) 7 0
theorem toldBy_yes {q : Nat → Bool} {k i : Nat} (h : q i = true) : toldBy q (k + 1) i = told i := by rw [toldBy, if_pos h]
theorem toldBy_no {q : Nat → Bool} {k i : Nat} (h : q i = false) : toldBy q (k + 1) i = toldBy q k (i + 1) := by rw [toldBy, if_neg (by rw [h]; simp)]

set_option maxHeartbeats 400000 in
theorem questions_any (w : World) :
    Calls Tryz.prog 88 #[] w fun e w' => e = .returned (.slice (some ⟨w.heap.size, 0, none⟩) 7 7) ∧ w' = w.alloc (.cells #[.int .u8 0, .func (.func 99) #[] #[], .int .u8 0, .func (.func 100) #[] #[], .int .u8 0, .func (.func 101) #[] #[], .int .u8 0, .func (.func 102) #[] #[], .int .u8 0, .func (.func 103) #[] #[], .int .u8 2, .func (.func 104) #[] #[], .int .u8 2, .func (.func 105) #[] #[]] 141) := by
  go_enter Tryz.func88, Tryz.ntmps88
  go_wp2
  go_ret
  exact ⟨rfl, rfl⟩

set_option maxRecDepth 100000 in
set_option maxHeartbeats 4000000 in
theorem decide_any (t : Mat) (A D A' D' : Option Addr) (c d c' d' m m' : Nat) (r s : Rec) (w : World) :
    Calls Tryz.prog 61 #[.agg #[.int .u8 t.names, .int .u8 t.num, .int .u8 t.born, .int .u8 t.place, .int .u8 t.one], .agg #[.int .i64 r.id, .slice A r.names.length c, .int .u8 r.suf, .int .i64 r.lo, .int .i64 r.hi, .string r.num, .bool r.twin, .slice D r.stays.length d, .map (some m)], .agg #[.int .i64 s.id, .slice A' s.names.length c', .int .u8 s.suf, .int .i64 s.lo, .int .i64 s.hi, .string s.num, .bool s.twin, .slice D' s.stays.length d', .map (some m')]] w fun e w' => e = .returned (.int .u8 (decided t r s)) ∧ Below w.heap.size w w' := by
  have H0 : Hid (∀ W, Calls Tryz.prog 99 #[.agg #[.int .u8 t.names, .int .u8 t.num, .int .u8 t.born, .int .u8 t.place, .int .u8 t.one], .agg #[.int .i64 r.id, .slice A r.names.length c, .int .u8 r.suf, .int .i64 r.lo, .int .i64 r.hi, .string r.num, .bool r.twin, .slice D r.stays.length d, .map (some m)], .agg #[.int .i64 s.id, .slice A' s.names.length c', .int .u8 s.suf, .int .i64 s.lo, .int .i64 s.hi, .string s.num, .bool s.twin, .slice D' s.stays.length d', .map (some m')]] W fun e w' => e = .returned (.bool (asked t r s 0)) ∧ Below W.heap.size W w') := Lib.hid (fun W => bornApart_any t A D A' D' c d c' d' m m' r s W)
  have H1 : Hid (∀ W, Calls Tryz.prog 100 #[.agg #[.int .u8 t.names, .int .u8 t.num, .int .u8 t.born, .int .u8 t.place, .int .u8 t.one], .agg #[.int .i64 r.id, .slice A r.names.length c, .int .u8 r.suf, .int .i64 r.lo, .int .i64 r.hi, .string r.num, .bool r.twin, .slice D r.stays.length d, .map (some m)], .agg #[.int .i64 s.id, .slice A' s.names.length c', .int .u8 s.suf, .int .i64 s.lo, .int .i64 s.hi, .string s.num, .bool s.twin, .slice D' s.stays.length d', .map (some m')]] W fun e w' => e = .returned (.bool (asked t r s 1)) ∧ Below W.heap.size W w') := Lib.hid (fun W => seniorAndJunior_any t A D A' D' c d c' d' m m' r s W)
  have H2 : Hid (∀ W, Calls Tryz.prog 101 #[.agg #[.int .u8 t.names, .int .u8 t.num, .int .u8 t.born, .int .u8 t.place, .int .u8 t.one], .agg #[.int .i64 r.id, .slice A r.names.length c, .int .u8 r.suf, .int .i64 r.lo, .int .i64 r.hi, .string r.num, .bool r.twin, .slice D r.stays.length d, .map (some m)], .agg #[.int .i64 s.id, .slice A' s.names.length c', .int .u8 s.suf, .int .i64 s.lo, .int .i64 s.hi, .string s.num, .bool s.twin, .slice D' s.stays.length d', .map (some m')]] W fun e w' => e = .returned (.bool (asked t r s 2)) ∧ Below W.heap.size W w') := Lib.hid (fun W => namesApart_any t A D A' D' c d c' d' m m' r s W)
  have H3 : Hid (∀ W, Calls Tryz.prog 102 #[.agg #[.int .u8 t.names, .int .u8 t.num, .int .u8 t.born, .int .u8 t.place, .int .u8 t.one], .agg #[.int .i64 r.id, .slice A r.names.length c, .int .u8 r.suf, .int .i64 r.lo, .int .i64 r.hi, .string r.num, .bool r.twin, .slice D r.stays.length d, .map (some m)], .agg #[.int .i64 s.id, .slice A' s.names.length c', .int .u8 s.suf, .int .i64 s.lo, .int .i64 s.hi, .string s.num, .bool s.twin, .slice D' s.stays.length d', .map (some m')]] W fun e w' => e = .returned (.bool (asked t r s 3)) ∧ Below W.heap.size W w') := Lib.hid (fun W => numbersApart_any t A D A' D' c d c' d' m m' r s W)
  have H4 : Hid (∀ W, Calls Tryz.prog 103 #[.agg #[.int .u8 t.names, .int .u8 t.num, .int .u8 t.born, .int .u8 t.place, .int .u8 t.one], .agg #[.int .i64 r.id, .slice A r.names.length c, .int .u8 r.suf, .int .i64 r.lo, .int .i64 r.hi, .string r.num, .bool r.twin, .slice D r.stays.length d, .map (some m)], .agg #[.int .i64 s.id, .slice A' s.names.length c', .int .u8 s.suf, .int .i64 s.lo, .int .i64 s.hi, .string s.num, .bool s.twin, .slice D' s.stays.length d', .map (some m')]] W fun e w' => e = .returned (.bool (asked t r s 4)) ∧ Below W.heap.size W w') := Lib.hid (fun W => twins_any t A D A' D' c d c' d' m m' r s W)
  have H5 : Hid (∀ W, Calls Tryz.prog 104 #[.agg #[.int .u8 t.names, .int .u8 t.num, .int .u8 t.born, .int .u8 t.place, .int .u8 t.one], .agg #[.int .i64 r.id, .slice A r.names.length c, .int .u8 r.suf, .int .i64 r.lo, .int .i64 r.hi, .string r.num, .bool r.twin, .slice D r.stays.length d, .map (some m)], .agg #[.int .i64 s.id, .slice A' s.names.length c', .int .u8 s.suf, .int .i64 s.lo, .int .i64 s.hi, .string s.num, .bool s.twin, .slice D' s.stays.length d', .map (some m')]] W fun e w' => e = .returned (.bool (asked t r s 5)) ∧ Below W.heap.size W w') := Lib.hid (fun W => oneNumber_any t A D A' D' c d c' d' m m' r s W)
  have H6 : Hid (∀ W, Calls Tryz.prog 105 #[.agg #[.int .u8 t.names, .int .u8 t.num, .int .u8 t.born, .int .u8 t.place, .int .u8 t.one], .agg #[.int .i64 r.id, .slice A r.names.length c, .int .u8 r.suf, .int .i64 r.lo, .int .i64 r.hi, .string r.num, .bool r.twin, .slice D r.stays.length d, .map (some m)], .agg #[.int .i64 s.id, .slice A' s.names.length c', .int .u8 s.suf, .int .i64 s.lo, .int .i64 s.hi, .string s.num, .bool s.twin, .slice D' s.stays.length d', .map (some m')]] W fun e w' => e = .returned (.bool (asked t r s 6)) ∧ Below W.heap.size W w') := Lib.hid (fun W => oneLife_any t A D A' D' c d c' d' m m' r s W)
  unfold decided
  generalize asked t r s = q at *
  go_enter Tryz.func61, Tryz.ntmps61
  go_wp2_with (go_at_call 88; refine (questions_any _).mono ?_; rintro e w' ⟨rfl, rfl⟩)
  have b0 := (((Blk.new w #[.int .u8 t.names, .int .u8 t.num, .int .u8 t.born, .int .u8 t.place, .int .u8 t.one] 54).alloc (.cells #[.int .i64 r.id, .slice A r.names.length c, .int .u8 r.suf, .int .i64 r.lo, .int .i64 r.hi, .string r.num, .bool r.twin, .slice D r.stays.length d, .map (some m)] 83)).alloc (.cells #[.int .i64 s.id, .slice A' s.names.length c', .int .u8 s.suf, .int .i64 s.lo, .int .i64 s.hi, .string s.num, .bool s.twin, .slice D' s.stays.length d', .map (some m')] 83)).alloc (.cells #[.int .u8 0, .func (.func 99) #[] #[], .int .u8 0, .func (.func 100) #[] #[], .int .u8 0, .func (.func 101) #[] #[], .int .u8 0, .func (.func 102) #[] #[], .int .u8 0, .func (.func 103) #[] #[], .int .u8 2, .func (.func 104) #[] #[], .int .u8 2, .func (.func 105) #[] #[]] 141)
  have b1 := ((Blk.new (w.alloc (.cells #[.int .u8 t.names, .int .u8 t.num, .int .u8 t.born, .int .u8 t.place, .int .u8 t.one] 54)) #[.int .i64 r.id, .slice A r.names.length c, .int .u8 r.suf, .int .i64 r.lo, .int .i64 r.hi, .string r.num, .bool r.twin, .slice D r.stays.length d, .map (some m)] 83).alloc (.cells #[.int .i64 s.id, .slice A' s.names.length c', .int .u8 s.suf, .int .i64 s.lo, .int .i64 s.hi, .string s.num, .bool s.twin, .slice D' s.stays.length d', .map (some m')] 83)).alloc (.cells #[.int .u8 0, .func (.func 99) #[] #[], .int .u8 0, .func (.func 100) #[] #[], .int .u8 0, .func (.func 101) #[] #[], .int .u8 0, .func (.func 102) #[] #[], .int .u8 0, .func (.func 103) #[] #[], .int .u8 2, .func (.func 104) #[] #[], .int .u8 2, .func (.func 105) #[] #[]] 141)
  have b2 := (Blk.new ((w.alloc (.cells #[.int .u8 t.names, .int .u8 t.num, .int .u8 t.born, .int .u8 t.place, .int .u8 t.one] 54)).alloc (.cells #[.int .i64 r.id, .slice A r.names.length c, .int .u8 r.suf, .int .i64 r.lo, .int .i64 r.hi, .string r.num, .bool r.twin, .slice D r.stays.length d, .map (some m)] 83)) #[.int .i64 s.id, .slice A' s.names.length c', .int .u8 s.suf, .int .i64 s.lo, .int .i64 s.hi, .string s.num, .bool s.twin, .slice D' s.stays.length d', .map (some m')] 83).alloc (.cells #[.int .u8 0, .func (.func 99) #[] #[], .int .u8 0, .func (.func 100) #[] #[], .int .u8 0, .func (.func 101) #[] #[], .int .u8 0, .func (.func 102) #[] #[], .int .u8 0, .func (.func 103) #[] #[], .int .u8 2, .func (.func 104) #[] #[], .int .u8 2, .func (.func 105) #[] #[]] 141)
  have b3 := Blk.new (((w.alloc (.cells #[.int .u8 t.names, .int .u8 t.num, .int .u8 t.born, .int .u8 t.place, .int .u8 t.one] 54)).alloc (.cells #[.int .i64 r.id, .slice A r.names.length c, .int .u8 r.suf, .int .i64 r.lo, .int .i64 r.hi, .string r.num, .bool r.twin, .slice D r.stays.length d, .map (some m)] 83)).alloc (.cells #[.int .i64 s.id, .slice A' s.names.length c', .int .u8 s.suf, .int .i64 s.lo, .int .i64 s.hi, .string s.num, .bool s.twin, .slice D' s.stays.length d', .map (some m')] 83)) #[.int .u8 0, .func (.func 99) #[] #[], .int .u8 0, .func (.func 100) #[] #[], .int .u8 0, .func (.func 101) #[] #[], .int .u8 0, .func (.func 102) #[] #[], .int .u8 0, .func (.func 103) #[] #[], .int .u8 2, .func (.func 104) #[] #[], .int .u8 2, .func (.func 105) #[] #[]] 141
  simp only [World.size_alloc] at b0 b1 b2 b3
  have hb : Below w.heap.size w ((((w.alloc (.cells #[.int .u8 t.names, .int .u8 t.num, .int .u8 t.born, .int .u8 t.place, .int .u8 t.one] 54)).alloc (.cells #[.int .i64 r.id, .slice A r.names.length c, .int .u8 r.suf, .int .i64 r.lo, .int .i64 r.hi, .string r.num, .bool r.twin, .slice D r.stays.length d, .map (some m)] 83)).alloc (.cells #[.int .i64 s.id, .slice A' s.names.length c', .int .u8 s.suf, .int .i64 s.lo, .int .i64 s.hi, .string s.num, .bool s.twin, .slice D' s.stays.length d', .map (some m')] 83)).alloc (.cells #[.int .u8 0, .func (.func 99) #[] #[], .int .u8 0, .func (.func 100) #[] #[], .int .u8 0, .func (.func 101) #[] #[], .int .u8 0, .func (.func 102) #[] #[], .int .u8 0, .func (.func 103) #[] #[], .int .u8 2, .func (.func 104) #[] #[], .int .u8 2, .func (.func 105) #[] #[]] 141)) := ((((Below.refl _ _).alloc (Nat.le_refl _) _).alloc (by simp) _).alloc (by simp; omega) _).alloc (by simp; omega) _
  generalize hW : (((w.alloc (.cells #[.int .u8 t.names, .int .u8 t.num, .int .u8 t.born, .int .u8 t.place, .int .u8 t.one] 54)).alloc (.cells #[.int .i64 r.id, .slice A r.names.length c, .int .u8 r.suf, .int .i64 r.lo, .int .i64 r.hi, .string r.num, .bool r.twin, .slice D r.stays.length d, .map (some m)] 83)).alloc (.cells #[.int .i64 s.id, .slice A' s.names.length c', .int .u8 s.suf, .int .i64 s.lo, .int .i64 s.hi, .string s.num, .bool s.twin, .slice D' s.stays.length d', .map (some m')] 83)).alloc (.cells #[.int .u8 0, .func (.func 99) #[] #[], .int .u8 0, .func (.func 100) #[] #[], .int .u8 0, .func (.func 101) #[] #[], .int .u8 0, .func (.func 102) #[] #[], .int .u8 0, .func (.func 103) #[] #[], .int .u8 2, .func (.func 104) #[] #[], .int .u8 2, .func (.func 105) #[] #[]] 141) = W0 at *
  clear hW
  go_loopw [11] (fun ii wr => ∃ i : Nat, i ≤ 7 ∧ ii = .int .i64 i ∧ Hid (toldBy q 7 0 = toldBy q (7 - i) i) ∧ Below W0.heap.size W0 wr) (fun ii _ => 7 - (intOf ii).toNat)
  case atStart => exact ⟨0, Nat.zero_le _, rfl, Lib.hid rfl, Below.refl _ _⟩
  case round =>
    obtain ⟨i, hi, rfl, hall, hbel⟩ := hrel
    have hend : Below w.heap.size w wr := hb.trans (hbel.mono hb.size)
    by_cases hlt : i < 7
    · have c0 := (b0.below hbel b0.lt).cell
      have c1 := (b1.below hbel b1.lt).cell
      have c2 := (b2.below hbel b2.lt).cell
      have c3 := (b3.below hbel b3.lt).cell
      have n0 : w.heap.size ≠ wr.heap.size := by have := b0.lt; have := hbel.size; omega
      have n0' : wr.heap.size ≠ w.heap.size := fun e => n0 e.symm
      have n1 : w.heap.size + 1 ≠ wr.heap.size := by have := b1.lt; have := hbel.size; omega
      have n1' : wr.heap.size ≠ w.heap.size + 1 := fun e => n1 e.symm
      have n2 : w.heap.size + 1 + 1 ≠ wr.heap.size := by have := b2.lt; have := hbel.size; omega
      have n2' : wr.heap.size ≠ w.heap.size + 1 + 1 := fun e => n2 e.symm
      have n3 : w.heap.size + 1 + 1 + 1 ≠ wr.heap.size := by have := b3.lt; have := hbel.size; omega
      have n3' : wr.heap.size ≠ w.heap.size + 1 + 1 + 1 := fun e => n3 e.symm
      rcases (by omega : i = 0 ∨ i = 1 ∨ i = 2 ∨ i = 3 ∨ i = 4 ∨ i = 5 ∨ i = 6) with rfl | rfl | rfl | rfl | rfl | rfl | rfl
      · cases hqi : q 0 with
        | true =>
          have HT := Lib.hid (hall.out.trans (toldBy_yes (k := 6) hqi))
          have H := Lib.hid (fun W => hqi ▸ H0.out W)
          clear hall H0 H1 H2 H3 H4 H5 H6
          have e0 := ((b0.below hbel b0.lt).alloc (.cells #[.int .u8 0, .func (.func 99) #[] #[]] 141)).cell
          have e1 := ((b1.below hbel b1.lt).alloc (.cells #[.int .u8 0, .func (.func 99) #[] #[]] 141)).cell
          have e2 := ((b2.below hbel b2.lt).alloc (.cells #[.int .u8 0, .func (.func 99) #[] #[]] 141)).cell
          have ef := (Blk.new wr #[.int .u8 0, .func (.func 99) #[] #[]] 141)
          have hw4 := hend.alloc hend.size (.cells #[.int .u8 0, .func (.func 99) #[] #[]] 141)
          have hw5 := hbel.alloc hbel.size (.cells #[.int .u8 0, .func (.func 99) #[] #[]] 141)
          go_wp2_with (go_at_call 99; refine (H.out _).mono ?_; rintro e w1 ⟨rfl, hb1⟩; have ek := (ef.below hb1 ef.lt).cell)
          go_ret
          exact ⟨ret_int HT.out.symm, hw4.trans (hb1.mono hw4.size)⟩
        | false =>
          have HT := Lib.hid (hall.out.trans (toldBy_no (k := 6) hqi))
          have H := Lib.hid (fun W => hqi ▸ H0.out W)
          clear hall H0 H1 H2 H3 H4 H5 H6
          have e0 := ((b0.below hbel b0.lt).alloc (.cells #[.int .u8 0, .func (.func 99) #[] #[]] 141)).cell
          have e1 := ((b1.below hbel b1.lt).alloc (.cells #[.int .u8 0, .func (.func 99) #[] #[]] 141)).cell
          have e2 := ((b2.below hbel b2.lt).alloc (.cells #[.int .u8 0, .func (.func 99) #[] #[]] 141)).cell
          have ef := (Blk.new wr #[.int .u8 0, .func (.func 99) #[] #[]] 141)
          have hw4 := hend.alloc hend.size (.cells #[.int .u8 0, .func (.func 99) #[] #[]] 141)
          have hw5 := hbel.alloc hbel.size (.cells #[.int .u8 0, .func (.func 99) #[] #[]] 141)
          go_wp2_with (go_at_call 99; refine (H.out _).mono ?_; rintro e w1 ⟨rfl, hb1⟩; have ek := (ef.below hb1 ef.lt).cell)
          go_roundw
          case rel => exact ⟨1, by omega, by go_num, HT, hw5.trans (hb1.mono hw5.size)⟩
          case measure => simp [intOf]
      · cases hqi : q 1 with
        | true =>
          have HT := Lib.hid (hall.out.trans (toldBy_yes (k := 5) hqi))
          have H := Lib.hid (fun W => hqi ▸ H1.out W)
          clear hall H0 H1 H2 H3 H4 H5 H6
          have e0 := ((b0.below hbel b0.lt).alloc (.cells #[.int .u8 0, .func (.func 100) #[] #[]] 141)).cell
          have e1 := ((b1.below hbel b1.lt).alloc (.cells #[.int .u8 0, .func (.func 100) #[] #[]] 141)).cell
          have e2 := ((b2.below hbel b2.lt).alloc (.cells #[.int .u8 0, .func (.func 100) #[] #[]] 141)).cell
          have ef := (Blk.new wr #[.int .u8 0, .func (.func 100) #[] #[]] 141)
          have hw4 := hend.alloc hend.size (.cells #[.int .u8 0, .func (.func 100) #[] #[]] 141)
          have hw5 := hbel.alloc hbel.size (.cells #[.int .u8 0, .func (.func 100) #[] #[]] 141)
          go_wp2_with (go_at_call 100; refine (H.out _).mono ?_; rintro e w1 ⟨rfl, hb1⟩; have ek := (ef.below hb1 ef.lt).cell)
          go_ret
          exact ⟨ret_int HT.out.symm, hw4.trans (hb1.mono hw4.size)⟩
        | false =>
          have HT := Lib.hid (hall.out.trans (toldBy_no (k := 5) hqi))
          have H := Lib.hid (fun W => hqi ▸ H1.out W)
          clear hall H0 H1 H2 H3 H4 H5 H6
          have e0 := ((b0.below hbel b0.lt).alloc (.cells #[.int .u8 0, .func (.func 100) #[] #[]] 141)).cell
          have e1 := ((b1.below hbel b1.lt).alloc (.cells #[.int .u8 0, .func (.func 100) #[] #[]] 141)).cell
          have e2 := ((b2.below hbel b2.lt).alloc (.cells #[.int .u8 0, .func (.func 100) #[] #[]] 141)).cell
          have ef := (Blk.new wr #[.int .u8 0, .func (.func 100) #[] #[]] 141)
          have hw4 := hend.alloc hend.size (.cells #[.int .u8 0, .func (.func 100) #[] #[]] 141)
          have hw5 := hbel.alloc hbel.size (.cells #[.int .u8 0, .func (.func 100) #[] #[]] 141)
          go_wp2_with (go_at_call 100; refine (H.out _).mono ?_; rintro e w1 ⟨rfl, hb1⟩; have ek := (ef.below hb1 ef.lt).cell)
          go_roundw
          case rel => exact ⟨2, by omega, by go_num, HT, hw5.trans (hb1.mono hw5.size)⟩
          case measure => simp [intOf]
      · cases hqi : q 2 with
        | true =>
          have HT := Lib.hid (hall.out.trans (toldBy_yes (k := 4) hqi))
          have H := Lib.hid (fun W => hqi ▸ H2.out W)
          clear hall H0 H1 H2 H3 H4 H5 H6
          have e0 := ((b0.below hbel b0.lt).alloc (.cells #[.int .u8 0, .func (.func 101) #[] #[]] 141)).cell
          have e1 := ((b1.below hbel b1.lt).alloc (.cells #[.int .u8 0, .func (.func 101) #[] #[]] 141)).cell
          have e2 := ((b2.below hbel b2.lt).alloc (.cells #[.int .u8 0, .func (.func 101) #[] #[]] 141)).cell
          have ef := (Blk.new wr #[.int .u8 0, .func (.func 101) #[] #[]] 141)
          have hw4 := hend.alloc hend.size (.cells #[.int .u8 0, .func (.func 101) #[] #[]] 141)
          have hw5 := hbel.alloc hbel.size (.cells #[.int .u8 0, .func (.func 101) #[] #[]] 141)
          go_wp2_with (go_at_call 101; refine (H.out _).mono ?_; rintro e w1 ⟨rfl, hb1⟩; have ek := (ef.below hb1 ef.lt).cell)
          go_ret
          exact ⟨ret_int HT.out.symm, hw4.trans (hb1.mono hw4.size)⟩
        | false =>
          have HT := Lib.hid (hall.out.trans (toldBy_no (k := 4) hqi))
          have H := Lib.hid (fun W => hqi ▸ H2.out W)
          clear hall H0 H1 H2 H3 H4 H5 H6
          have e0 := ((b0.below hbel b0.lt).alloc (.cells #[.int .u8 0, .func (.func 101) #[] #[]] 141)).cell
          have e1 := ((b1.below hbel b1.lt).alloc (.cells #[.int .u8 0, .func (.func 101) #[] #[]] 141)).cell
          have e2 := ((b2.below hbel b2.lt).alloc (.cells #[.int .u8 0, .func (.func 101) #[] #[]] 141)).cell
          have ef := (Blk.new wr #[.int .u8 0, .func (.func 101) #[] #[]] 141)
          have hw4 := hend.alloc hend.size (.cells #[.int .u8 0, .func (.func 101) #[] #[]] 141)
          have hw5 := hbel.alloc hbel.size (.cells #[.int .u8 0, .func (.func 101) #[] #[]] 141)
          go_wp2_with (go_at_call 101; refine (H.out _).mono ?_; rintro e w1 ⟨rfl, hb1⟩; have ek := (ef.below hb1 ef.lt).cell)
          go_roundw
          case rel => exact ⟨3, by omega, by go_num, HT, hw5.trans (hb1.mono hw5.size)⟩
          case measure => simp [intOf]
      · cases hqi : q 3 with
        | true =>
          have HT := Lib.hid (hall.out.trans (toldBy_yes (k := 3) hqi))
          have H := Lib.hid (fun W => hqi ▸ H3.out W)
          clear hall H0 H1 H2 H3 H4 H5 H6
          have e0 := ((b0.below hbel b0.lt).alloc (.cells #[.int .u8 0, .func (.func 102) #[] #[]] 141)).cell
          have e1 := ((b1.below hbel b1.lt).alloc (.cells #[.int .u8 0, .func (.func 102) #[] #[]] 141)).cell
          have e2 := ((b2.below hbel b2.lt).alloc (.cells #[.int .u8 0, .func (.func 102) #[] #[]] 141)).cell
          have ef := (Blk.new wr #[.int .u8 0, .func (.func 102) #[] #[]] 141)
          have hw4 := hend.alloc hend.size (.cells #[.int .u8 0, .func (.func 102) #[] #[]] 141)
          have hw5 := hbel.alloc hbel.size (.cells #[.int .u8 0, .func (.func 102) #[] #[]] 141)
          go_wp2_with (go_at_call 102; refine (H.out _).mono ?_; rintro e w1 ⟨rfl, hb1⟩; have ek := (ef.below hb1 ef.lt).cell)
          go_ret
          exact ⟨ret_int HT.out.symm, hw4.trans (hb1.mono hw4.size)⟩
        | false =>
          have HT := Lib.hid (hall.out.trans (toldBy_no (k := 3) hqi))
          have H := Lib.hid (fun W => hqi ▸ H3.out W)
          clear hall H0 H1 H2 H3 H4 H5 H6
          have e0 := ((b0.below hbel b0.lt).alloc (.cells #[.int .u8 0, .func (.func 102) #[] #[]] 141)).cell
          have e1 := ((b1.below hbel b1.lt).alloc (.cells #[.int .u8 0, .func (.func 102) #[] #[]] 141)).cell
          have e2 := ((b2.below hbel b2.lt).alloc (.cells #[.int .u8 0, .func (.func 102) #[] #[]] 141)).cell
          have ef := (Blk.new wr #[.int .u8 0, .func (.func 102) #[] #[]] 141)
          have hw4 := hend.alloc hend.size (.cells #[.int .u8 0, .func (.func 102) #[] #[]] 141)
          have hw5 := hbel.alloc hbel.size (.cells #[.int .u8 0, .func (.func 102) #[] #[]] 141)
          go_wp2_with (go_at_call 102; refine (H.out _).mono ?_; rintro e w1 ⟨rfl, hb1⟩; have ek := (ef.below hb1 ef.lt).cell)
          go_roundw
          case rel => exact ⟨4, by omega, by go_num, HT, hw5.trans (hb1.mono hw5.size)⟩
          case measure => simp [intOf]
      · cases hqi : q 4 with
        | true =>
          have HT := Lib.hid (hall.out.trans (toldBy_yes (k := 2) hqi))
          have H := Lib.hid (fun W => hqi ▸ H4.out W)
          clear hall H0 H1 H2 H3 H4 H5 H6
          have e0 := ((b0.below hbel b0.lt).alloc (.cells #[.int .u8 0, .func (.func 103) #[] #[]] 141)).cell
          have e1 := ((b1.below hbel b1.lt).alloc (.cells #[.int .u8 0, .func (.func 103) #[] #[]] 141)).cell
          have e2 := ((b2.below hbel b2.lt).alloc (.cells #[.int .u8 0, .func (.func 103) #[] #[]] 141)).cell
          have ef := (Blk.new wr #[.int .u8 0, .func (.func 103) #[] #[]] 141)
          have hw4 := hend.alloc hend.size (.cells #[.int .u8 0, .func (.func 103) #[] #[]] 141)
          have hw5 := hbel.alloc hbel.size (.cells #[.int .u8 0, .func (.func 103) #[] #[]] 141)
          go_wp2_with (go_at_call 103; refine (H.out _).mono ?_; rintro e w1 ⟨rfl, hb1⟩; have ek := (ef.below hb1 ef.lt).cell)
          go_ret
          exact ⟨ret_int HT.out.symm, hw4.trans (hb1.mono hw4.size)⟩
        | false =>
          have HT := Lib.hid (hall.out.trans (toldBy_no (k := 2) hqi))
          have H := Lib.hid (fun W => hqi ▸ H4.out W)
          clear hall H0 H1 H2 H3 H4 H5 H6
          have e0 := ((b0.below hbel b0.lt).alloc (.cells #[.int .u8 0, .func (.func 103) #[] #[]] 141)).cell
          have e1 := ((b1.below hbel b1.lt).alloc (.cells #[.int .u8 0, .func (.func 103) #[] #[]] 141)).cell
          have e2 := ((b2.below hbel b2.lt).alloc (.cells #[.int .u8 0, .func (.func 103) #[] #[]] 141)).cell
          have ef := (Blk.new wr #[.int .u8 0, .func (.func 103) #[] #[]] 141)
          have hw4 := hend.alloc hend.size (.cells #[.int .u8 0, .func (.func 103) #[] #[]] 141)
          have hw5 := hbel.alloc hbel.size (.cells #[.int .u8 0, .func (.func 103) #[] #[]] 141)
          go_wp2_with (go_at_call 103; refine (H.out _).mono ?_; rintro e w1 ⟨rfl, hb1⟩; have ek := (ef.below hb1 ef.lt).cell)
          go_roundw
          case rel => exact ⟨5, by omega, by go_num, HT, hw5.trans (hb1.mono hw5.size)⟩
          case measure => simp [intOf]
      · cases hqi : q 5 with
        | true =>
          have HT := Lib.hid (hall.out.trans (toldBy_yes (k := 1) hqi))
          have H := Lib.hid (fun W => hqi ▸ H5.out W)
          clear hall H0 H1 H2 H3 H4 H5 H6
          have e0 := ((b0.below hbel b0.lt).alloc (.cells #[.int .u8 2, .func (.func 104) #[] #[]] 141)).cell
          have e1 := ((b1.below hbel b1.lt).alloc (.cells #[.int .u8 2, .func (.func 104) #[] #[]] 141)).cell
          have e2 := ((b2.below hbel b2.lt).alloc (.cells #[.int .u8 2, .func (.func 104) #[] #[]] 141)).cell
          have ef := (Blk.new wr #[.int .u8 2, .func (.func 104) #[] #[]] 141)
          have hw4 := hend.alloc hend.size (.cells #[.int .u8 2, .func (.func 104) #[] #[]] 141)
          have hw5 := hbel.alloc hbel.size (.cells #[.int .u8 2, .func (.func 104) #[] #[]] 141)
          go_wp2_with (go_at_call 104; refine (H.out _).mono ?_; rintro e w1 ⟨rfl, hb1⟩; have ek := (ef.below hb1 ef.lt).cell)
          go_ret
          exact ⟨ret_int HT.out.symm, hw4.trans (hb1.mono hw4.size)⟩
        | false =>
          have HT := Lib.hid (hall.out.trans (toldBy_no (k := 1) hqi))
          have H := Lib.hid (fun W => hqi ▸ H5.out W)
          clear hall H0 H1 H2 H3 H4 H5 H6
          have e0 := ((b0.below hbel b0.lt).alloc (.cells #[.int .u8 2, .func (.func 104) #[] #[]] 141)).cell
          have e1 := ((b1.below hbel b1.lt).alloc (.cells #[.int .u8 2, .func (.func 104) #[] #[]] 141)).cell
          have e2 := ((b2.below hbel b2.lt).alloc (.cells #[.int .u8 2, .func (.func 104) #[] #[]] 141)).cell
          have ef := (Blk.new wr #[.int .u8 2, .func (.func 104) #[] #[]] 141)
          have hw4 := hend.alloc hend.size (.cells #[.int .u8 2, .func (.func 104) #[] #[]] 141)
          have hw5 := hbel.alloc hbel.size (.cells #[.int .u8 2, .func (.func 104) #[] #[]] 141)
          go_wp2_with (go_at_call 104; refine (H.out _).mono ?_; rintro e w1 ⟨rfl, hb1⟩; have ek := (ef.below hb1 ef.lt).cell)
          go_roundw
          case rel => exact ⟨6, by omega, by go_num, HT, hw5.trans (hb1.mono hw5.size)⟩
          case measure => simp [intOf]
      · cases hqi : q 6 with
        | true =>
          have HT := Lib.hid (hall.out.trans (toldBy_yes (k := 0) hqi))
          have H := Lib.hid (fun W => hqi ▸ H6.out W)
          clear hall H0 H1 H2 H3 H4 H5 H6
          have e0 := ((b0.below hbel b0.lt).alloc (.cells #[.int .u8 2, .func (.func 105) #[] #[]] 141)).cell
          have e1 := ((b1.below hbel b1.lt).alloc (.cells #[.int .u8 2, .func (.func 105) #[] #[]] 141)).cell
          have e2 := ((b2.below hbel b2.lt).alloc (.cells #[.int .u8 2, .func (.func 105) #[] #[]] 141)).cell
          have ef := (Blk.new wr #[.int .u8 2, .func (.func 105) #[] #[]] 141)
          have hw4 := hend.alloc hend.size (.cells #[.int .u8 2, .func (.func 105) #[] #[]] 141)
          have hw5 := hbel.alloc hbel.size (.cells #[.int .u8 2, .func (.func 105) #[] #[]] 141)
          go_wp2_with (go_at_call 105; refine (H.out _).mono ?_; rintro e w1 ⟨rfl, hb1⟩; have ek := (ef.below hb1 ef.lt).cell)
          go_ret
          exact ⟨ret_int HT.out.symm, hw4.trans (hb1.mono hw4.size)⟩
        | false =>
          have HT := Lib.hid (hall.out.trans (toldBy_no (k := 0) hqi))
          have H := Lib.hid (fun W => hqi ▸ H6.out W)
          clear hall H0 H1 H2 H3 H4 H5 H6
          have e0 := ((b0.below hbel b0.lt).alloc (.cells #[.int .u8 2, .func (.func 105) #[] #[]] 141)).cell
          have e1 := ((b1.below hbel b1.lt).alloc (.cells #[.int .u8 2, .func (.func 105) #[] #[]] 141)).cell
          have e2 := ((b2.below hbel b2.lt).alloc (.cells #[.int .u8 2, .func (.func 105) #[] #[]] 141)).cell
          have ef := (Blk.new wr #[.int .u8 2, .func (.func 105) #[] #[]] 141)
          have hw4 := hend.alloc hend.size (.cells #[.int .u8 2, .func (.func 105) #[] #[]] 141)
          have hw5 := hbel.alloc hbel.size (.cells #[.int .u8 2, .func (.func 105) #[] #[]] 141)
          go_wp2_with (go_at_call 105; refine (H.out _).mono ?_; rintro e w1 ⟨rfl, hb1⟩; have ek := (ef.below hb1 ef.lt).cell)
          go_roundw
          case rel => exact ⟨7, by omega, by go_num, HT, hw5.trans (hb1.mono hw5.size)⟩
          case measure => simp [intOf]
    · have hil : ¬ (i : Int) < 7 := by omega
      obtain rfl : i = 7 := by omega
      go_wp2_with fail
      go_ret
      exact ⟨ret_int (by rw [hall.out]; rfl), hend⟩

end Go.Proofs.YtbkmfomdhjhkpaaGreat
