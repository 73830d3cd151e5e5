/- The law on the distance, walked. -/
import Derived.Test.YtkmhnomdfgnohaaGreatAlive
import Derived.Laws.BytesArg
namespace Go.Proofs.YtkmhnomdfgnohaaGreat
open Go.RowKit

theorem edN_ok {a b : ByteArray} (ha : a.size ≤ 20) (hb : b.size ≤ 20) : edN a b = (lev a.data.toList b.data.toList : Int) ∧ edE a b = 0 := by
  have h : wordsOk a b = true := by simp [wordsOk, ha, hb]
  exact ⟨by rw [edN, if_pos h], by rw [edE, if_pos h]⟩
theorem edits3_any {a b : ByteArray} (ha : a.size ≤ 20) (hb : b.size ≤ 20) (W : World) :
    Calls Tryz.prog 25 #[.string a, .string b] W fun e w' => e = .returned (.tuple #[.int .i64 (lev a.data.toList b.data.toList : Int), .int .i64 0]) ∧ Below W.heap.size W w' := by
  have h := edits2_any a b W
  rw [(edN_ok ha hb).1, (edN_ok ha hb).2] at h
  exact h

theorem letterCv (k : Int) (W : World) : (convert 62 9 (.slice (some ⟨W.heap.size, 0, none⟩) 1 1)).run Tryz.prog (W.alloc (.cells #[.int .u8 k] 5)) = .ok (.string (strOfNums [k])) (W.alloc (.cells #[.int .u8 k] 5)) :=
  run_convert_bytes_arg (W.alloc (.cells #[.int .u8 k] 5)) 62 5 Tryz.underlying62 Tryz.underlying5 W.heap.size 0 1 1 [k] rfl (fun i hi => by
    obtain rfl : i = 0 := by omega
    exact (Blk.new W #[.int .u8 k] 5).cell 0) 9 Tryz.underlying9
theorem oneLetter (a : ByteArray) (k : Int) : (a ++ strOfNums [k]).size = a.size + 1 ∧ (a ++ strOfNums [k]).data.toList = a.data.toList ++ [UInt8.ofNat k.toNat] := by
  have h : (a ++ strOfNums [k]).data = a.data ++ (strOfNums [k]).data := ByteArray.data_append
  have h2 : (strOfNums [k]).data = #[UInt8.ofNat k.toNat] := rfl
  refine ⟨?_, by rw [h, h2]; simp⟩
  show (a ++ strOfNums [k]).data.size = a.data.size + 1
  rw [h, h2, Array.size_append]; rfl
structure EdFacts (a b c : ByteArray) (x z v m : Int) : Prop where
  x0 : 0 ≤ x
  x2 : x ≤ 20
  z0 : 0 ≤ z
  z2 : z ≤ 20
  m0 : 0 ≤ m
  m2 : m ≤ 21
  eq : (a.toList == b.toList) = (x == 0)
  tri : v ≤ x + z
  up : m ≤ x + 1
  down : x - 1 ≤ m
  la : (a.size : Int) - b.size ≤ x
  lb : (b.size : Int) - a.size ≤ x
  mx : x ≤ max (a.size : Int) b.size
theorem edFacts {a b c : ByteArray} (k : Int) (ha : a.size ≤ 20) (hb : b.size ≤ 20) (hc : c.size ≤ 20) : EdFacts a b c (lev a.data.toList b.data.toList : Int) (lev b.data.toList c.data.toList : Int) (lev a.data.toList c.data.toList : Int) (lev (a ++ strOfNums [k]).data.toList b.data.toList : Int) := by
  have h1 := lev_bounds a.data.toList b.data.toList
  have h2 := lev_bounds b.data.toList c.data.toList
  have h3 := lev_tri a.data.toList b.data.toList c.data.toList
  have h4 := lev_more a.data.toList b.data.toList (UInt8.ofNat k.toNat)
  have h5 := lev_zero a.data.toList b.data.toList
  rw [(oneLetter a k).2]
  have la : a.data.toList.length = a.size := Array.length_toList
  have lb : b.data.toList.length = b.size := Array.length_toList
  have lc : c.data.toList.length = c.size := Array.length_toList
  rw [la, lb] at h1
  rw [lb, lc] at h2
  refine ⟨by omega, by omega, by omega, by omega, by omega, by omega, ?_, by omega, by omega, by omega, by omega, by omega, by omega⟩
  rw [ByteArray.toList_eq, ByteArray.toList_eq, Bool.eq_iff_iff]
  simp only [beq_iff_eq]
  rw [← h5]
  omega

set_option maxRecDepth 100000 in
set_option maxHeartbeats 4000000 in
theorem matchEdits_any (a b c : ByteArray) (k : Int) (w : World) :
    Calls Tryz.prog 6 #[.string a, .string b, .string c, .int .u8 k] w fun e w' => e = .returned (.bool true) ∧ Below w.heap.size w w' := by
  have HA := Lib.hid (fun W => alive_any W)
  by_cases ha : (20 : Int) ≤ (a.size : Int)
  · go_enter Tryz.func6, Tryz.ntmps6
    go_wp2_with (go_at_call 19; (with_reducible refine (HA.out _).mono ?_); rintro e w1 ⟨rfl, h1⟩)
    go_ret
    exact ⟨rfl, h1⟩
  · by_cases hb : (20 : Int) < (b.size : Int)
    · go_enter Tryz.func6, Tryz.ntmps6
      go_wp2_with (go_at_call 19; (with_reducible refine (HA.out _).mono ?_); rintro e w1 ⟨rfl, h1⟩)
      go_ret
      exact ⟨rfl, h1⟩
    · by_cases hc : (20 : Int) < (c.size : Int)
      · go_enter Tryz.func6, Tryz.ntmps6
        go_wp2_with (go_at_call 19; (with_reducible refine (HA.out _).mono ?_); rintro e w1 ⟨rfl, h1⟩)
        go_ret
        exact ⟨rfl, h1⟩
      · have H1 := Lib.hid (fun W => edits3_any (a := a) (b := b) (by omega) (by omega) W)
        have H2 := Lib.hid (fun W => lev_comm b.data.toList a.data.toList ▸ edits3_any (a := b) (b := a) (by omega) (by omega) W)
        have H3 := Lib.hid (fun W => edits3_any (a := b) (b := c) (by omega) (by omega) W)
        have H4 := Lib.hid (fun W => edits3_any (a := a) (b := c) (by omega) (by omega) W)
        have hsz := (oneLetter a k).1
        have H5 := Lib.hid (fun W => edits3_any (a := a ++ strOfNums [k]) (b := b) (by omega) (by omega) W)
        have HF := Lib.hid (edFacts (a := a) (b := b) (c := c) k (by omega) (by omega) (by omega))
        have hcv := letterCv k
        have hcat : ¬ 9223372036854775807 < a.size + (strOfNums [k]).size := by have : (strOfNums [k]).size = 1 := rfl; omega
        generalize (lev a.data.toList b.data.toList : Int) = x at *
        generalize (lev b.data.toList c.data.toList : Int) = z at *
        generalize (lev a.data.toList c.data.toList : Int) = v at *
        generalize (lev (a ++ strOfNums [k]).data.toList b.data.toList : Int) = m at *
        go_enter Tryz.func6, Tryz.ntmps6
        go_upto_region 10 with (first
          | (go_at_call 19; (with_reducible refine (HA.out _).mono ?_); rintro e w1 ⟨rfl, h1⟩)
          | (go_at_call 25; (with_reducible refine (H1.out _).mono ?_); rintro e w2 ⟨rfl, h2⟩)
          | (go_at_call 25; (with_reducible refine (H2.out _).mono ?_); rintro e w3 ⟨rfl, h3⟩)
          | (go_at_call 25; (with_reducible refine (H3.out _).mono ?_); rintro e w4 ⟨rfl, h4⟩)
          | (go_at_call 25; (with_reducible refine (H4.out _).mono ?_); rintro e w5 ⟨rfl, h5⟩))
        have hb5 := (((h1.trans (h2.mono h1.size)).trans (h3.mono (h1.trans (h2.mono h1.size)).size)).trans (h4.mono ((h1.trans (h2.mono h1.size)).trans (h3.mono (h1.trans (h2.mono h1.size)).size)).size))
        have hb6 := hb5.trans (h5.mono hb5.size)
        clear h1 h2 h3 h4 h5 hb5
        go_upto_region 11 with (go_at_call 25; (with_reducible refine (H5.out _).mono ?_); rintro e w6 ⟨rfl, h6⟩)
        obtain ⟨x0, x2, z0, z2, m0, m2, eq, tri, up, down, la, lb, mx⟩ := HF.out
        clear H1 H2 H3 H4 H5 hcv HF
        have hb7 := (hb6.alloc hb6.size (.cells #[.int .u8 k] 5))
        have hb8 := hb7.trans (h6.mono hb7.size)
        go_wp2_with fail
        go_ret
        exact ⟨rfl, hb8⟩

end Go.Proofs.YtkmhnomdfgnohaaGreat
