/- Reasons by the program: whether a list has a number; how two sets compare. -/
import Derived.Test.YtpahcbhikmfamaaGreatRDat

namespace Go.Proofs.YtpahcbhikmfamaaGreat
open Go.RowKit Go.Maps

/-- The index of a number, below 0 if there is none. -/
def IdxS (s : List Int) (x : Int) (e : Ending) : Prop := ∃ k : Int, e = .returned (.int .i64 k) ∧ (0 ≤ k ↔ x ∈ s)
set_option maxRecDepth 100000 in
set_option maxHeartbeats 2000000 in
theorem indexP_any (s : List Int) (A : Option Addr) (c : Nat) (x : Int) (w : World) (h : IntsAt w w.heap.size A s) (hl : s.length ≤ 1000) :
    Calls Tryz.prog 68 #[.slice A s.length c, .int .i64 x] w fun e w' => IdxS s x e ∧ w' = w := by
  go_enter Tryz.func68, Tryz.ntmps68
  go_wp2_with fail
  go_loopw [8] (fun ii wr => ∃ i : Nat, i ≤ s.length ∧ ii = .int .i64 i ∧ wr = w ∧ Hid (∀ y ∈ s.take i, y ≠ x)) (fun ii _ => s.length - (vInt ii).toNat)
  case atStart => exact ⟨0, Nat.zero_le _, rfl, rfl, Lib.hid (by simp)⟩
  case round =>
    obtain ⟨i, hi, rfl, rfl, hR⟩ := hrel
    by_cases hlt : i < s.length
    · have hil : (i : Int) < (s.length : Int) := by omega
      obtain ⟨b, off, rfl, hb, c0⟩ := ints_at h hlt
      have hm : s[i] ∈ s := List.getElem_mem hlt
      have HT : Hid (∀ y, y ∈ s.take (i + 1) → y ∈ s.take i ∨ y = s[i]) := Lib.hid (fun y hy => by
        rw [List.take_succ_eq_append_getElem hlt] at hy
        rcases List.mem_append.1 hy with h | h
        · exact .inl h
        · exact .inr (List.mem_singleton.1 h))
      generalize s[i] = y at *
      by_cases hq : x = y
      · have hq1 : (x == y) = true := by simpa using hq
        have HM : Hid (x ∈ s) := Lib.hid (hq ▸ hm)
        clear hq hm hR
        go_wp2_with fail
        go_ret
        exact ⟨⟨i, rfl, ⟨fun _ => HM.out, fun _ => by omega⟩⟩, rfl⟩
      · have hq1 : (x == y) = false := by simpa using hq
        have HN : Hid (∀ z ∈ s.take (i + 1), z ≠ x) := Lib.hid (fun z hz => by
          rcases HT.out z hz with h1 | h1
          · exact hR.out z h1
          · rw [h1]; exact fun e => hq e.symm)
        clear hq hm hR HT
        go_wp2_with fail
        go_roundw
        case rel => exact ⟨i + 1, by omega, by go_num, (by first | rfl | trivial), HN⟩
        case measure => simp [vInt]; omega
    · have hil : ¬ (i : Int) < (s.length : Int) := by omega
      have HN : Hid (x ∉ s) := Lib.hid (fun hx => by
        have := hR.out x (by rw [List.take_of_length_le (by omega)]; exact hx)
        exact this rfl)
      clear hR
      go_wp2_with fail
      go_ret
      exact ⟨⟨-1, rfl, ⟨fun h => by omega, fun h => absurd h HN.out⟩⟩, rfl⟩
set_option maxRecDepth 100000 in
set_option maxHeartbeats 2000000 in
theorem containsP_any (s : List Int) (A : Option Addr) (c : Nat) (x : Int) (w : World) (h : IntsAt w w.heap.size A s) (hl : s.length ≤ 1000) :
    Calls Tryz.prog 54 #[.slice A s.length c, .int .i64 x] w fun e w' => e = .returned (.bool (decide (x ∈ s))) ∧ w' = w := by
  have H := Lib.hid (indexP_any s A c x w h hl)
  clear h
  have HD : Hid (∀ k : Int, (0 ≤ k ↔ x ∈ s) → decide (x ∈ s) = decide (0 ≤ k)) := Lib.hid (fun k hk => by simp [hk])
  generalize decide (x ∈ s) = d at *
  go_enter Tryz.func54, Tryz.ntmps54
  go_upto_region 1 with fail
  go_wp2_with (go_at_call 68; (with_reducible refine (H.out).mono ?_); rintro e w1 ⟨⟨k, rfl, hk⟩, rfl⟩; have HK := Lib.hid (HD.out k hk); clear hk)
  all_goals go_ret
  all_goals exact ⟨by rw [HK.out]; first | (simp; done) | (simp; omega), rfl⟩
set_option maxHeartbeats 2000000 in
theorem isNaNP_any (x : Int) (w : World) : Calls Tryz.prog 67 #[.int .i64 x] w fun e w' => e = .returned (.bool false) ∧ w' = w := by
  have h : (x != x) = false := by simp
  go_enter Tryz.func67, Tryz.ntmps67
  go_wp2_with fail
  go_ret
  exact ⟨rfl, rfl⟩
set_option maxHeartbeats 2000000 in
theorem cmpIntP_any (x y : Int) (w : World) : Calls Tryz.prog 52 #[.int .i64 x, .int .i64 y] w fun e w' => e = .returned (.int .i64 (cmpI x y)) ∧ w' = w := by
  have HX := Lib.hid (fun W => isNaNP_any x W)
  have HY := Lib.hid (fun W => isNaNP_any y W)
  by_cases h1 : x < y
  · rw [show cmpI x y = -1 from if_pos h1]
    go_enter Tryz.func52, Tryz.ntmps52
    go_wp2_with (go_at_call 67; first
      | ((with_reducible refine (HX.out _).mono ?_); rintro e w1 ⟨rfl, rfl⟩)
      | ((with_reducible refine (HY.out _).mono ?_); rintro e w1 ⟨rfl, rfl⟩))
    go_ret
    exact ⟨rfl, rfl⟩
  · by_cases h2 : y < x
    · rw [show cmpI x y = 1 by unfold cmpI; rw [if_neg h1, if_pos h2]]
      go_enter Tryz.func52, Tryz.ntmps52
      go_wp2_with (go_at_call 67; first
        | ((with_reducible refine (HX.out _).mono ?_); rintro e w1 ⟨rfl, rfl⟩)
        | ((with_reducible refine (HY.out _).mono ?_); rintro e w1 ⟨rfl, rfl⟩))
      go_ret
      exact ⟨rfl, rfl⟩
    · rw [show cmpI x y = 0 by unfold cmpI; rw [if_neg h1, if_neg h2]]
      go_enter Tryz.func52, Tryz.ntmps52
      go_wp2_with (go_at_call 67; first
        | ((with_reducible refine (HX.out _).mono ?_); rintro e w1 ⟨rfl, rfl⟩)
        | ((with_reducible refine (HY.out _).mono ?_); rintro e w1 ⟨rfl, rfl⟩))
      go_ret
      exact ⟨rfl, rfl⟩
set_option maxRecDepth 100000 in
set_option maxHeartbeats 2000000 in
theorem orP_any (c d : Int) (g : Nat) (w : World) (h0 : w.cell? ⟨g, 0, none⟩ = some (.int .i64 c)) (h1 : w.cell? ⟨g, 1, none⟩ = some (.int .i64 d)) :
    Calls Tryz.prog 51 #[.slice (some ⟨g, 0, none⟩) 2 2] w fun e w' => e = .returned (.int .i64 (if c ≠ 0 then c else d)) ∧ w' = w := by
  by_cases hc : c = 0
  · subst hc
    by_cases hd : d = 0
    · subst hd
      go_enter Tryz.func51, Tryz.ntmps51
      go_wp2_with fail
      go_loopw [8] (fun ii wr => ∃ i : Nat, i ≤ 2 ∧ ii = .int .i64 i ∧ wr = w) (fun ii _ => 2 - (vInt ii).toNat)
      case atStart => exact ⟨0, by omega, rfl, rfl⟩
      case round =>
        obtain ⟨i, hi, rfl, rfl⟩ := hrel
        obtain rfl | rfl | rfl : i = 0 ∨ i = 1 ∨ i = 2 := by omega
        · go_wp2_with fail
          go_roundw
          case rel => exact ⟨1, by omega, by go_num, (by first | rfl | trivial)⟩
          case measure => simp [vInt]
        · go_wp2_with fail
          go_roundw
          case rel => exact ⟨2, by omega, by go_num, (by first | rfl | trivial)⟩
          case measure => simp [vInt]
        · go_wp2_with fail
          go_ret
          exact ⟨by simp, rfl⟩
    · have hq : (d != 0) = true := by simpa using hd
      have HD := Lib.hid hd
      clear hd
      go_enter Tryz.func51, Tryz.ntmps51
      go_wp2_with fail
      go_loopw [8] (fun ii wr => ∃ i : Nat, i ≤ 1 ∧ ii = .int .i64 i ∧ wr = w) (fun ii _ => 2 - (vInt ii).toNat)
      case atStart => exact ⟨0, by omega, rfl, rfl⟩
      case round =>
        obtain ⟨i, hi, rfl, rfl⟩ := hrel
        obtain rfl | rfl : i = 0 ∨ i = 1 := by omega
        · go_wp2_with fail
          go_roundw
          case rel => exact ⟨1, by omega, by go_num, (by first | rfl | trivial)⟩
          case measure => simp [vInt]
        · go_wp2_with fail
          go_ret
          exact ⟨by simp, rfl⟩
  · have hq : (c != 0) = true := by simpa using hc
    rw [show (if c ≠ 0 then c else d) = c from if_pos hc]
    clear hc
    go_enter Tryz.func51, Tryz.ntmps51
    go_wp2_with fail
    go_loopw [8] (fun ii wr => ∃ i : Nat, i = 0 ∧ ii = .int .i64 i ∧ wr = w) (fun ii _ => 2 - (vInt ii).toNat)
    case atStart => exact ⟨0, rfl, rfl, rfl⟩
    case round =>
      obtain ⟨i, rfl, rfl, rfl⟩ := hrel
      go_wp2_with fail
      go_ret
      exact ⟨rfl, rfl⟩
theorem cmpL_drop {a b : List Int} {i : Nat} (h1 : i < a.length) (h2 : i < b.length) : cmpL (a.drop i) (b.drop i) = if cmpI a[i] b[i] ≠ 0 then cmpI a[i] b[i] else cmpL (a.drop (i + 1)) (b.drop (i + 1)) := by
  rw [List.drop_eq_getElem_cons h1, List.drop_eq_getElem_cons h2]; rfl
theorem cmpL_long {a b : List Int} {i : Nat} (h1 : i < a.length) (h2 : i = b.length) : cmpL (a.drop i) (b.drop i) = 1 := by
  rw [List.drop_eq_getElem_cons h1, List.drop_of_length_le (by omega : b.length ≤ i)]; rfl
theorem cmpL_short {a b : List Int} {i : Nat} (h1 : i = a.length) (h2 : i < b.length) : cmpL (a.drop i) (b.drop i) = -1 := by
  rw [List.drop_eq_getElem_cons h2, List.drop_of_length_le (by omega : a.length ≤ i)]; rfl
theorem cmpL_same {a b : List Int} {i : Nat} (h1 : i = a.length) (h2 : i = b.length) : cmpL (a.drop i) (b.drop i) = 0 := by
  rw [List.drop_of_length_le (by omega), List.drop_of_length_le (by omega)]; rfl
set_option maxRecDepth 100000 in
set_option maxHeartbeats 2000000 in
theorem compareP_any (a b : List Int) (A B : Option Addr) (ca cb : Nat) (w : World) (hA : IntsAt w w.heap.size A a) (hB : IntsAt w w.heap.size B b) (hla : a.length ≤ 1000) :
    Calls Tryz.prog 53 #[.slice A a.length ca, .slice B b.length cb] w fun e w' => e = .returned (.int .i64 (cmpL a b)) ∧ w' = w := by
  have HV : Hid (cmpL (a.drop 0) (b.drop 0) = cmpL a b) := Lib.hid rfl
  generalize cmpL a b = V at *
  go_enter Tryz.func53, Tryz.ntmps53
  go_wp2_with fail
  go_loopw [11] (fun ii wr => ∃ i : Nat, i ≤ a.length ∧ i ≤ b.length ∧ ii = .int .i64 i ∧ wr = w ∧ Hid (cmpL (a.drop i) (b.drop i) = V)) (fun ii _ => a.length - (vInt ii).toNat)
  case atStart => exact ⟨0, Nat.zero_le _, Nat.zero_le _, rfl, rfl, HV⟩
  case round =>
    obtain ⟨i, hi, hj, rfl, rfl, hR⟩ := hrel
    clear HV
    by_cases hlt : i < a.length
    · have hil : (i : Int) < (a.length : Int) := by omega
      obtain ⟨b1, off1, rfl, hb1, c1⟩ := ints_at hA hlt
      by_cases hlt2 : i < b.length
      · have hil2 : (i : Int) < (b.length : Int) := by omega
        obtain ⟨b2, off2, rfl, hb2, c2⟩ := ints_at hB hlt2
        have HD := Lib.hid (cmpL_drop hlt hlt2)
        have HC := Lib.hid (fun W => cmpIntP_any a[i] b[i] W)
        generalize a[i] = x at *
        generalize b[i] = y at *
        generalize cmpI x y = z at *
        by_cases hz : z = 0
        · have hz1 : (z != 0) = false := by simpa using hz
          have HN : Hid (cmpL (a.drop (i + 1)) (b.drop (i + 1)) = V) := Lib.hid (by have := HD.out; rw [if_neg (by simpa using hz)] at this; rw [← this]; exact hR.out)
          clear hz hR HD
          go_wp2_with (go_at_call 52; (with_reducible refine (HC.out _).mono ?_); rintro e w1 ⟨rfl, rfl⟩)
          go_roundw
          case rel => exact ⟨i + 1, by omega, by omega, by go_num, (by first | rfl | trivial), HN⟩
          case measure => simp [vInt]; omega
        · have hz1 : (z != 0) = true := by simpa using hz
          have HN : Hid (z = V) := Lib.hid (by have := HD.out; rw [if_pos (by simpa using hz)] at this; rw [← this]; exact hR.out)
          clear hz hR HD
          go_wp2_with (go_at_call 52; (with_reducible refine (HC.out _).mono ?_); rintro e w1 ⟨rfl, rfl⟩)
          go_ret
          exact ⟨congrArg (fun z => Ending.returned (.int .i64 z)) HN.out, rfl⟩
      · have hil2 : (b.length : Int) ≤ (i : Int) := by omega
        have HN : Hid (1 = V) := Lib.hid (by rw [← hR.out, cmpL_long hlt (by omega)])
        clear hR
        go_wp2_with fail
        go_ret
        exact ⟨congrArg (fun z => Ending.returned (.int .i64 z)) HN.out, rfl⟩
    · have hil : ¬ (i : Int) < (a.length : Int) := by omega
      by_cases hlt2 : i < b.length
      · have hil2 : (a.length : Int) < (b.length : Int) := by omega
        have HN : Hid (-1 = V) := Lib.hid (by rw [← hR.out, cmpL_short (by omega) hlt2])
        clear hR
        go_wp2_with fail
        go_ret
        exact ⟨congrArg (fun z => Ending.returned (.int .i64 z)) HN.out, rfl⟩
      · have hil2 : ¬ (a.length : Int) < (b.length : Int) := by omega
        have HN : Hid (0 = V) := Lib.hid (by rw [← hR.out, cmpL_same (by omega) (by omega)])
        clear hR
        go_wp2_with fail
        go_ret
        exact ⟨congrArg (fun z => Ending.returned (.int .i64 z)) HN.out, rfl⟩
set_option maxRecDepth 100000 in
set_option maxHeartbeats 2000000 in
theorem setsCmp_any (a b : List Int) (A B : Option Addr) (ca cb : Nat) (w : World) (hA : IntsAt w w.heap.size A a) (hB : IntsAt w w.heap.size B b) (hla : a.length ≤ 1000) :
    Calls Tryz.prog 50 #[.slice A a.length ca, .slice B b.length cb] w fun e w' => e = .returned (.int .i64 (cmpS a b)) ∧ ∃ q os, w' = Sort.grow (w.drewN q) os := by
  have HC := Lib.hid (cmpIntP_any a.length b.length w)
  have HL := Lib.hid (compareP_any a b A B ca cb w hA hB hla)
  have HE : Hid (cmpS a b = if cmpI a.length b.length ≠ 0 then cmpI a.length b.length else cmpL a b) := Lib.hid rfl
  generalize cmpS a b = r at *
  generalize cmpI a.length b.length = c at *
  generalize cmpL a b = d at *
  have k := (Blk.new w #[.int .i64 c, .int .i64 d] 3)
  have ho := orP_any c d w.heap.size _ (k.cell 0) (k.cell 1)
  rw [← HE.out] at ho
  have HO := Lib.hid ho
  clear k hA hB HE ho
  go_enter Tryz.func50, Tryz.ntmps50
  go_wp2_with (first
    | (go_at_call 52; (with_reducible refine (HC.out).mono ?_); rintro e w1 ⟨rfl, rfl⟩)
    | (go_at_call 53; (with_reducible refine (HL.out).mono ?_); rintro e w1 ⟨rfl, rfl⟩)
    | (go_at_call 51; (with_reducible refine (HO.out).mono ?_); rintro e w1 ⟨rfl, rfl⟩))
  go_ret
  exact ⟨rfl, Grown.alloc _ _⟩
end Go.Proofs.YtpahcbhikmfamaaGreat
