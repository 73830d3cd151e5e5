/- Fractions, by the reference. -/
import Derived.Test.YtbkekdbabkncfaaGreatW1
import Derived.Test.YtbkekdbabkncfaaGreatVP5
import Derived.Deep.RegionHeld3

namespace Go.Proofs.YtbkekdbabkncfaaGreat
open Go.RowKit Go.Maps

set_option maxRecDepth 100000 in
set_option maxHeartbeats 4000000 in
theorem gcd10_any (a b : Int) (ha : 0 ≤ a ∧ a ≤ 4000000000000000000) (hb : 0 ≤ b ∧ b ≤ 4000000000000000000) (w : World) :
    Calls Tryz.prog 83 #[.int .i64 a, .int .i64 b] w fun e w' => e = .returned (.int .i64 (gcdI a b)) ∧ Below w.heap.size w w' := by
  have HA := Lib.hid ha
  have HBn := Lib.hid hb
  clear ha hb
  go_enter Tryz.func83, Tryz.ntmps83
  go_wp2_with fail
  go_loopw [0, 1] (fun cc nn wq => ∃ (p q : Int), cc = .int .i64 p ∧ nn = .int .i64 q ∧ Hid (Below w.heap.size w wq ∧ gcdI p q = gcdI a b ∧ (0 ≤ p ∧ p ≤ 4000000000000000000) ∧ (0 ≤ q ∧ q ≤ 4000000000000000000))) (fun _ nn _ => (vInt nn).natAbs)
  case atStart => exact ⟨a, b, rfl, rfl, Lib.hid ⟨Below.refl _ _, rfl, HA.out, HBn.out⟩⟩
  case round =>
    obtain ⟨p, q, rfl, rfl, hR⟩ := hrel
    obtain ⟨hB2, hG, hp, hq⟩ := hR.out
    clear hR
    by_cases hz : q = 0
    · have hz1 : (q != 0) = false := by simp [hz]
      have HZ : Hid (p = gcdI a b) := Lib.hid (by rw [← hG, hz, gcdI_zero]; omega)
      clear hz hG hq hp
      go_wp2_with fail
      go_ret
      exact ⟨ret_int HZ.out, hB2⟩
    · have hz1 : (q != 0) = true := by simpa using hz
      have hz2 : (q == 0) = false := by simpa using hz
      have hz3 : ¬ q = 0 := hz
      have htm : p.tmod q = p % q := Int.tmod_eq_emod_of_nonneg hp.1
      have HG : Hid (gcdI q (p % q) = gcdI a b) := Lib.hid (by rw [← htm, gcdI_rem, hG])
      have hr : 0 ≤ p % q ∧ p % q ≤ 4000000000000000000 := by
        rw [← htm]
        have h1 : (p.tmod q).natAbs ≤ p.natAbs := by rw [Int.natAbs_tmod]; exact Nat.mod_le _ _
        have h2 := Int.tmod_nonneg q hp.1
        omega
      have hm9 : (p % q).natAbs < q.natAbs := by rw [← htm, Int.natAbs_tmod]; exact Nat.mod_lt _ (by omega)
      have HR := Lib.hid hr
      have HM := Lib.hid hm9
      have HQb := Lib.hid hq
      have hq1 := hq.1
      have hq2 := hq.2
      have hp1 := hp.1
      have hp2 := hp.2
      clear hz hG hr hm9 hq hp htm
      go_upto_region 2 with fail
      go_region
      go_wp2_with fail
      go_roundw
      case rel => exact ⟨q, p % q, rfl, rfl, Lib.hid ⟨hB2.drew, HG.out, HQb.out, HR.out⟩⟩
      case measure => simp only [vInt]; exact HM.out
set_option maxRecDepth 100000 in
set_option maxHeartbeats 4000000 in
theorem abs10_any (n : Int) (hn : -4000000000000000000 ≤ n ∧ n ≤ 4000000000000000000) (w : World) :
    Calls Tryz.prog 84 #[.int .i64 n] w fun e w' => e = .returned (.int .i64 (n.natAbs : Int)) ∧ w = w' := by
  have hwn : IntKind.i64.wrap (-n) = -n := IntWalk.i64_in _ (by omega)
  go_enter Tryz.func84, Tryz.ntmps84
  go_wp2_with fail
  all_goals go_ret
  all_goals exact ⟨ret_int (by omega), rfl⟩
/-- The reference's own way to lowest terms. -/
theorem rat_own {n d : Int} (hd : 0 ≤ d) : (⟨n.tdiv (gcdI (n.natAbs : Int) d), d.tdiv (gcdI (n.natAbs : Int) d)⟩ : Frc) = ratF n d := by
  have hg : gcdI (n.natAbs : Int) d = gcdI n d := by
    unfold gcdI
    rw [Int.gcd_eq_natAbs_gcd_natAbs, Int.gcd_eq_natAbs_gcd_natAbs, Int.natAbs_natCast]
  unfold ratF
  rw [if_neg (by omega), hg, tdiv_gcd_left, tdiv_gcd_right]
theorem rat_neg {n d : Int} (hd : d < 0) : ratF (-n) (-d) = ratF n d := by
  unfold ratF
  have hg : gcdI (-n) (-d) = gcdI n d := by unfold gcdI; rw [Int.gcd_neg, Int.neg_gcd]
  rw [if_neg (by omega), if_pos hd, hg]
  have h1 : gcdI n d ∣ n := by unfold gcdI; exact Int.gcd_dvd_left ..
  have h2 : gcdI n d ∣ d := by unfold gcdI; exact Int.gcd_dvd_right ..
  rw [Int.neg_ediv_of_dvd h1, Int.neg_ediv_of_dvd h2]
set_option maxRecDepth 100000 in
set_option maxHeartbeats 4000000 in
theorem over10_any (n d : Int) (hn : -4000000000000000000 ≤ n ∧ n ≤ 4000000000000000000) (hd : -4000000000000000000 ≤ d ∧ d ≤ 4000000000000000000) (hz : d ≠ 0) (w : World) :
    Calls Tryz.prog 85 #[.int .i64 n, .int .i64 d] w fun e w' => e = .returned (.agg #[.int .i64 (ratF n d).n, .int .i64 (ratF n d).d]) ∧ Below w.heap.size w w' := by
  have key : ∀ (n d : Int), (-4000000000000000000 ≤ n ∧ n ≤ 4000000000000000000) → (0 < d ∧ d ≤ 4000000000000000000) → (1 ≤ gcdI (n.natAbs : Int) d ∧ gcdI (n.natAbs : Int) d ≤ 4000000000000000000) ∧ (IntKind.i64.wrap (n.tdiv (gcdI (n.natAbs : Int) d)) = n.tdiv (gcdI (n.natAbs : Int) d)) ∧ (IntKind.i64.wrap (d.tdiv (gcdI (n.natAbs : Int) d)) = d.tdiv (gcdI (n.natAbs : Int) d)) := fun n d hn hd => by
    have h1 := gcdI_le (a := (n.natAbs : Int)) (b := d) (by omega)
    have hbn : (n.tdiv (gcdI (n.natAbs : Int) d)).natAbs ≤ n.natAbs := by rw [Int.natAbs_tdiv]; exact Nat.div_le_self _ _
    have hbd : (d.tdiv (gcdI (n.natAbs : Int) d)).natAbs ≤ d.natAbs := by rw [Int.natAbs_tdiv]; exact Nat.div_le_self _ _
    exact ⟨by omega, IntWalk.i64_in _ (by omega), IntWalk.i64_in _ (by omega)⟩
  have b1 := (Below.refl w.heap.size w).alloc (Nat.le_refl _) (.cells #[.int .i64 0, .int .i64 0] 101)
  have k1 := Blk.new w #[.int .i64 0, .int .i64 0] 101
  have g1 := k1.lt
  by_cases hd0 : d < 0
  ·
    obtain ⟨k1', k2, k3⟩ := key (-n) (-d) (by omega) (by omega)
    have HE := Lib.hid ((rat_own (n := -n) (d := -d) (by omega)).trans (rat_neg hd0))
    have HAb := Lib.hid (abs10_any (-n) (by omega))
    have HG := Lib.hid (gcd10_any ((-n).natAbs : Int) (-d) (by omega) (by omega))
    rw [Int.natAbs_neg] at HE HAb HG k1' k2 k3
    have hwn : IntKind.i64.wrap (-n) = -n := IntWalk.i64_in _ (by omega)
    have hwd : IntKind.i64.wrap (-d) = -d := IntWalk.i64_in _ (by omega)
    clear key
    generalize gcdI (n.natAbs : Int) (-d) = g at *
    have hg0 : ¬ g = 0 := by omega
    have hg1 : (g == 0) = false := by rw [beq_eq_false_iff_ne]; exact hg0
    clear k1'
    go_enter Tryz.func85, Tryz.ntmps85
    go_upto_region 4 with (first
      | (go_at_call 84; (with_reducible refine (HAb.out _).mono ?_); rintro e w1 ⟨rfl, rfl⟩)
      | (go_at_call 83; (with_reducible refine (HG.out _).mono ?_); rintro e w1 ⟨rfl, h1⟩; have b3 := b1.trans (h1.mono b1.size); have k3q := k1.below h1 g1))
    have k3c := k3q.cell
    have k3f := k3q.free
    generalize hp1 : (-n).tdiv g = p1 at *
    generalize hp2 : (-d).tdiv g = p2 at *
    have HP := Lib.hid (And.intro hp1 hp2)
    have b4 := (b3.setCell (p := ⟨w.heap.size, 0, none⟩) (Nat.le_refl _) (.int .i64 p1)).setCell (p := ⟨w.heap.size, 1, none⟩) (Nat.le_refl _) (.int .i64 p2) |>.drew
    have r0 := ((k3q.set 0 (.int .i64 p1)).set 1 (.int .i64 p2)).drew.cell
    go_region
    go_wp2_with fail
    refine bodyPost_ret (v := .agg #[.int .i64 p1, .int .i64 p2]) ?hres rfl ?hpost
    case hres => simp [results, Tryz.results85, go_sem, r0]
    case hpost => exact ⟨by rw [← HE.out], b4⟩
  ·
    obtain ⟨k1', k2, k3⟩ := key (n) (d) (by omega) (by omega)
    have HE := Lib.hid (rat_own (n := n) (d := d) (by omega))
    have HAb := Lib.hid (abs10_any (n) (by omega))
    have HG := Lib.hid (gcd10_any ((n).natAbs : Int) (d) (by omega) (by omega))
    have hwn : IntKind.i64.wrap (-n) = -n := IntWalk.i64_in _ (by omega)
    have hwd : IntKind.i64.wrap (-d) = -d := IntWalk.i64_in _ (by omega)
    clear key
    generalize gcdI ((n).natAbs : Int) (d) = g at *
    have hg0 : ¬ g = 0 := by omega
    have hg1 : (g == 0) = false := by rw [beq_eq_false_iff_ne]; exact hg0
    clear k1'
    go_enter Tryz.func85, Tryz.ntmps85
    go_upto_region 4 with (first
      | (go_at_call 84; (with_reducible refine (HAb.out _).mono ?_); rintro e w1 ⟨rfl, rfl⟩)
      | (go_at_call 83; (with_reducible refine (HG.out _).mono ?_); rintro e w1 ⟨rfl, h1⟩; have b3 := b1.trans (h1.mono b1.size); have k3q := k1.below h1 g1))
    have k3c := k3q.cell
    have k3f := k3q.free
    generalize hp1 : (n).tdiv g = p1 at *
    generalize hp2 : (d).tdiv g = p2 at *
    have HP := Lib.hid (And.intro hp1 hp2)
    have b4 := (b3.setCell (p := ⟨w.heap.size, 0, none⟩) (Nat.le_refl _) (.int .i64 p1)).setCell (p := ⟨w.heap.size, 1, none⟩) (Nat.le_refl _) (.int .i64 p2) |>.drew
    have r0 := ((k3q.set 0 (.int .i64 p1)).set 1 (.int .i64 p2)).drew.cell
    go_region
    go_wp2_with fail
    refine bodyPost_ret (v := .agg #[.int .i64 p1, .int .i64 p2]) ?hres rfl ?hpost
    case hres => simp [results, Tryz.results85, go_sem, r0]
    case hpost => exact ⟨by rw [← HE.out], b4⟩
set_option maxRecDepth 100000 in
set_option maxHeartbeats 4000000 in
theorem minus10_any (a b : Frc) (ha : bdF a = true) (hb : bdF b = true) (w : World) :
    Calls Tryz.prog 56 #[.agg #[.int .i64 a.n, .int .i64 a.d], .agg #[.int .i64 b.n, .int .i64 b.d]] w fun e w' => e = .returned (.agg #[.int .i64 (subF a b).n, .int .i64 (subF a b).d]) ∧ Below w.heap.size w w' := by
  obtain ⟨⟨ha1, ha2⟩, ha3, ha4⟩ := bdF_iff.1 ha
  obtain ⟨⟨hb1, hb2⟩, hb3, hb4⟩ := bdF_iff.1 hb
  clear ha hb
  have b3 := (((Below.refl w.heap.size w).alloc (Nat.le_refl _) (.cells #[.int .i64 a.n, .int .i64 a.d] 101)).alloc (by simp) (.cells #[.int .i64 b.n, .int .i64 b.d] 101)).alloc (by simp; omega) (.cells #[.int .i64 0, .int .i64 0] 101)
  have k1 := ((Blk.new w #[.int .i64 a.n, .int .i64 a.d] 101).alloc (.cells #[.int .i64 b.n, .int .i64 b.d] 101)).alloc (.cells #[.int .i64 0, .int .i64 0] 101)
  have k2 := (newAt' (w.alloc (.cells #[.int .i64 a.n, .int .i64 a.d] 101)) #[.int .i64 b.n, .int .i64 b.d] 101 (g := w.heap.size + 1) (by simp)).alloc (.cells #[.int .i64 0, .int .i64 0] 101)
  have k3 := newAt' ((w.alloc (.cells #[.int .i64 a.n, .int .i64 a.d] 101)).alloc (.cells #[.int .i64 b.n, .int .i64 b.d] 101)) #[.int .i64 0, .int .i64 0] 101 (g := w.heap.size + 2) (by simp)
  have k1c := k1.cell
  have k2c := k2.cell
  have g3 := k3.lt
  obtain ⟨p1a, p1b⟩ := mul_bd (a := a.n) (b := b.d) ⟨by omega, by omega⟩ ⟨by omega, by omega⟩
  obtain ⟨p2a, p2b⟩ := mul_bd (a := b.n) (b := a.d) ⟨by omega, by omega⟩ ⟨by omega, by omega⟩
  obtain ⟨p3a, p3b⟩ := mul_bd (a := a.d) (b := b.d) ⟨by omega, by omega⟩ ⟨by omega, by omega⟩
  have hpos : 0 < a.d * b.d := Int.mul_pos (by omega) (by omega)
  have HR := Lib.hid (fun W => over10_any (a.n * b.d - b.n * a.d) (a.d * b.d) ⟨by omega, by omega⟩ ⟨by omega, by omega⟩ (by omega) W)
  have hE : subF a b = ratF (a.n * b.d - b.n * a.d) (a.d * b.d) := rfl
  rw [hE]
  clear hE
  generalize ratF (a.n * b.d - b.n * a.d) (a.d * b.d) = r at *
  go_enter Tryz.func56, Tryz.ntmps56
  go_wp2_with (go_at_call 85; (with_reducible refine (HR.out _).mono ?_); rintro e w1 ⟨rfl, h1⟩; have b4 := b3.trans (h1.mono b3.size); have k4 := k3.below h1 g3; have k4c := k4.cell; have k4f := k4.free; have b5 := (b4.setCell (p := ⟨w.heap.size + 2, 0, none⟩) (by simp) (.int .i64 r.n)).setCell (p := ⟨w.heap.size + 2, 1, none⟩) (by simp) (.int .i64 r.d); have r0 := ((k4.set 0 (.int .i64 r.n)).set 1 (.int .i64 r.d)).cell)
  refine bodyPost_ret (v := .agg #[.int .i64 r.n, .int .i64 r.d]) ?hres rfl ?hpost
  case hres => simp [results, Tryz.results56, go_sem, r0]
  case hpost => exact ⟨rfl, b5⟩
set_option maxRecDepth 100000 in
set_option maxHeartbeats 4000000 in
theorem times10_any (a b : Frc) (ha : bdF a = true) (hb : bdF b = true) (w : World) :
    Calls Tryz.prog 116 #[.agg #[.int .i64 a.n, .int .i64 a.d], .agg #[.int .i64 b.n, .int .i64 b.d]] w fun e w' => e = .returned (.agg #[.int .i64 (mulF a b).n, .int .i64 (mulF a b).d]) ∧ Below w.heap.size w w' := by
  obtain ⟨⟨ha1, ha2⟩, ha3, ha4⟩ := bdF_iff.1 ha
  obtain ⟨⟨hb1, hb2⟩, hb3, hb4⟩ := bdF_iff.1 hb
  clear ha hb
  have b3 := (((Below.refl w.heap.size w).alloc (Nat.le_refl _) (.cells #[.int .i64 a.n, .int .i64 a.d] 101)).alloc (by simp) (.cells #[.int .i64 b.n, .int .i64 b.d] 101)).alloc (by simp; omega) (.cells #[.int .i64 0, .int .i64 0] 101)
  have k1 := ((Blk.new w #[.int .i64 a.n, .int .i64 a.d] 101).alloc (.cells #[.int .i64 b.n, .int .i64 b.d] 101)).alloc (.cells #[.int .i64 0, .int .i64 0] 101)
  have k2 := (newAt' (w.alloc (.cells #[.int .i64 a.n, .int .i64 a.d] 101)) #[.int .i64 b.n, .int .i64 b.d] 101 (g := w.heap.size + 1) (by simp)).alloc (.cells #[.int .i64 0, .int .i64 0] 101)
  have k3 := newAt' ((w.alloc (.cells #[.int .i64 a.n, .int .i64 a.d] 101)).alloc (.cells #[.int .i64 b.n, .int .i64 b.d] 101)) #[.int .i64 0, .int .i64 0] 101 (g := w.heap.size + 2) (by simp)
  have k1c := k1.cell
  have k2c := k2.cell
  have g3 := k3.lt
  obtain ⟨p1a, p1b⟩ := mul_bd (a := a.n) (b := b.n) ⟨by omega, by omega⟩ ⟨by omega, by omega⟩
  obtain ⟨p3a, p3b⟩ := mul_bd (a := a.d) (b := b.d) ⟨by omega, by omega⟩ ⟨by omega, by omega⟩
  have hpos : 0 < a.d * b.d := Int.mul_pos (by omega) (by omega)
  have HR := Lib.hid (fun W => over10_any (a.n * b.n) (a.d * b.d) ⟨by omega, by omega⟩ ⟨by omega, by omega⟩ (by omega) W)
  have hE : mulF a b = ratF (a.n * b.n) (a.d * b.d) := rfl
  rw [hE]
  clear hE
  generalize ratF (a.n * b.n) (a.d * b.d) = r at *
  go_enter Tryz.func116, Tryz.ntmps116
  go_wp2_with (go_at_call 85; (with_reducible refine (HR.out _).mono ?_); rintro e w1 ⟨rfl, h1⟩; have b4 := b3.trans (h1.mono b3.size); have k4 := k3.below h1 g3; have k4c := k4.cell; have k4f := k4.free; have b5 := (b4.setCell (p := ⟨w.heap.size + 2, 0, none⟩) (by simp) (.int .i64 r.n)).setCell (p := ⟨w.heap.size + 2, 1, none⟩) (by simp) (.int .i64 r.d); have r0 := ((k4.set 0 (.int .i64 r.n)).set 1 (.int .i64 r.d)).cell)
  refine bodyPost_ret (v := .agg #[.int .i64 r.n, .int .i64 r.d]) ?hres rfl ?hpost
  case hres => simp [results, Tryz.results116, go_sem, r0]
  case hpost => exact ⟨rfl, b5⟩
set_option maxRecDepth 100000 in
set_option maxHeartbeats 4000000 in
theorem divide10_any (a b : Frc) (ha : bdF a = true) (hb : bdF b = true) (hb0 : b.n ≠ 0) (w : World) :
    Calls Tryz.prog 82 #[.agg #[.int .i64 a.n, .int .i64 a.d], .agg #[.int .i64 b.n, .int .i64 b.d]] w fun e w' => e = .returned (.agg #[.int .i64 (divF a b).n, .int .i64 (divF a b).d]) ∧ Below w.heap.size w w' := by
  obtain ⟨⟨ha1, ha2⟩, ha3, ha4⟩ := bdF_iff.1 ha
  obtain ⟨⟨hb1, hb2⟩, hb3, hb4⟩ := bdF_iff.1 hb
  clear ha hb
  have b3 := (((Below.refl w.heap.size w).alloc (Nat.le_refl _) (.cells #[.int .i64 a.n, .int .i64 a.d] 101)).alloc (by simp) (.cells #[.int .i64 b.n, .int .i64 b.d] 101)).alloc (by simp; omega) (.cells #[.int .i64 0, .int .i64 0] 101)
  have k1 := ((Blk.new w #[.int .i64 a.n, .int .i64 a.d] 101).alloc (.cells #[.int .i64 b.n, .int .i64 b.d] 101)).alloc (.cells #[.int .i64 0, .int .i64 0] 101)
  have k2 := (newAt' (w.alloc (.cells #[.int .i64 a.n, .int .i64 a.d] 101)) #[.int .i64 b.n, .int .i64 b.d] 101 (g := w.heap.size + 1) (by simp)).alloc (.cells #[.int .i64 0, .int .i64 0] 101)
  have k3 := newAt' ((w.alloc (.cells #[.int .i64 a.n, .int .i64 a.d] 101)).alloc (.cells #[.int .i64 b.n, .int .i64 b.d] 101)) #[.int .i64 0, .int .i64 0] 101 (g := w.heap.size + 2) (by simp)
  have k1c := k1.cell
  have k2c := k2.cell
  have g3 := k3.lt
  obtain ⟨p1a, p1b⟩ := mul_bd (a := a.n) (b := b.d) ⟨by omega, by omega⟩ ⟨by omega, by omega⟩
  obtain ⟨p3a, p3b⟩ := mul_bd (a := a.d) (b := b.n) ⟨by omega, by omega⟩ ⟨by omega, by omega⟩
  have hnz : a.d * b.n ≠ 0 := Int.mul_ne_zero (by omega) hb0
  have HR := Lib.hid (fun W => over10_any (a.n * b.d) (a.d * b.n) ⟨by omega, by omega⟩ ⟨by omega, by omega⟩ hnz W)
  have hE : divF a b = ratF (a.n * b.d) (a.d * b.n) := rfl
  rw [hE]
  clear hE
  generalize ratF (a.n * b.d) (a.d * b.n) = r at *
  go_enter Tryz.func82, Tryz.ntmps82
  go_wp2_with (go_at_call 85; (with_reducible refine (HR.out _).mono ?_); rintro e w1 ⟨rfl, h1⟩; have b4 := b3.trans (h1.mono b3.size); have k4 := k3.below h1 g3; have k4c := k4.cell; have k4f := k4.free; have b5 := (b4.setCell (p := ⟨w.heap.size + 2, 0, none⟩) (by simp) (.int .i64 r.n)).setCell (p := ⟨w.heap.size + 2, 1, none⟩) (by simp) (.int .i64 r.d); have r0 := ((k4.set 0 (.int .i64 r.n)).set 1 (.int .i64 r.d)).cell)
  refine bodyPost_ret (v := .agg #[.int .i64 r.n, .int .i64 r.d]) ?hres rfl ?hpost
  case hres => simp [results, Tryz.results82, go_sem, r0]
  case hpost => exact ⟨rfl, b5⟩

end Go.Proofs.YtbkekdbabkncfaaGreat

namespace Go.Proofs.YtbkekdbabkncfaaGreat
open Go.RowKit Go.Maps

theorem frac10Info : (Tryz.prog.info? 101).map (fun i => (i.zero, i.size, i.bytes)) = some (some (.agg #[.int .i64 0, .int .i64 0]), 2, 16) := by kernel_rfl
theorem own_farQ {w : World} {base : Nat} {e : TypeId} {size n : Nat} {v : Value} {xs : List Value} (h : w.ownsRow base e size v n xs) {p : Addr} (hp : p.block < base) (u : Value) : (w.setCell p u).ownsRow base e size v n xs := by
  refine ⟨h.1, ?_⟩
  rcases h.2 with h0 | ⟨g, cap, cur, h1, h2, h3, h4⟩
  · exact .inl h0
  · exact .inr ⟨g, cap, cur, h1, h2, (Below.heap_setCell _ _ _ _ (by omega)).trans h3, h4⟩
theorem own_lowQ {w : World} {base base' : Nat} {e : TypeId} {size : Nat} {v : Value} {n : Nat} {xs : List Value} (h : w.ownsRow base e size v n xs) (hb : base' ≤ base) : w.ownsRow base' e size v n xs := by
  refine ⟨h.1, ?_⟩
  rcases h.2 with h0 | ⟨g, cap, cur, h1, h2, h3, h4⟩
  · exact .inl h0
  · exact .inr ⟨g, cap, cur, h1, Nat.le_trans hb h2, h3, h4⟩
/-- A row in new memory, whose cells may be written. -/
def RowPost (w : World) (a : Int) (l : List Frc) (e : Ending) (w' : World) : Prop := ∃ A' c', e = .returned (.agg #[.int .i64 a, .slice A' l.length c']) ∧ Hid (w'.ownsRow w.heap.size 101 2 (.slice A' l.length c') l.length (l.flatMap frcC)) ∧ Below w.heap.size w w'
set_option maxRecDepth 100000 in
set_option maxHeartbeats 8000000 in
set_option linter.unusedSimpArgs false in
theorem less10_any (at1 at2 : Int) (l o : List Frc) (A O : Option Addr) (c oc : Nat) (x : Frc) (w : World) (h : FrcAt w w.heap.size A l) (h2 : FrcAt w w.heap.size O o) (hl : o.length ≤ 1000) (hb : lessB l x o = true) :
    Calls Tryz.prog 81 #[.agg #[.int .i64 at1, .slice A l.length c], .agg #[.int .i64 at2, .slice O o.length oc], .agg #[.int .i64 x.n, .int .i64 x.d]] w (RowPost w at1 (lessL l x o)) := by
  obtain ⟨i4, hi4, hq0, hq1, hq2⟩ := info_parts frac10Info
  have hbb := less_parts hb
  have hlo := hbb.2.2.2.2
  have HTm := Lib.hid (fun y (hy : y ∈ o) W => times10_any y x (hbb.2.2.1 y hy) hbb.2.1 W)
  have HMn := Lib.hid (fun z (hz : z ∈ l) y (hy : y ∈ o) W => minus10_any z (mulF x y) (hbb.1 z hz) (hbb.2.2.2.1 y hy) W)
  have HComm := Lib.hid (fun y : Frc => show mulF y x = mulF x y by unfold mulF; rw [Int.mul_comm y.n, Int.mul_comm y.d])
  have HLen : Hid ((lessL l x o).length = l.length) := Lib.hid (less_len hlo)
  have b1 := (Below.refl w.heap.size w).alloc (Nat.le_refl _) (.cells #[.int .i64 at1, .slice A l.length c] 98)
  have b2 := b1.alloc b1.size (.cells #[.int .i64 at2, .slice O o.length oc] 98)
  have b3 := b2.alloc b2.size (.cells #[.int .i64 x.n, .int .i64 x.d] 101)
  have b4 := b3.alloc b3.size (.cells #[.int .i64 0, .slice none 0 0] 98)
  have b5 := b4.alloc b4.size (.cells #[.int .i64 at1, .slice none 0 0] 98)
  have k0 := ((((Blk.new w #[.int .i64 at1, .slice A l.length c] 98).alloc (.cells #[.int .i64 at2, .slice O o.length oc] 98)).alloc (.cells #[.int .i64 x.n, .int .i64 x.d] 101)).alloc (.cells #[.int .i64 0, .slice none 0 0] 98)).alloc (.cells #[.int .i64 at1, .slice none 0 0] 98)
  have k1 := (((Blk.new (w.alloc (.cells #[.int .i64 at1, .slice A l.length c] 98)) #[.int .i64 at2, .slice O o.length oc] 98).alloc (.cells #[.int .i64 x.n, .int .i64 x.d] 101)).alloc (.cells #[.int .i64 0, .slice none 0 0] 98)).alloc (.cells #[.int .i64 at1, .slice none 0 0] 98)
  have k2 := ((Blk.new ((w.alloc (.cells #[.int .i64 at1, .slice A l.length c] 98)).alloc (.cells #[.int .i64 at2, .slice O o.length oc] 98)) #[.int .i64 x.n, .int .i64 x.d] 101).alloc (.cells #[.int .i64 0, .slice none 0 0] 98)).alloc (.cells #[.int .i64 at1, .slice none 0 0] 98)
  have k3 := (Blk.new (((w.alloc (.cells #[.int .i64 at1, .slice A l.length c] 98)).alloc (.cells #[.int .i64 at2, .slice O o.length oc] 98)).alloc (.cells #[.int .i64 x.n, .int .i64 x.d] 101)) #[.int .i64 0, .slice none 0 0] 98).alloc (.cells #[.int .i64 at1, .slice none 0 0] 98)
  have k4 := Blk.new ((((w.alloc (.cells #[.int .i64 at1, .slice A l.length c] 98)).alloc (.cells #[.int .i64 at2, .slice O o.length oc] 98)).alloc (.cells #[.int .i64 x.n, .int .i64 x.d] 101)).alloc (.cells #[.int .i64 0, .slice none 0 0] 98)) #[.int .i64 at1, .slice none 0 0] 98
  simp only [World.size_alloc] at k1 k2 k3 k4
  have HH := Lib.hid h
  have HO2 := Lib.hid h2
  clear hb hbb h h2 b1 b2 b3 b4
  go_enter Tryz.func81, Tryz.ntmps81
  go_wp2_with fail
  generalize hW1 : ((((w.alloc (.cells #[.int .i64 at1, .slice A l.length c] 98)).alloc (.cells #[.int .i64 at2, .slice O o.length oc] 98)).alloc (.cells #[.int .i64 x.n, .int .i64 x.d] 101)).alloc (.cells #[.int .i64 0, .slice none 0 0] 98)).alloc (.cells #[.int .i64 at1, .slice none 0 0] 98) = W1 at *
  have hS1 : W1.heap.size = w.heap.size + 5 := by rw [← hW1]; simp
  clear hW1
  have HI0 : Hid (Blk W1 w.heap.size #[.int .i64 at1, .slice A l.length c] 98 ∧ Blk W1 (w.heap.size + 1) #[.int .i64 at2, .slice O o.length oc] 98 ∧ Blk W1 (w.heap.size + 1 + 1) #[.int .i64 x.n, .int .i64 x.d] 101 ∧ Blk W1 (w.heap.size + 1 + 1 + 1) #[.int .i64 0, .slice none 0 0] 98 ∧ Blk W1 (w.heap.size + 1 + 1 + 1 + 1) #[.int .i64 at1, .slice none 0 0] 98 ∧ W1.ownsRow W1.heap.size 101 2 (.slice none 0 0) 0 (((lessL l x o).take 0).flatMap frcC) ∧ Below w.heap.size w W1) := Lib.hid ⟨k0, k1, k2, k3, k4, World.ownsRow_nil _ _ _ _, b5⟩
  clear k0 k1 k2 k3 k4 b5
  go_loopw [8] (fun ii wr => ∃ (i : Nat), i ≤ l.length ∧ ii = .int .i64 i ∧ Hid (∃ (A2 : Option Addr) (c2 : Nat), W1.heap.size ≤ wr.heap.size ∧ Blk wr w.heap.size #[.int .i64 at1, .slice A l.length c] 98 ∧ Blk wr (w.heap.size + 1) #[.int .i64 at2, .slice O o.length oc] 98 ∧ Blk wr (w.heap.size + 1 + 1) #[.int .i64 x.n, .int .i64 x.d] 101 ∧ Blk wr (w.heap.size + 1 + 1 + 1) #[.int .i64 0, .slice none 0 0] 98 ∧ Blk wr (w.heap.size + 1 + 1 + 1 + 1) #[.int .i64 at1, .slice A2 i c2] 98 ∧ wr.ownsRow W1.heap.size 101 2 (.slice A2 i c2) i (((lessL l x o).take i).flatMap frcC) ∧ Below w.heap.size w wr)) (fun ii _ => l.length - (vInt ii).toNat)
  case atStart => exact ⟨0, Nat.zero_le _, rfl, Lib.hid ⟨none, 0, Nat.le_refl _, HI0.out⟩⟩
  case round =>
    obtain ⟨i, hi, rfl, hR⟩ := hrel
    clear HI0
    obtain ⟨A2, c2, hs, k0, k1, k2, k3, k4, ho, hB⟩ := hR.out
    have HO := Lib.hid ho
    clear hR ho
    have k0c := k0.cell
    have k1c := k1.cell
    have k2c := k2.cell
    have k4c := k4.cell
    by_cases hlt : i < l.length
    · have hil : (i : Int) < (l.length : Int) := by omega
      have hlto : i < o.length := by omega
      have hilo : (i : Int) < (o.length : Int) := by omega
      obtain ⟨b, off, rfl, hbb, c0, c1⟩ := frc_at HH.out hlt
      obtain ⟨b2, off2, rfl, hbb2, d0, d1⟩ := frc_at HO2.out hlto
      have HTi := Lib.hid (HTm.out o[i] (List.getElem_mem hlto))
      rw [HComm.out] at HTi
      have HMi := Lib.hid (HMn.out l[i] (List.getElem_mem hlt) o[i] (List.getElem_mem hlto))
      have HT : Hid (((lessL l x o).take (i + 1)).flatMap frcC = ((lessL l x o).take i).flatMap frcC ++ frcC ⟨(subF l[i] (mulF x o[i])).n, (subF l[i] (mulF x o[i])).d⟩) := Lib.hid (by
        rw [List.take_succ_eq_append_getElem (by rw [HLen.out]; exact hlt), List.flatMap_append]
        congr 1
        simp [lessL])
      generalize subF l[i] (mulF x o[i]) = r at *
      generalize mulF x o[i] = p at *
      generalize l[i] = y at *
      generalize o[i] = z at *
      obtain ⟨rn, rd⟩ := r
      dsimp only at *
      go_upto_region 5 with fail
      have D0 : Below wr.heap.size wr wr.drew := (Below.refl _ _).drew
      have hBs := hB.size
      have l0 := k0.lt
      have l1 := k1.lt
      have l2 := k2.lt
      have l4 := k4.lt
      have l3 := k3.lt
      have k4f := k4.free
      have SK : ∀ W', Below w.heap.size w W' → Blk W' w.heap.size #[.int .i64 at1, .slice (some ⟨b, off, none⟩) l.length c] 98 → Blk W' (w.heap.size + 1) #[.int .i64 at2, .slice (some ⟨b2, off2, none⟩) o.length oc] 98 → Blk W' (w.heap.size + 1 + 1) #[.int .i64 x.n, .int .i64 x.d] 101 → (∀ i, W'.cell? ⟨w.heap.size, i, none⟩ = (#[.int .i64 at1, .slice (some ⟨b, off, none⟩) l.length c] : Array Value)[i]?) ∧ (∀ i, W'.cell? ⟨w.heap.size + 1, i, none⟩ = (#[.int .i64 at2, .slice (some ⟨b2, off2, none⟩) o.length oc] : Array Value)[i]?) ∧ (∀ i, W'.cell? ⟨w.heap.size + 1 + 1, i, none⟩ = (#[.int .i64 x.n, .int .i64 x.d] : Array Value)[i]?) ∧ W'.cell? ⟨b, off + i * 2, none⟩ = some (.int .i64 y.n) ∧ W'.cell? ⟨b, off + i * 2 + 1, none⟩ = some (.int .i64 y.d) ∧ W'.cell? ⟨b2, off2 + i * 2, none⟩ = some (.int .i64 z.n) ∧ W'.cell? ⟨b2, off2 + i * 2 + 1, none⟩ = some (.int .i64 z.d) := fun W' hW q0 q1 q2 => ⟨q0.cell, q1.cell, q2.cell, (hW.cell (p := ⟨b, off + i * 2, none⟩) hbb).trans c0, (hW.cell (p := ⟨b, off + i * 2 + 1, none⟩) hbb).trans c1, (hW.cell (p := ⟨b2, off2 + i * 2, none⟩) hbb2).trans d0, (hW.cell (p := ⟨b2, off2 + i * 2 + 1, none⟩) hbb2).trans d1⟩
      have SB : ∀ W', Below wr.heap.size wr W' → (∀ i, W'.cell? ⟨w.heap.size, i, none⟩ = (#[.int .i64 at1, .slice (some ⟨b, off, none⟩) l.length c] : Array Value)[i]?) ∧ (∀ i, W'.cell? ⟨w.heap.size + 1, i, none⟩ = (#[.int .i64 at2, .slice (some ⟨b2, off2, none⟩) o.length oc] : Array Value)[i]?) ∧ (∀ i, W'.cell? ⟨w.heap.size + 1 + 1, i, none⟩ = (#[.int .i64 x.n, .int .i64 x.d] : Array Value)[i]?) ∧ W'.cell? ⟨b, off + i * 2, none⟩ = some (.int .i64 y.n) ∧ W'.cell? ⟨b, off + i * 2 + 1, none⟩ = some (.int .i64 y.d) ∧ W'.cell? ⟨b2, off2 + i * 2, none⟩ = some (.int .i64 z.n) ∧ W'.cell? ⟨b2, off2 + i * 2 + 1, none⟩ = some (.int .i64 z.d) := fun W' hW => SK W' (hB.trans (hW.mono hB.size)) (k0.below hW l0) (k1.below hW l1) (k2.below hW l2)
      clear k0c k1c k2c c0 c1 d0 d1
      refine wp_region_held_drew (S := (fun W' => (∀ i, W'.cell? ⟨w.heap.size, i, none⟩ = (#[.int .i64 at1, .slice (some ⟨b, off, none⟩) l.length c] : Array Value)[i]?) ∧ (∀ i, W'.cell? ⟨w.heap.size + 1, i, none⟩ = (#[.int .i64 at2, .slice (some ⟨b2, off2, none⟩) o.length oc] : Array Value)[i]?) ∧ (∀ i, W'.cell? ⟨w.heap.size + 1 + 1, i, none⟩ = (#[.int .i64 x.n, .int .i64 x.d] : Array Value)[i]?) ∧ W'.cell? ⟨b, off + i * 2, none⟩ = some (.int .i64 y.n) ∧ W'.cell? ⟨b, off + i * 2 + 1, none⟩ = some (.int .i64 y.d) ∧ W'.cell? ⟨b2, off2 + i * 2, none⟩ = some (.int .i64 z.n) ∧ W'.cell? ⟨b2, off2 + i * 2 + 1, none⟩ = some (.int .i64 z.d))) (by kernel_rfl) ?_ (fun hHeld => ?_)
      · (try dsimp only); first | with_reducible exact hS6 | with_reducible exact hS5 | with_reducible exact SB _ D0 | with_reducible exact SB _ d3a | with_reducible exact SB _ d3 | with_reducible exact SB _ d2
      refine wpAnyH_take (i := 0) (v := ?_) rfl (by kernel_rfl) (by kernel_rfl) (by kernel_rfl) (fun _ _ _ h => h) (Or.inl ⟨by rfl, ?_⟩) (by assumption) ?_
      case refine_2 => intro w hSw; (try dsimp only at hSw); go_simp; first | done | with_reducible rfl
      try simp only [Act.put, List.setIfInBounds_toArray, List.set_cons_zero, List.set_cons_succ]
      refine wpAnyH_take (i := 2) (v := ?_) rfl (by kernel_rfl) (by kernel_rfl) (by kernel_rfl) (fun _ _ _ h => h) (Or.inl ⟨by rfl, ?_⟩) (by assumption) ?_
      case refine_2 => intro w hSw; (try dsimp only at hSw); go_simp; first | done | with_reducible rfl
      try simp only [Act.put, List.setIfInBounds_toArray, List.set_cons_zero, List.set_cons_succ]
      refine wpAnyH_take (i := 3) (v := ?_) rfl (by kernel_rfl) (by kernel_rfl) (by kernel_rfl) (fun _ _ _ h => h) (Or.inl ⟨by rfl, ?_⟩) (by assumption) ?_
      case refine_2 => intro w hSw; (try dsimp only at hSw); go_simp; first | done | with_reducible rfl
      try simp only [Act.put, List.setIfInBounds_toArray, List.set_cons_zero, List.set_cons_succ]
      refine wpAnyH_take (i := 4) (v := ?_) rfl (by kernel_rfl) (by kernel_rfl) (by kernel_rfl) (fun _ _ _ h => h) (Or.inl ⟨by rfl, ?_⟩) (by assumption) ?_
      case refine_2 => intro w hSw; (try dsimp only at hSw); go_simp; first | done | with_reducible rfl
      try simp only [Act.put, List.setIfInBounds_toArray, List.set_cons_zero, List.set_cons_succ]
      refine wpAnyH_take (i := 5) (v := ?_) rfl (by kernel_rfl) (by kernel_rfl) (by kernel_rfl) (fun _ _ _ h => h) (Or.inl ⟨by rfl, ?_⟩) (by assumption) ?_
      case refine_2 => intro w hSw; (try dsimp only at hSw); go_simp; first | done | with_reducible rfl
      try simp only [Act.put, List.setIfInBounds_toArray, List.set_cons_zero, List.set_cons_succ]
      refine wpAnyH_take (i := 6) (v := ?_) rfl (by kernel_rfl) (by kernel_rfl) (by kernel_rfl) (fun _ _ _ h => h) (Or.inl ⟨by rfl, ?_⟩) (by assumption) ?_
      case refine_2 => intro w hSw; (try dsimp only at hSw); go_simp; first | done | with_reducible rfl
      try simp only [Act.put, List.setIfInBounds_toArray, List.set_cons_zero, List.set_cons_succ]
      refine wpAnyH_take (i := 7) (v := ?_) rfl (by kernel_rfl) (by kernel_rfl) (by kernel_rfl) (fun _ _ _ h => h) (Or.inl ⟨by rfl, ?_⟩) (by assumption) ?_
      case refine_2 => intro w hSw; (try dsimp only at hSw); go_simp; first | done | with_reducible rfl
      try simp only [Act.put, List.setIfInBounds_toArray, List.set_cons_zero, List.set_cons_succ]
      refine wpAnyH_take (i := 8) (v := ?_) rfl (by kernel_rfl) (by kernel_rfl) (by kernel_rfl) (fun _ _ _ h => h) (Or.inl ⟨by rfl, ?_⟩) (by assumption) ?_
      case refine_2 => intro w hSw; (try dsimp only at hSw); go_simp; first | done | with_reducible rfl
      try simp only [Act.put, List.setIfInBounds_toArray, List.set_cons_zero, List.set_cons_succ]
      refine wpAnyH_take (i := 9) (v := ?_) rfl (by kernel_rfl) (by kernel_rfl) (by kernel_rfl) (fun _ _ _ h => h) (Or.inl ⟨by rfl, ?_⟩) (by assumption) ?_
      case refine_2 => intro w hSw; (try dsimp only at hSw); go_simp; first | done | with_reducible rfl
      try simp only [Act.put, List.setIfInBounds_toArray, List.set_cons_zero, List.set_cons_succ]
      refine wpAnyH_take (i := 10) (v := ?_) rfl (by kernel_rfl) (by kernel_rfl) (by kernel_rfl) (fun _ _ _ h => h) (Or.inl ⟨by rfl, ?_⟩) (by assumption) ?_
      case refine_2 => intro w hSw; (try dsimp only at hSw); go_simp; first | done | with_reducible rfl
      try simp only [Act.put, List.setIfInBounds_toArray, List.set_cons_zero, List.set_cons_succ]
      refine wpAnyH_take (i := 11) (v := ?_) rfl (by kernel_rfl) (by kernel_rfl) (by kernel_rfl) (fun _ _ _ h => h) (Or.inl ⟨by rfl, ?_⟩) (by assumption) ?_
      case refine_2 => intro w hSw; (try dsimp only at hSw); go_simp; first | done | with_reducible rfl
      try simp only [Act.put, List.setIfInBounds_toArray, List.set_cons_zero, List.set_cons_succ]
      refine wpAnyH_take (i := 12) (v := ?_) rfl (by kernel_rfl) (by kernel_rfl) (by kernel_rfl) (fun _ _ _ h => h) (Or.inl ⟨by rfl, ?_⟩) (by assumption) ?_
      case refine_2 => intro w hSw; (try dsimp only at hSw); go_simp; first | done | with_reducible rfl
      try simp only [Act.put, List.setIfInBounds_toArray, List.set_cons_zero, List.set_cons_succ]
      refine wpAnyH_ready (rs := [1, 13]) (by kernel_rfl) (by simp) ?_
      refine AllReadyH.cons rfl (fun K hK => ?_) ?_
      · go_simp
        refine hK.out _ _ ?_ (fun hHeld => ?_)
        · (try dsimp only); first | with_reducible exact hS6 | with_reducible exact hS5 | with_reducible exact SB _ D0 | with_reducible exact SB _ d3a | with_reducible exact SB _ d3 | with_reducible exact SB _ d2
        clear hK K
        try simp only [Act.put, List.setIfInBounds_toArray, List.set_cons_zero, List.set_cons_succ]
        refine wpAnyH_ready (rs := [13]) (by kernel_rfl) (by simp) ?_
        refine AllReadyH.cons rfl (fun K hK => ?_) ?_
        · go_simp
          go_at_call 116; (with_reducible refine (HTi.out _).mono ?_); rintro e w2 ⟨rfl, h2⟩; have d2 := D0.trans h2; have k42 := (k4.below d2 l4).cell; have z2 := d2.size
          go_wp2_with fail
          refine hK.out _ _ ?_ (fun hHeld => ?_)
          · (try dsimp only); first | with_reducible exact hS6 | with_reducible exact hS5 | with_reducible exact SB _ D0 | with_reducible exact SB _ d3a | with_reducible exact SB _ d3 | with_reducible exact SB _ d2
          clear hK K
          try simp only [Act.put, List.setIfInBounds_toArray, List.set_cons_zero, List.set_cons_succ]
          refine wpAnyH_ready (rs := [14]) (by kernel_rfl) (by simp) ?_
          refine AllReadyH.cons rfl (fun K hK => ?_) ?_
          · go_simp
            go_at_call 56; (with_reducible refine (HMi.out _).mono ?_); rintro e w3 ⟨rfl, h3⟩; have d3 := d2.trans (h3.mono d2.size); have z3 := d3.size; have k43 := (k4.below d3 l4).cell; have d3a := d3.alloc d3.size (.cells #[.int .i64 rn, .int .i64 rd] 101); have k43a := (k4.below d3a l4).cell; have HO3 := Lib.hid ((own_below HO.out d3).alloc (.cells #[.int .i64 rn, .int .i64 rd] 101)); have HNw := Lib.hid (frc_new w3 rn rd 101)
            go_wp2_with fail
            refine hK.out _ _ ?_ (fun hHeld => ?_)
            · (try dsimp only); first | with_reducible exact hS6 | with_reducible exact hS5 | with_reducible exact SB _ D0 | with_reducible exact SB _ d3a | with_reducible exact SB _ d3 | with_reducible exact SB _ d2
            clear hK K
            try simp only [Act.put, List.setIfInBounds_toArray, List.set_cons_zero, List.set_cons_succ]
            refine wpAnyH_ready (rs := [15]) (by kernel_rfl) (by simp) ?_
            refine AllReadyH.cons rfl (fun K hK => ?_) ?_
            · go_simp
              refine hK.out _ _ ?_ (fun hHeld => ?_)
              · (try dsimp only); first | with_reducible exact hS6 | with_reducible exact hS5 | with_reducible exact SB _ D0 | with_reducible exact SB _ d3a | with_reducible exact SB _ d3 | with_reducible exact SB _ d2
              clear hK K
              try simp only [Act.put, List.setIfInBounds_toArray, List.set_cons_zero, List.set_cons_succ]
              refine wpAnyH_ready (rs := [16]) (by kernel_rfl) (by simp) ?_
              refine AllReadyH.cons rfl (fun K hK => ?_) ?_
              · skip
                refine step_append_opt (by rfl) _ _ _ (by rfl) W1.heap.size 101 i4 _ 2 16 Tryz.underlying96 hi4 hq0 hq1 hq2 rfl (by decide) _ _ _ (by rfl) HO3.out (some ⟨w3.heap.size, 0, none⟩) 1 1 (frcC ⟨rn, rd⟩) (by rfl) (fun e => by cases e) (by rfl) (fun ad e => by cases e; exact HNw.out) (frcC_one _) (by unfold maxLen; omega) (by omega) (by simp; omega) ?_; intro v' w5 hown5 hg5 ho5; obtain ⟨A3, c3, rfl⟩ := own_slice hown5; have ne5 := HO3.out.lt; have q0 := (k0.below d3a l0).grown hg5 (fun e => by have := (ne5 _ e.symm).1; omega); have q1 := (k1.below d3a l1).grown hg5 (fun e => by have := (ne5 _ e.symm).1; omega); have q2 := (k2.below d3a l2).grown hg5 (fun e => by have := (ne5 _ e.symm).1; omega); have q3 := (k3.below d3a l3).grown hg5 (fun e => by have := (ne5 _ e.symm).1; omega); have q4 := (k4.below d3a l4).grown hg5 (fun e => by have := (ne5 _ e.symm).1; omega); have q4c := q4.cell; have q4f := q4.free; have hB5 := (hB.trans (d3a.mono hB.size)).grown hg5 (by simp; omega) (fun k e => by have := (ne5 k e).1; omega); have hS5 := SK w5 hB5 q0 q1 q2; have hS6 := SK (w5.setCell ⟨w.heap.size + 1 + 1 + 1 + 1, 1, none⟩ (.slice A3 (i + 1) c3)) (hB5.setCell (by first | (simp; done) | (simp; omega)) _) (q0.far (by first | (simp; done) | (simp; omega)) _) (q1.far (by first | (simp; done) | (simp; omega)) _) (q2.far (by first | (simp; done) | (simp; omega)) _)
                refine hK.out _ _ ?_ (fun hHeld => ?_)
                · (try dsimp only); first | with_reducible exact hS6 | with_reducible exact hS5 | with_reducible exact SB _ D0 | with_reducible exact SB _ d3a | with_reducible exact SB _ d3 | with_reducible exact SB _ d2
                clear hK K
                try simp only [Act.put, List.setIfInBounds_toArray, List.set_cons_zero, List.set_cons_succ]
                refine wpAnyH_take (i := 17) (v := ?_) rfl (by kernel_rfl) (by kernel_rfl) (by kernel_rfl) (fun _ _ _ h => h) (Or.inl ⟨by rfl, ?_⟩) (by assumption) ?_
                case refine_2 => intro w hSw; (try dsimp only at hSw); go_simp; first | done | with_reducible rfl
                try simp only [Act.put, List.setIfInBounds_toArray, List.set_cons_zero, List.set_cons_succ]
                refine wpAnyH_ready (rs := [18]) (by kernel_rfl) (by simp) ?_
                refine AllReadyH.cons rfl (fun K hK => ?_) ?_
                · go_simp
                  refine hK.out _ _ ?_ (fun hHeld => ?_)
                  · (try dsimp only); first | with_reducible exact hS6 | with_reducible exact hS5 | with_reducible exact SB _ D0 | with_reducible exact SB _ d3a | with_reducible exact SB _ d3 | with_reducible exact SB _ d2
                  clear hK K
                  try simp only [Act.put, List.setIfInBounds_toArray, List.set_cons_zero, List.set_cons_succ]
                  refine wpAnyH_done (by kernel_rfl) ?_ _
                  have HF : Hid (∃ (A2 : Option Addr) (c2 : Nat), W1.heap.size ≤ (w5.setCell ⟨w.heap.size + 1 + 1 + 1 + 1, 1, none⟩ (.slice A3 (i + 1) c3)).heap.size ∧ Blk (w5.setCell ⟨w.heap.size + 1 + 1 + 1 + 1, 1, none⟩ (.slice A3 (i + 1) c3)) w.heap.size #[.int .i64 at1, .slice (some ⟨b, off, none⟩) l.length c] 98 ∧ Blk (w5.setCell ⟨w.heap.size + 1 + 1 + 1 + 1, 1, none⟩ (.slice A3 (i + 1) c3)) (w.heap.size + 1) #[.int .i64 at2, .slice (some ⟨b2, off2, none⟩) o.length oc] 98 ∧ Blk (w5.setCell ⟨w.heap.size + 1 + 1 + 1 + 1, 1, none⟩ (.slice A3 (i + 1) c3)) (w.heap.size + 1 + 1) #[.int .i64 x.n, .int .i64 x.d] 101 ∧ Blk (w5.setCell ⟨w.heap.size + 1 + 1 + 1 + 1, 1, none⟩ (.slice A3 (i + 1) c3)) (w.heap.size + 1 + 1 + 1) #[.int .i64 0, .slice none 0 0] 98 ∧ Blk (w5.setCell ⟨w.heap.size + 1 + 1 + 1 + 1, 1, none⟩ (.slice A3 (i + 1) c3)) (w.heap.size + 1 + 1 + 1 + 1) #[.int .i64 at1, .slice A2 (i + 1) c2] 98 ∧ (w5.setCell ⟨w.heap.size + 1 + 1 + 1 + 1, 1, none⟩ (.slice A3 (i + 1) c3)).ownsRow W1.heap.size 101 2 (.slice A2 (i + 1) c2) (i + 1) (((lessL l x o).take (i + 1)).flatMap frcC) ∧ Below w.heap.size w (w5.setCell ⟨w.heap.size + 1 + 1 + 1 + 1, 1, none⟩ (.slice A3 (i + 1) c3))) := Lib.hid ⟨A3, c3, by have := hg5.size; simp only [World.size_setCell]; have := z3; simp only [World.size_alloc] at *; omega, q0.far (by first | (simp; done) | (simp; omega)) _, q1.far (by first | (simp; done) | (simp; omega)) _, q2.far (by first | (simp; done) | (simp; omega)) _, q3.far (by first | (simp; done) | (simp; omega)) _, q4.set 1 (.slice A3 (i + 1) c3), own_farQ (by rw [HT.out]; exact hown5) (by show w.heap.size + 1 + 1 + 1 + 1 < W1.heap.size; omega) _, hB5.setCell (by show w.heap.size ≤ w.heap.size + 1 + 1 + 1 + 1; omega) _⟩
                  clear hS5 hS6 SK SB q0 q1 q2 q3 q4 q4c q4f hB5 hown5 hg5 ho5 ne5
                  go_wp2_with fail
                  go_roundw
                  all_goals first
                    | (simp [vInt]; omega; done)
                    | exact ⟨i + 1, by omega, by go_num, HF⟩
                exact AllReadyH.nil
              exact AllReadyH.nil
            exact AllReadyH.nil
          exact AllReadyH.nil
        exact AllReadyH.nil
      refine AllReadyH.cons rfl (fun K hK => ?_) ?_
      · go_simp
        go_at_call 116; (with_reducible refine (HTi.out _).mono ?_); rintro e w2 ⟨rfl, h2⟩; have d2 := D0.trans h2; have k42 := (k4.below d2 l4).cell; have z2 := d2.size
        go_wp2_with fail
        refine hK.out _ _ ?_ (fun hHeld => ?_)
        · (try dsimp only); first | with_reducible exact hS6 | with_reducible exact hS5 | with_reducible exact SB _ D0 | with_reducible exact SB _ d3a | with_reducible exact SB _ d3 | with_reducible exact SB _ d2
        clear hK K
        try simp only [Act.put, List.setIfInBounds_toArray, List.set_cons_zero, List.set_cons_succ]
        refine wpAnyH_ready (rs := [1, 14]) (by kernel_rfl) (by simp) ?_
        refine AllReadyH.cons rfl (fun K hK => ?_) ?_
        · go_simp
          refine hK.out _ _ ?_ (fun hHeld => ?_)
          · (try dsimp only); first | with_reducible exact hS6 | with_reducible exact hS5 | with_reducible exact SB _ D0 | with_reducible exact SB _ d3a | with_reducible exact SB _ d3 | with_reducible exact SB _ d2
          clear hK K
          try simp only [Act.put, List.setIfInBounds_toArray, List.set_cons_zero, List.set_cons_succ]
          refine wpAnyH_ready (rs := [14]) (by kernel_rfl) (by simp) ?_
          refine AllReadyH.cons rfl (fun K hK => ?_) ?_
          · go_simp
            go_at_call 56; (with_reducible refine (HMi.out _).mono ?_); rintro e w3 ⟨rfl, h3⟩; have d3 := d2.trans (h3.mono d2.size); have z3 := d3.size; have k43 := (k4.below d3 l4).cell; have d3a := d3.alloc d3.size (.cells #[.int .i64 rn, .int .i64 rd] 101); have k43a := (k4.below d3a l4).cell; have HO3 := Lib.hid ((own_below HO.out d3).alloc (.cells #[.int .i64 rn, .int .i64 rd] 101)); have HNw := Lib.hid (frc_new w3 rn rd 101)
            go_wp2_with fail
            refine hK.out _ _ ?_ (fun hHeld => ?_)
            · (try dsimp only); first | with_reducible exact hS6 | with_reducible exact hS5 | with_reducible exact SB _ D0 | with_reducible exact SB _ d3a | with_reducible exact SB _ d3 | with_reducible exact SB _ d2
            clear hK K
            try simp only [Act.put, List.setIfInBounds_toArray, List.set_cons_zero, List.set_cons_succ]
            refine wpAnyH_ready (rs := [15]) (by kernel_rfl) (by simp) ?_
            refine AllReadyH.cons rfl (fun K hK => ?_) ?_
            · go_simp
              refine hK.out _ _ ?_ (fun hHeld => ?_)
              · (try dsimp only); first | with_reducible exact hS6 | with_reducible exact hS5 | with_reducible exact SB _ D0 | with_reducible exact SB _ d3a | with_reducible exact SB _ d3 | with_reducible exact SB _ d2
              clear hK K
              try simp only [Act.put, List.setIfInBounds_toArray, List.set_cons_zero, List.set_cons_succ]
              refine wpAnyH_ready (rs := [16]) (by kernel_rfl) (by simp) ?_
              refine AllReadyH.cons rfl (fun K hK => ?_) ?_
              · skip
                refine step_append_opt (by rfl) _ _ _ (by rfl) W1.heap.size 101 i4 _ 2 16 Tryz.underlying96 hi4 hq0 hq1 hq2 rfl (by decide) _ _ _ (by rfl) HO3.out (some ⟨w3.heap.size, 0, none⟩) 1 1 (frcC ⟨rn, rd⟩) (by rfl) (fun e => by cases e) (by rfl) (fun ad e => by cases e; exact HNw.out) (frcC_one _) (by unfold maxLen; omega) (by omega) (by simp; omega) ?_; intro v' w5 hown5 hg5 ho5; obtain ⟨A3, c3, rfl⟩ := own_slice hown5; have ne5 := HO3.out.lt; have q0 := (k0.below d3a l0).grown hg5 (fun e => by have := (ne5 _ e.symm).1; omega); have q1 := (k1.below d3a l1).grown hg5 (fun e => by have := (ne5 _ e.symm).1; omega); have q2 := (k2.below d3a l2).grown hg5 (fun e => by have := (ne5 _ e.symm).1; omega); have q3 := (k3.below d3a l3).grown hg5 (fun e => by have := (ne5 _ e.symm).1; omega); have q4 := (k4.below d3a l4).grown hg5 (fun e => by have := (ne5 _ e.symm).1; omega); have q4c := q4.cell; have q4f := q4.free; have hB5 := (hB.trans (d3a.mono hB.size)).grown hg5 (by simp; omega) (fun k e => by have := (ne5 k e).1; omega); have hS5 := SK w5 hB5 q0 q1 q2; have hS6 := SK (w5.setCell ⟨w.heap.size + 1 + 1 + 1 + 1, 1, none⟩ (.slice A3 (i + 1) c3)) (hB5.setCell (by first | (simp; done) | (simp; omega)) _) (q0.far (by first | (simp; done) | (simp; omega)) _) (q1.far (by first | (simp; done) | (simp; omega)) _) (q2.far (by first | (simp; done) | (simp; omega)) _)
                refine hK.out _ _ ?_ (fun hHeld => ?_)
                · (try dsimp only); first | with_reducible exact hS6 | with_reducible exact hS5 | with_reducible exact SB _ D0 | with_reducible exact SB _ d3a | with_reducible exact SB _ d3 | with_reducible exact SB _ d2
                clear hK K
                try simp only [Act.put, List.setIfInBounds_toArray, List.set_cons_zero, List.set_cons_succ]
                refine wpAnyH_take (i := 17) (v := ?_) rfl (by kernel_rfl) (by kernel_rfl) (by kernel_rfl) (fun _ _ _ h => h) (Or.inl ⟨by rfl, ?_⟩) (by assumption) ?_
                case refine_2 => intro w hSw; (try dsimp only at hSw); go_simp; first | done | with_reducible rfl
                try simp only [Act.put, List.setIfInBounds_toArray, List.set_cons_zero, List.set_cons_succ]
                refine wpAnyH_ready (rs := [18]) (by kernel_rfl) (by simp) ?_
                refine AllReadyH.cons rfl (fun K hK => ?_) ?_
                · go_simp
                  refine hK.out _ _ ?_ (fun hHeld => ?_)
                  · (try dsimp only); first | with_reducible exact hS6 | with_reducible exact hS5 | with_reducible exact SB _ D0 | with_reducible exact SB _ d3a | with_reducible exact SB _ d3 | with_reducible exact SB _ d2
                  clear hK K
                  try simp only [Act.put, List.setIfInBounds_toArray, List.set_cons_zero, List.set_cons_succ]
                  refine wpAnyH_done (by kernel_rfl) ?_ _
                  have HF : Hid (∃ (A2 : Option Addr) (c2 : Nat), W1.heap.size ≤ (w5.setCell ⟨w.heap.size + 1 + 1 + 1 + 1, 1, none⟩ (.slice A3 (i + 1) c3)).heap.size ∧ Blk (w5.setCell ⟨w.heap.size + 1 + 1 + 1 + 1, 1, none⟩ (.slice A3 (i + 1) c3)) w.heap.size #[.int .i64 at1, .slice (some ⟨b, off, none⟩) l.length c] 98 ∧ Blk (w5.setCell ⟨w.heap.size + 1 + 1 + 1 + 1, 1, none⟩ (.slice A3 (i + 1) c3)) (w.heap.size + 1) #[.int .i64 at2, .slice (some ⟨b2, off2, none⟩) o.length oc] 98 ∧ Blk (w5.setCell ⟨w.heap.size + 1 + 1 + 1 + 1, 1, none⟩ (.slice A3 (i + 1) c3)) (w.heap.size + 1 + 1) #[.int .i64 x.n, .int .i64 x.d] 101 ∧ Blk (w5.setCell ⟨w.heap.size + 1 + 1 + 1 + 1, 1, none⟩ (.slice A3 (i + 1) c3)) (w.heap.size + 1 + 1 + 1) #[.int .i64 0, .slice none 0 0] 98 ∧ Blk (w5.setCell ⟨w.heap.size + 1 + 1 + 1 + 1, 1, none⟩ (.slice A3 (i + 1) c3)) (w.heap.size + 1 + 1 + 1 + 1) #[.int .i64 at1, .slice A2 (i + 1) c2] 98 ∧ (w5.setCell ⟨w.heap.size + 1 + 1 + 1 + 1, 1, none⟩ (.slice A3 (i + 1) c3)).ownsRow W1.heap.size 101 2 (.slice A2 (i + 1) c2) (i + 1) (((lessL l x o).take (i + 1)).flatMap frcC) ∧ Below w.heap.size w (w5.setCell ⟨w.heap.size + 1 + 1 + 1 + 1, 1, none⟩ (.slice A3 (i + 1) c3))) := Lib.hid ⟨A3, c3, by have := hg5.size; simp only [World.size_setCell]; have := z3; simp only [World.size_alloc] at *; omega, q0.far (by first | (simp; done) | (simp; omega)) _, q1.far (by first | (simp; done) | (simp; omega)) _, q2.far (by first | (simp; done) | (simp; omega)) _, q3.far (by first | (simp; done) | (simp; omega)) _, q4.set 1 (.slice A3 (i + 1) c3), own_farQ (by rw [HT.out]; exact hown5) (by show w.heap.size + 1 + 1 + 1 + 1 < W1.heap.size; omega) _, hB5.setCell (by show w.heap.size ≤ w.heap.size + 1 + 1 + 1 + 1; omega) _⟩
                  clear hS5 hS6 SK SB q0 q1 q2 q3 q4 q4c q4f hB5 hown5 hg5 ho5 ne5
                  go_wp2_with fail
                  go_roundw
                  all_goals first
                    | (simp [vInt]; omega; done)
                    | exact ⟨i + 1, by omega, by go_num, HF⟩
                exact AllReadyH.nil
              exact AllReadyH.nil
            exact AllReadyH.nil
          exact AllReadyH.nil
        refine AllReadyH.cons rfl (fun K hK => ?_) ?_
        · go_simp
          go_at_call 56; (with_reducible refine (HMi.out _).mono ?_); rintro e w3 ⟨rfl, h3⟩; have d3 := d2.trans (h3.mono d2.size); have z3 := d3.size; have k43 := (k4.below d3 l4).cell; have d3a := d3.alloc d3.size (.cells #[.int .i64 rn, .int .i64 rd] 101); have k43a := (k4.below d3a l4).cell; have HO3 := Lib.hid ((own_below HO.out d3).alloc (.cells #[.int .i64 rn, .int .i64 rd] 101)); have HNw := Lib.hid (frc_new w3 rn rd 101)
          go_wp2_with fail
          refine hK.out _ _ ?_ (fun hHeld => ?_)
          · (try dsimp only); first | with_reducible exact hS6 | with_reducible exact hS5 | with_reducible exact SB _ D0 | with_reducible exact SB _ d3a | with_reducible exact SB _ d3 | with_reducible exact SB _ d2
          clear hK K
          try simp only [Act.put, List.setIfInBounds_toArray, List.set_cons_zero, List.set_cons_succ]
          refine wpAnyH_ready (rs := [1, 15]) (by kernel_rfl) (by simp) ?_
          refine AllReadyH.cons rfl (fun K hK => ?_) ?_
          · go_simp
            refine hK.out _ _ ?_ (fun hHeld => ?_)
            · (try dsimp only); first | with_reducible exact hS6 | with_reducible exact hS5 | with_reducible exact SB _ D0 | with_reducible exact SB _ d3a | with_reducible exact SB _ d3 | with_reducible exact SB _ d2
            clear hK K
            try simp only [Act.put, List.setIfInBounds_toArray, List.set_cons_zero, List.set_cons_succ]
            refine wpAnyH_ready (rs := [15]) (by kernel_rfl) (by simp) ?_
            refine AllReadyH.cons rfl (fun K hK => ?_) ?_
            · go_simp
              refine hK.out _ _ ?_ (fun hHeld => ?_)
              · (try dsimp only); first | with_reducible exact hS6 | with_reducible exact hS5 | with_reducible exact SB _ D0 | with_reducible exact SB _ d3a | with_reducible exact SB _ d3 | with_reducible exact SB _ d2
              clear hK K
              try simp only [Act.put, List.setIfInBounds_toArray, List.set_cons_zero, List.set_cons_succ]
              refine wpAnyH_ready (rs := [16]) (by kernel_rfl) (by simp) ?_
              refine AllReadyH.cons rfl (fun K hK => ?_) ?_
              · skip
                refine step_append_opt (by rfl) _ _ _ (by rfl) W1.heap.size 101 i4 _ 2 16 Tryz.underlying96 hi4 hq0 hq1 hq2 rfl (by decide) _ _ _ (by rfl) HO3.out (some ⟨w3.heap.size, 0, none⟩) 1 1 (frcC ⟨rn, rd⟩) (by rfl) (fun e => by cases e) (by rfl) (fun ad e => by cases e; exact HNw.out) (frcC_one _) (by unfold maxLen; omega) (by omega) (by simp; omega) ?_; intro v' w5 hown5 hg5 ho5; obtain ⟨A3, c3, rfl⟩ := own_slice hown5; have ne5 := HO3.out.lt; have q0 := (k0.below d3a l0).grown hg5 (fun e => by have := (ne5 _ e.symm).1; omega); have q1 := (k1.below d3a l1).grown hg5 (fun e => by have := (ne5 _ e.symm).1; omega); have q2 := (k2.below d3a l2).grown hg5 (fun e => by have := (ne5 _ e.symm).1; omega); have q3 := (k3.below d3a l3).grown hg5 (fun e => by have := (ne5 _ e.symm).1; omega); have q4 := (k4.below d3a l4).grown hg5 (fun e => by have := (ne5 _ e.symm).1; omega); have q4c := q4.cell; have q4f := q4.free; have hB5 := (hB.trans (d3a.mono hB.size)).grown hg5 (by simp; omega) (fun k e => by have := (ne5 k e).1; omega); have hS5 := SK w5 hB5 q0 q1 q2; have hS6 := SK (w5.setCell ⟨w.heap.size + 1 + 1 + 1 + 1, 1, none⟩ (.slice A3 (i + 1) c3)) (hB5.setCell (by first | (simp; done) | (simp; omega)) _) (q0.far (by first | (simp; done) | (simp; omega)) _) (q1.far (by first | (simp; done) | (simp; omega)) _) (q2.far (by first | (simp; done) | (simp; omega)) _)
                refine hK.out _ _ ?_ (fun hHeld => ?_)
                · (try dsimp only); first | with_reducible exact hS6 | with_reducible exact hS5 | with_reducible exact SB _ D0 | with_reducible exact SB _ d3a | with_reducible exact SB _ d3 | with_reducible exact SB _ d2
                clear hK K
                try simp only [Act.put, List.setIfInBounds_toArray, List.set_cons_zero, List.set_cons_succ]
                refine wpAnyH_take (i := 17) (v := ?_) rfl (by kernel_rfl) (by kernel_rfl) (by kernel_rfl) (fun _ _ _ h => h) (Or.inl ⟨by rfl, ?_⟩) (by assumption) ?_
                case refine_2 => intro w hSw; (try dsimp only at hSw); go_simp; first | done | with_reducible rfl
                try simp only [Act.put, List.setIfInBounds_toArray, List.set_cons_zero, List.set_cons_succ]
                refine wpAnyH_ready (rs := [18]) (by kernel_rfl) (by simp) ?_
                refine AllReadyH.cons rfl (fun K hK => ?_) ?_
                · go_simp
                  refine hK.out _ _ ?_ (fun hHeld => ?_)
                  · (try dsimp only); first | with_reducible exact hS6 | with_reducible exact hS5 | with_reducible exact SB _ D0 | with_reducible exact SB _ d3a | with_reducible exact SB _ d3 | with_reducible exact SB _ d2
                  clear hK K
                  try simp only [Act.put, List.setIfInBounds_toArray, List.set_cons_zero, List.set_cons_succ]
                  refine wpAnyH_done (by kernel_rfl) ?_ _
                  have HF : Hid (∃ (A2 : Option Addr) (c2 : Nat), W1.heap.size ≤ (w5.setCell ⟨w.heap.size + 1 + 1 + 1 + 1, 1, none⟩ (.slice A3 (i + 1) c3)).heap.size ∧ Blk (w5.setCell ⟨w.heap.size + 1 + 1 + 1 + 1, 1, none⟩ (.slice A3 (i + 1) c3)) w.heap.size #[.int .i64 at1, .slice (some ⟨b, off, none⟩) l.length c] 98 ∧ Blk (w5.setCell ⟨w.heap.size + 1 + 1 + 1 + 1, 1, none⟩ (.slice A3 (i + 1) c3)) (w.heap.size + 1) #[.int .i64 at2, .slice (some ⟨b2, off2, none⟩) o.length oc] 98 ∧ Blk (w5.setCell ⟨w.heap.size + 1 + 1 + 1 + 1, 1, none⟩ (.slice A3 (i + 1) c3)) (w.heap.size + 1 + 1) #[.int .i64 x.n, .int .i64 x.d] 101 ∧ Blk (w5.setCell ⟨w.heap.size + 1 + 1 + 1 + 1, 1, none⟩ (.slice A3 (i + 1) c3)) (w.heap.size + 1 + 1 + 1) #[.int .i64 0, .slice none 0 0] 98 ∧ Blk (w5.setCell ⟨w.heap.size + 1 + 1 + 1 + 1, 1, none⟩ (.slice A3 (i + 1) c3)) (w.heap.size + 1 + 1 + 1 + 1) #[.int .i64 at1, .slice A2 (i + 1) c2] 98 ∧ (w5.setCell ⟨w.heap.size + 1 + 1 + 1 + 1, 1, none⟩ (.slice A3 (i + 1) c3)).ownsRow W1.heap.size 101 2 (.slice A2 (i + 1) c2) (i + 1) (((lessL l x o).take (i + 1)).flatMap frcC) ∧ Below w.heap.size w (w5.setCell ⟨w.heap.size + 1 + 1 + 1 + 1, 1, none⟩ (.slice A3 (i + 1) c3))) := Lib.hid ⟨A3, c3, by have := hg5.size; simp only [World.size_setCell]; have := z3; simp only [World.size_alloc] at *; omega, q0.far (by first | (simp; done) | (simp; omega)) _, q1.far (by first | (simp; done) | (simp; omega)) _, q2.far (by first | (simp; done) | (simp; omega)) _, q3.far (by first | (simp; done) | (simp; omega)) _, q4.set 1 (.slice A3 (i + 1) c3), own_farQ (by rw [HT.out]; exact hown5) (by show w.heap.size + 1 + 1 + 1 + 1 < W1.heap.size; omega) _, hB5.setCell (by show w.heap.size ≤ w.heap.size + 1 + 1 + 1 + 1; omega) _⟩
                  clear hS5 hS6 SK SB q0 q1 q2 q3 q4 q4c q4f hB5 hown5 hg5 ho5 ne5
                  go_wp2_with fail
                  go_roundw
                  all_goals first
                    | (simp [vInt]; omega; done)
                    | exact ⟨i + 1, by omega, by go_num, HF⟩
                exact AllReadyH.nil
              exact AllReadyH.nil
            exact AllReadyH.nil
          refine AllReadyH.cons rfl (fun K hK => ?_) ?_
          · go_simp
            refine hK.out _ _ ?_ (fun hHeld => ?_)
            · (try dsimp only); first | with_reducible exact hS6 | with_reducible exact hS5 | with_reducible exact SB _ D0 | with_reducible exact SB _ d3a | with_reducible exact SB _ d3 | with_reducible exact SB _ d2
            clear hK K
            try simp only [Act.put, List.setIfInBounds_toArray, List.set_cons_zero, List.set_cons_succ]
            refine wpAnyH_ready (rs := [1]) (by kernel_rfl) (by simp) ?_
            refine AllReadyH.cons rfl (fun K hK => ?_) ?_
            · go_simp
              refine hK.out _ _ ?_ (fun hHeld => ?_)
              · (try dsimp only); first | with_reducible exact hS6 | with_reducible exact hS5 | with_reducible exact SB _ D0 | with_reducible exact SB _ d3a | with_reducible exact SB _ d3 | with_reducible exact SB _ d2
              clear hK K
              try simp only [Act.put, List.setIfInBounds_toArray, List.set_cons_zero, List.set_cons_succ]
              refine wpAnyH_ready (rs := [16]) (by kernel_rfl) (by simp) ?_
              refine AllReadyH.cons rfl (fun K hK => ?_) ?_
              · skip
                refine step_append_opt (by rfl) _ _ _ (by rfl) W1.heap.size 101 i4 _ 2 16 Tryz.underlying96 hi4 hq0 hq1 hq2 rfl (by decide) _ _ _ (by rfl) HO3.out (some ⟨w3.heap.size, 0, none⟩) 1 1 (frcC ⟨rn, rd⟩) (by rfl) (fun e => by cases e) (by rfl) (fun ad e => by cases e; exact HNw.out) (frcC_one _) (by unfold maxLen; omega) (by omega) (by simp; omega) ?_; intro v' w5 hown5 hg5 ho5; obtain ⟨A3, c3, rfl⟩ := own_slice hown5; have ne5 := HO3.out.lt; have q0 := (k0.below d3a l0).grown hg5 (fun e => by have := (ne5 _ e.symm).1; omega); have q1 := (k1.below d3a l1).grown hg5 (fun e => by have := (ne5 _ e.symm).1; omega); have q2 := (k2.below d3a l2).grown hg5 (fun e => by have := (ne5 _ e.symm).1; omega); have q3 := (k3.below d3a l3).grown hg5 (fun e => by have := (ne5 _ e.symm).1; omega); have q4 := (k4.below d3a l4).grown hg5 (fun e => by have := (ne5 _ e.symm).1; omega); have q4c := q4.cell; have q4f := q4.free; have hB5 := (hB.trans (d3a.mono hB.size)).grown hg5 (by simp; omega) (fun k e => by have := (ne5 k e).1; omega); have hS5 := SK w5 hB5 q0 q1 q2; have hS6 := SK (w5.setCell ⟨w.heap.size + 1 + 1 + 1 + 1, 1, none⟩ (.slice A3 (i + 1) c3)) (hB5.setCell (by first | (simp; done) | (simp; omega)) _) (q0.far (by first | (simp; done) | (simp; omega)) _) (q1.far (by first | (simp; done) | (simp; omega)) _) (q2.far (by first | (simp; done) | (simp; omega)) _)
                refine hK.out _ _ ?_ (fun hHeld => ?_)
                · (try dsimp only); first | with_reducible exact hS6 | with_reducible exact hS5 | with_reducible exact SB _ D0 | with_reducible exact SB _ d3a | with_reducible exact SB _ d3 | with_reducible exact SB _ d2
                clear hK K
                try simp only [Act.put, List.setIfInBounds_toArray, List.set_cons_zero, List.set_cons_succ]
                refine wpAnyH_take (i := 17) (v := ?_) rfl (by kernel_rfl) (by kernel_rfl) (by kernel_rfl) (fun _ _ _ h => h) (Or.inl ⟨by rfl, ?_⟩) (by assumption) ?_
                case refine_2 => intro w hSw; (try dsimp only at hSw); go_simp; first | done | with_reducible rfl
                try simp only [Act.put, List.setIfInBounds_toArray, List.set_cons_zero, List.set_cons_succ]
                refine wpAnyH_ready (rs := [18]) (by kernel_rfl) (by simp) ?_
                refine AllReadyH.cons rfl (fun K hK => ?_) ?_
                · go_simp
                  refine hK.out _ _ ?_ (fun hHeld => ?_)
                  · (try dsimp only); first | with_reducible exact hS6 | with_reducible exact hS5 | with_reducible exact SB _ D0 | with_reducible exact SB _ d3a | with_reducible exact SB _ d3 | with_reducible exact SB _ d2
                  clear hK K
                  try simp only [Act.put, List.setIfInBounds_toArray, List.set_cons_zero, List.set_cons_succ]
                  refine wpAnyH_done (by kernel_rfl) ?_ _
                  have HF : Hid (∃ (A2 : Option Addr) (c2 : Nat), W1.heap.size ≤ (w5.setCell ⟨w.heap.size + 1 + 1 + 1 + 1, 1, none⟩ (.slice A3 (i + 1) c3)).heap.size ∧ Blk (w5.setCell ⟨w.heap.size + 1 + 1 + 1 + 1, 1, none⟩ (.slice A3 (i + 1) c3)) w.heap.size #[.int .i64 at1, .slice (some ⟨b, off, none⟩) l.length c] 98 ∧ Blk (w5.setCell ⟨w.heap.size + 1 + 1 + 1 + 1, 1, none⟩ (.slice A3 (i + 1) c3)) (w.heap.size + 1) #[.int .i64 at2, .slice (some ⟨b2, off2, none⟩) o.length oc] 98 ∧ Blk (w5.setCell ⟨w.heap.size + 1 + 1 + 1 + 1, 1, none⟩ (.slice A3 (i + 1) c3)) (w.heap.size + 1 + 1) #[.int .i64 x.n, .int .i64 x.d] 101 ∧ Blk (w5.setCell ⟨w.heap.size + 1 + 1 + 1 + 1, 1, none⟩ (.slice A3 (i + 1) c3)) (w.heap.size + 1 + 1 + 1) #[.int .i64 0, .slice none 0 0] 98 ∧ Blk (w5.setCell ⟨w.heap.size + 1 + 1 + 1 + 1, 1, none⟩ (.slice A3 (i + 1) c3)) (w.heap.size + 1 + 1 + 1 + 1) #[.int .i64 at1, .slice A2 (i + 1) c2] 98 ∧ (w5.setCell ⟨w.heap.size + 1 + 1 + 1 + 1, 1, none⟩ (.slice A3 (i + 1) c3)).ownsRow W1.heap.size 101 2 (.slice A2 (i + 1) c2) (i + 1) (((lessL l x o).take (i + 1)).flatMap frcC) ∧ Below w.heap.size w (w5.setCell ⟨w.heap.size + 1 + 1 + 1 + 1, 1, none⟩ (.slice A3 (i + 1) c3))) := Lib.hid ⟨A3, c3, by have := hg5.size; simp only [World.size_setCell]; have := z3; simp only [World.size_alloc] at *; omega, q0.far (by first | (simp; done) | (simp; omega)) _, q1.far (by first | (simp; done) | (simp; omega)) _, q2.far (by first | (simp; done) | (simp; omega)) _, q3.far (by first | (simp; done) | (simp; omega)) _, q4.set 1 (.slice A3 (i + 1) c3), own_farQ (by rw [HT.out]; exact hown5) (by show w.heap.size + 1 + 1 + 1 + 1 < W1.heap.size; omega) _, hB5.setCell (by show w.heap.size ≤ w.heap.size + 1 + 1 + 1 + 1; omega) _⟩
                  clear hS5 hS6 SK SB q0 q1 q2 q3 q4 q4c q4f hB5 hown5 hg5 ho5 ne5
                  go_wp2_with fail
                  go_roundw
                  all_goals first
                    | (simp [vInt]; omega; done)
                    | exact ⟨i + 1, by omega, by go_num, HF⟩
                exact AllReadyH.nil
              exact AllReadyH.nil
            exact AllReadyH.nil
          exact AllReadyH.nil
        exact AllReadyH.nil
      exact AllReadyH.nil
    · have hil : ¬ (i : Int) < (l.length : Int) := by omega
      obtain rfl : i = l.length := by omega
      have HO5 : Hid (wr.ownsRow W1.heap.size 101 2 (.slice A2 l.length c2) l.length ((lessL l x o).flatMap frcC)) := Lib.hid (by have := HO.out; rwa [List.take_of_length_le (by rw [HLen.out]; exact Nat.le_refl _)] at this)
      clear HO
      have k3c := k3.cell
      have k3f := k3.free
      have r0 := ((k3.set 0 (.int .i64 at1)).set 1 (.slice A2 l.length c2)).cell
      have b6 := (hB.setCell (p := ⟨w.heap.size + 1 + 1 + 1, 0, none⟩) (by show w.heap.size ≤ w.heap.size + 1 + 1 + 1; omega) (.int .i64 at1)).setCell (p := ⟨w.heap.size + 1 + 1 + 1, 1, none⟩) (by show w.heap.size ≤ w.heap.size + 1 + 1 + 1; omega) (.slice A2 l.length c2)
      have HE2 := Lib.hid (own_lowQ (own_farQ (own_farQ HO5.out (p := ⟨w.heap.size + 1 + 1 + 1, 0, none⟩) (by show w.heap.size + 1 + 1 + 1 < W1.heap.size; omega) (.int .i64 at1)) (p := ⟨w.heap.size + 1 + 1 + 1, 1, none⟩) (by show w.heap.size + 1 + 1 + 1 < W1.heap.size; omega) (.slice A2 l.length c2)) (show w.heap.size ≤ W1.heap.size by omega))
      go_wp2_with fail
      refine bodyPost_ret (v := .agg #[.int .i64 at1, .slice A2 l.length c2]) ?hres rfl ?hpost
      case hres => simp [results, Tryz.results81, go_sem, r0]
      case hpost => exact ⟨A2, c2, by rw [HLen.out], by rw [HLen.out]; exact HE2, b6⟩
end Go.Proofs.YtbkekdbabkncfaaGreat
