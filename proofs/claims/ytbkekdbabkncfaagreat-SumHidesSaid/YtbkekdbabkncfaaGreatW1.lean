/- Fractions, by the program. -/
import Derived.Test.YtbkekdbabkncfaaGreatD2
import Derived.Laws.StructEq

namespace Go.Proofs.YtbkekdbabkncfaaGreat
open Go.RowKit Go.Maps

/-- Two numbers in new memory. -/
theorem two_new (w : World) (a b : Int) (t : TypeId) : IntsAt (w.alloc (.cells #[.int .i64 a, .int .i64 b] t)) (w.heap.size + 1) (some ⟨w.heap.size, 0, none⟩) [a, b] := fun k hk => by
  have k1 := (Blk.new w #[.int .i64 a, .int .i64 b] t).cell
  refine ⟨w.heap.size, 0, rfl, by omega, fun i hi => ?_⟩
  obtain rfl : i = 0 := by omega
  have hk2 : k = 0 ∨ k = 1 := by simp at hk; omega
  rcases hk2 with rfl | rfl
  · exact (k1 0).trans rfl
  · exact (k1 1).trans rfl
set_option maxRecDepth 100000 in
set_option maxHeartbeats 4000000 in
theorem common_any (a b : Int) (A : Option Addr) (c : Nat) (w : World) (h : IntsAt w w.heap.size A [a, b]) (ha : -4000000000000000000 ≤ a ∧ a ≤ 4000000000000000000) (hb : -4000000000000000000 ≤ b ∧ b ≤ 4000000000000000000) :
    Calls Tryz.prog 97 #[.slice A 2 c] w fun e w' => e = .returned (.int .i64 (gcdI a b)) ∧ Below w.heap.size w w' := by
  have HH := Lib.hid h
  have HA := Lib.hid ha
  have HBn := Lib.hid hb
  clear h ha hb
  go_enter Tryz.func97, Tryz.ntmps97
  go_wp2_with fail
  go_loopw [3, 8] (fun cc ii wr => ∃ (i : Nat) (x : Int), i ≤ 2 ∧ cc = .int .i64 x ∧ ii = .int .i64 i ∧ Hid (Below w.heap.size w wr ∧ (-4000000000000000000 ≤ x ∧ x ≤ 4000000000000000000) ∧ (i = 0 → x = 0) ∧ (i = 1 → (x.natAbs : Int) = (a.natAbs : Int)) ∧ (i = 2 → (x.natAbs : Int) = gcdI a b))) (fun _ ii _ => 2 - (vInt ii).toNat)
  case atStart => exact ⟨0, 0, by omega, rfl, rfl, Lib.hid ⟨Below.refl _ _, by omega, fun _ => rfl, fun h => by omega, fun h => by omega⟩⟩
  case round =>
    obtain ⟨i, x, hi, rfl, rfl, hR⟩ := hrel
    by_cases hlt : i < 2
    · have hil : (i : Int) < 2 := by omega
      obtain ⟨hB, hx, hx0, hx1, _⟩ := hR.out
      obtain ⟨bb, off, rfl, hbb, c0⟩ := ints_at (HH.out.later hB) (k := i) (by simpa using hlt)
      have hy : -4000000000000000000 ≤ ([a, b][i]'(by simpa using hlt)) ∧ ([a, b][i]'(by simpa using hlt)) ≤ 4000000000000000000 := by
        have h2 : i = 0 ∨ i = 1 := by omega
        rcases h2 with rfl | rfl
        · exact HA.out
        · exact HBn.out
      have HE : Hid (∀ z : Int, (z.natAbs : Int) = gcdI x ([a, b][i]'(by simpa using hlt)) → (i + 1 = 1 → (z.natAbs : Int) = (a.natAbs : Int)) ∧ (i + 1 = 2 → (z.natAbs : Int) = gcdI a b)) := Lib.hid (fun z hz => by
        have h2 : i = 0 ∨ i = 1 := by omega
        rcases h2 with rfl | rfl
        · refine ⟨fun _ => ?_, fun h => by omega⟩
          rw [hz, hx0 rfl]
          exact (gcdI_first a a).1
        · refine ⟨fun h => by omega, fun _ => ?_⟩
          rw [hz]
          have h4 := hx1 rfl
          have h3 : x.natAbs = a.natAbs := by omega
          show ((Nat.gcd x.natAbs b.natAbs : Nat) : Int) = ((Nat.gcd a.natAbs b.natAbs : Nat) : Int)
          rw [h3])
      generalize ([a, b][i]'(by simpa using hlt)) = y at *
      clear hR hx0 hx1
      have HX := Lib.hid hx
      have HY := Lib.hid hy
      clear hx hy
      go_wp2_with fail
      go_loopw [3, 5] (fun cc nn wq => ∃ (p q : Int), cc = .int .i64 p ∧ nn = .int .i64 q ∧ Hid (Below w.heap.size w wq ∧ gcdI p q = gcdI x y ∧ (-4000000000000000000 ≤ p ∧ p ≤ 4000000000000000000) ∧ (-4000000000000000000 ≤ q ∧ q ≤ 4000000000000000000))) (fun _ nn _ => (vInt nn).natAbs)
      case atStart => exact ⟨x, y, rfl, rfl, Lib.hid ⟨hB, rfl, HX.out, HY.out⟩⟩
      case round =>
        obtain ⟨p, q, rfl, rfl, hR⟩ := hrel
        obtain ⟨hB2, hG, hp, hq⟩ := hR.out
        clear hR
        by_cases hz : q = 0
        · have hz1 : (q != 0) = false := by simp [hz]
          have HZ : Hid ((p.natAbs : Int) = gcdI x y) := Lib.hid (by rw [← hG, hz, gcdI_zero])
          have HPb := Lib.hid hp
          clear hz hG hq hp
          go_wp2_with fail
          go_roundw
          case rel => exact ⟨i + 1, p, by omega, rfl, by go_num, Lib.hid ⟨hB2, HPb.out, fun h => by omega, (HE.out p HZ.out).1, (HE.out p HZ.out).2⟩⟩
          case measure => simp [vInt]; omega
        · have hz1 : (q != 0) = true := by simpa using hz
          have hz2 : (q == 0) = false := by simpa using hz
          have hz3 : ¬ q = 0 := hz
          have HG : Hid (gcdI q (p.tmod q) = gcdI x y) := Lib.hid (by rw [gcdI_rem, hG])
          have hr : -4000000000000000000 ≤ p.tmod q ∧ p.tmod q ≤ 4000000000000000000 := by
            have h1 : (p.tmod q).natAbs ≤ p.natAbs := by rw [Int.natAbs_tmod]; exact Nat.mod_le _ _
            omega
          have hm : (p.tmod q).natAbs < q.natAbs := by rw [Int.natAbs_tmod]; exact Nat.mod_lt _ (by omega)
          have HR := Lib.hid hr
          have HM := Lib.hid hm
          have HQb := Lib.hid hq
          have hq1 := hq.1
          have hq2 := hq.2
          have hp1 := hp.1
          have hp2 := hp.2
          clear hz hG hr hm hq hp
          go_upto_region 6 with fail
          go_region
          go_wp2_with fail
          go_roundw
          case rel => exact ⟨q, p.tmod q, rfl, rfl, Lib.hid ⟨hB2.drew, HG.out, HQb.out, HR.out⟩⟩
          case measure => simp only [vInt]; exact HM.out
    · have hil : ¬ (i : Int) < 2 := by omega
      obtain ⟨hB, hx, _, _, hx2⟩ := hR.out
      have HX2 := Lib.hid (hx2 (by omega))
      obtain ⟨hxa, hxb⟩ := hx
      clear hR hx2
      go_wp2_with fail
      all_goals go_ret
      all_goals exact ⟨ret_int (by have := HX2.out; omega), hB⟩
end Go.Proofs.YtbkekdbabkncfaaGreat

namespace Go.Proofs.YtbkekdbabkncfaaGreat
open Go.RowKit Go.Maps

set_option maxRecDepth 100000 in
set_option maxHeartbeats 4000000 in
theorem integer_any (n : Int) (w : World) :
    Calls Tryz.prog 109 #[.int .i64 n] w fun e w' => e = .returned (.agg #[.int .i64 n, .int .i64 1]) ∧ Below w.heap.size w w' := by
  have b1 := (Below.refl w.heap.size w).alloc (Nat.le_refl _) (.cells #[.int .i64 n, .int .i64 1] 129)
  go_enter Tryz.func109, Tryz.ntmps109
  go_wp2_with fail
  refine bodyPost_ret (v := .agg #[.int .i64 n, .int .i64 1]) ?hres rfl ?hpost
  case hres => simp [results, Tryz.results109, go_sem]
  case hpost => exact ⟨rfl, b1⟩
set_option maxRecDepth 100000 in
set_option maxHeartbeats 4000000 in
theorem ratio_any (n d : Int) (hn : -4000000000000000000 ≤ n ∧ n ≤ 4000000000000000000) (hd : -4000000000000000000 ≤ d ∧ d ≤ 4000000000000000000) (hz : d ≠ 0) (w : World) :
    Calls Tryz.prog 137 #[.int .i64 n, .int .i64 d] w fun e w' => e = .returned (.agg #[.int .i64 (ratF n d).n, .int .i64 (ratF n d).d]) ∧ Below w.heap.size w w' := by
  have b1 := (Below.refl w.heap.size w).alloc (Nat.le_refl _) (.cells #[.int .i64 0, .int .i64 0] 129)
  have b2 := b1.alloc b1.size (.cells #[.int .i64 n, .int .i64 d] 3)
  have k1 := (Blk.new w #[.int .i64 0, .int .i64 0] 129).alloc (.cells #[.int .i64 n, .int .i64 d] 3)
  have g1 := k1.lt
  have hi := two_new (w.alloc (.cells #[.int .i64 0, .int .i64 0] 129)) n d 3
  rw [World.size_alloc] at hi
  have HC := Lib.hid (common_any n d (some ⟨w.heap.size + 1, 0, none⟩) 2 _ (by rw [World.size_alloc, World.size_alloc]; exact hi) hn hd)
  have hgl := gcdI_le (a := n) hz
  have hg1 := hgl.1
  have hg2 : gcdI n d ≤ 4000000000000000000 := by omega
  obtain ⟨hn1, hn2⟩ := hn
  obtain ⟨hd1, hd2⟩ := hd
  clear hi hgl hz
  by_cases hd0 : d < 0
  ·
    have hdl : d < 0 := hd0
    have hgw : IntKind.i64.wrap (-(gcdI n d)) = -(gcdI n d) := IntWalk.i64_in _ (by omega)
    have e1 : n.tdiv (-(gcdI n d)) = -(n / gcdI n d) := by rw [Int.tdiv_neg, tdiv_gcd_left]
    have e2 : d.tdiv (-(gcdI n d)) = -(d / gcdI n d) := by rw [Int.tdiv_neg, tdiv_gcd_right]
    have HE : Hid (ratF n d = ⟨n.tdiv (-(gcdI n d)), d.tdiv (-(gcdI n d))⟩) := Lib.hid (by unfold ratF; rw [e1, e2, if_pos hdl])
    have hnz : ¬ (-(gcdI n d)) = 0 := by omega
    have hnz2 : ((-(gcdI n d)) == 0) = false := by rw [beq_eq_false_iff_ne]; exact hnz
    have hbn : (n.tdiv (-(gcdI n d))).natAbs ≤ n.natAbs := by rw [Int.natAbs_tdiv]; exact Nat.div_le_self _ _
    have hbd : (d.tdiv (-(gcdI n d))).natAbs ≤ d.natAbs := by rw [Int.natAbs_tdiv]; exact Nat.div_le_self _ _
    have hwn : IntKind.i64.wrap (n.tdiv (-(gcdI n d))) = n.tdiv (-(gcdI n d)) := IntWalk.i64_in _ (by omega)
    have hwd : IntKind.i64.wrap (d.tdiv (-(gcdI n d))) = d.tdiv (-(gcdI n d)) := IntWalk.i64_in _ (by omega)
    clear e1 e2 hbn hbd
    generalize gcdI n d = g at *
    go_enter Tryz.func137, Tryz.ntmps137
    go_upto_region 4 with (go_at_call 97; (with_reducible refine (HC.out).mono ?_); rintro e w1 ⟨rfl, h1⟩; have b3 := b2.trans (h1.mono b2.size); have k3 := k1.below h1 g1)
    have k3c := k3.cell
    have k3f := k3.free
    generalize hp1 : n.tdiv (-g) = p1 at *
    generalize hp2 : d.tdiv (-g) = p2 at *
    have HP := Lib.hid (And.intro hp1 hp2)
    have b4 := (b3.setCell (p := ⟨w.heap.size, 0, none⟩) (Nat.le_refl _) (.int .i64 p1)).setCell (p := ⟨w.heap.size, 1, none⟩) (Nat.le_refl _) (.int .i64 p2) |>.drew
    have r0 := ((k3.set 0 (.int .i64 p1)).set 1 (.int .i64 p2)).drew.cell
    go_region
    go_wp2_with fail
    refine bodyPost_ret (v := .agg #[.int .i64 p1, .int .i64 p2]) ?hres rfl ?hpost
    case hres => simp [results, Tryz.results137, go_sem, r0]
    case hpost => exact ⟨by rw [HE.out], b4⟩
  ·
    have hdl : ¬ d < 0 := hd0
    have hgw : IntKind.i64.wrap (-(gcdI n d)) = -(gcdI n d) := IntWalk.i64_in _ (by omega)
    have e1 : n.tdiv (gcdI n d) = n / gcdI n d := by exact tdiv_gcd_left n d
    have e2 : d.tdiv (gcdI n d) = d / gcdI n d := by exact tdiv_gcd_right n d
    have HE : Hid (ratF n d = ⟨n.tdiv (gcdI n d), d.tdiv (gcdI n d)⟩) := Lib.hid (by unfold ratF; rw [e1, e2, if_neg hdl])
    have hnz : ¬ (gcdI n d) = 0 := by omega
    have hnz2 : ((gcdI n d) == 0) = false := by rw [beq_eq_false_iff_ne]; exact hnz
    have hbn : (n.tdiv (gcdI n d)).natAbs ≤ n.natAbs := by rw [Int.natAbs_tdiv]; exact Nat.div_le_self _ _
    have hbd : (d.tdiv (gcdI n d)).natAbs ≤ d.natAbs := by rw [Int.natAbs_tdiv]; exact Nat.div_le_self _ _
    have hwn : IntKind.i64.wrap (n.tdiv (gcdI n d)) = n.tdiv (gcdI n d) := IntWalk.i64_in _ (by omega)
    have hwd : IntKind.i64.wrap (d.tdiv (gcdI n d)) = d.tdiv (gcdI n d) := IntWalk.i64_in _ (by omega)
    clear e1 e2 hbn hbd
    generalize gcdI n d = g at *
    go_enter Tryz.func137, Tryz.ntmps137
    go_upto_region 4 with (go_at_call 97; (with_reducible refine (HC.out).mono ?_); rintro e w1 ⟨rfl, h1⟩; have b3 := b2.trans (h1.mono b2.size); have k3 := k1.below h1 g1)
    have k3c := k3.cell
    have k3f := k3.free
    generalize hp1 : n.tdiv g = p1 at *
    generalize hp2 : d.tdiv g = p2 at *
    have HP := Lib.hid (And.intro hp1 hp2)
    have b4 := (b3.setCell (p := ⟨w.heap.size, 0, none⟩) (Nat.le_refl _) (.int .i64 p1)).setCell (p := ⟨w.heap.size, 1, none⟩) (Nat.le_refl _) (.int .i64 p2) |>.drew
    have r0 := ((k3.set 0 (.int .i64 p1)).set 1 (.int .i64 p2)).drew.cell
    go_region
    go_wp2_with fail
    refine bodyPost_ret (v := .agg #[.int .i64 p1, .int .i64 p2]) ?hres rfl ?hpost
    case hres => simp [results, Tryz.results137, go_sem, r0]
    case hpost => exact ⟨by rw [HE.out], b4⟩
end Go.Proofs.YtbkekdbabkncfaaGreat

namespace Go.Proofs.YtbkekdbabkncfaaGreat
open Go.RowKit Go.Maps

set_option maxRecDepth 100000 in
set_option maxHeartbeats 4000000 in
theorem minusF_any (a b : Frc) (ha : bdF a = true) (hb : bdF b = true) (w : World) :
    Calls Tryz.prog 110 #[.agg #[.int .i64 a.n, .int .i64 a.d], .agg #[.int .i64 b.n, .int .i64 b.d]] w fun e w' => e = .returned (.agg #[.int .i64 (subF a b).n, .int .i64 (subF a b).d]) ∧ Below w.heap.size w w' := by
  obtain ⟨⟨ha1, ha2⟩, ha3, ha4⟩ := bdF_iff.1 ha
  obtain ⟨⟨hb1, hb2⟩, hb3, hb4⟩ := bdF_iff.1 hb
  clear ha hb
  have b3 := (((Below.refl w.heap.size w).alloc (Nat.le_refl _) (.cells #[.int .i64 a.n, .int .i64 a.d] 129)).alloc (by simp) (.cells #[.int .i64 b.n, .int .i64 b.d] 129)).alloc (by simp; omega) (.cells #[.int .i64 0, .int .i64 0] 129)
  have k1 := ((Blk.new w #[.int .i64 a.n, .int .i64 a.d] 129).alloc (.cells #[.int .i64 b.n, .int .i64 b.d] 129)).alloc (.cells #[.int .i64 0, .int .i64 0] 129)
  have k2 := (newAt' (w.alloc (.cells #[.int .i64 a.n, .int .i64 a.d] 129)) #[.int .i64 b.n, .int .i64 b.d] 129 (g := w.heap.size + 1) (by simp)).alloc (.cells #[.int .i64 0, .int .i64 0] 129)
  have k3 := newAt' ((w.alloc (.cells #[.int .i64 a.n, .int .i64 a.d] 129)).alloc (.cells #[.int .i64 b.n, .int .i64 b.d] 129)) #[.int .i64 0, .int .i64 0] 129 (g := w.heap.size + 2) (by simp)
  have k1c := k1.cell
  have k2c := k2.cell
  have g3 := k3.lt
  obtain ⟨p1a, p1b⟩ := mul_bd (a := a.n) (b := b.d) ⟨by omega, by omega⟩ ⟨by omega, by omega⟩
  obtain ⟨p2a, p2b⟩ := mul_bd (a := b.n) (b := a.d) ⟨by omega, by omega⟩ ⟨by omega, by omega⟩
  obtain ⟨p3a, p3b⟩ := mul_bd (a := a.d) (b := b.d) ⟨by omega, by omega⟩ ⟨by omega, by omega⟩
  have hpos : 0 < a.d * b.d := Int.mul_pos (by omega) (by omega)
  have HR := Lib.hid (fun W => ratio_any (a.n * b.d - b.n * a.d) (a.d * b.d) ⟨by omega, by omega⟩ ⟨by omega, by omega⟩ (by omega) W)
  have hE : subF a b = ratF (a.n * b.d - b.n * a.d) (a.d * b.d) := rfl
  rw [hE]
  clear hE
  generalize ratF (a.n * b.d - b.n * a.d) (a.d * b.d) = r at *
  go_enter Tryz.func110, Tryz.ntmps110
  go_wp2_with (go_at_call 137; (with_reducible refine (HR.out _).mono ?_); rintro e w1 ⟨rfl, h1⟩; have b4 := b3.trans (h1.mono b3.size); have k4 := k3.below h1 g3; have k4c := k4.cell; have k4f := k4.free; have b5 := (b4.setCell (p := ⟨w.heap.size + 2, 0, none⟩) (by simp) (.int .i64 r.n)).setCell (p := ⟨w.heap.size + 2, 1, none⟩) (by simp) (.int .i64 r.d); have r0 := ((k4.set 0 (.int .i64 r.n)).set 1 (.int .i64 r.d)).cell)
  refine bodyPost_ret (v := .agg #[.int .i64 r.n, .int .i64 r.d]) ?hres rfl ?hpost
  case hres => simp [results, Tryz.results110, go_sem, r0]
  case hpost => exact ⟨rfl, b5⟩

set_option maxRecDepth 100000 in
set_option maxHeartbeats 4000000 in
theorem timesF_any (a b : Frc) (ha : bdF a = true) (hb : bdF b = true) (w : World) :
    Calls Tryz.prog 143 #[.agg #[.int .i64 a.n, .int .i64 a.d], .agg #[.int .i64 b.n, .int .i64 b.d]] w fun e w' => e = .returned (.agg #[.int .i64 (mulF a b).n, .int .i64 (mulF a b).d]) ∧ Below w.heap.size w w' := by
  obtain ⟨⟨ha1, ha2⟩, ha3, ha4⟩ := bdF_iff.1 ha
  obtain ⟨⟨hb1, hb2⟩, hb3, hb4⟩ := bdF_iff.1 hb
  clear ha hb
  have b3 := (((Below.refl w.heap.size w).alloc (Nat.le_refl _) (.cells #[.int .i64 a.n, .int .i64 a.d] 129)).alloc (by simp) (.cells #[.int .i64 b.n, .int .i64 b.d] 129)).alloc (by simp; omega) (.cells #[.int .i64 0, .int .i64 0] 129)
  have k1 := ((Blk.new w #[.int .i64 a.n, .int .i64 a.d] 129).alloc (.cells #[.int .i64 b.n, .int .i64 b.d] 129)).alloc (.cells #[.int .i64 0, .int .i64 0] 129)
  have k2 := (newAt' (w.alloc (.cells #[.int .i64 a.n, .int .i64 a.d] 129)) #[.int .i64 b.n, .int .i64 b.d] 129 (g := w.heap.size + 1) (by simp)).alloc (.cells #[.int .i64 0, .int .i64 0] 129)
  have k3 := newAt' ((w.alloc (.cells #[.int .i64 a.n, .int .i64 a.d] 129)).alloc (.cells #[.int .i64 b.n, .int .i64 b.d] 129)) #[.int .i64 0, .int .i64 0] 129 (g := w.heap.size + 2) (by simp)
  have k1c := k1.cell
  have k2c := k2.cell
  have g3 := k3.lt
  obtain ⟨p1a, p1b⟩ := mul_bd (a := a.n) (b := b.n) ⟨by omega, by omega⟩ ⟨by omega, by omega⟩
  obtain ⟨p3a, p3b⟩ := mul_bd (a := a.d) (b := b.d) ⟨by omega, by omega⟩ ⟨by omega, by omega⟩
  have hpos : 0 < a.d * b.d := Int.mul_pos (by omega) (by omega)
  have HR := Lib.hid (fun W => ratio_any (a.n * b.n) (a.d * b.d) ⟨by omega, by omega⟩ ⟨by omega, by omega⟩ (by omega) W)
  have hE : mulF a b = ratF (a.n * b.n) (a.d * b.d) := rfl
  rw [hE]
  clear hE
  generalize ratF (a.n * b.n) (a.d * b.d) = r at *
  go_enter Tryz.func143, Tryz.ntmps143
  go_wp2_with (go_at_call 137; (with_reducible refine (HR.out _).mono ?_); rintro e w1 ⟨rfl, h1⟩; have b4 := b3.trans (h1.mono b3.size); have k4 := k3.below h1 g3; have k4c := k4.cell; have k4f := k4.free; have b5 := (b4.setCell (p := ⟨w.heap.size + 2, 0, none⟩) (by simp) (.int .i64 r.n)).setCell (p := ⟨w.heap.size + 2, 1, none⟩) (by simp) (.int .i64 r.d); have r0 := ((k4.set 0 (.int .i64 r.n)).set 1 (.int .i64 r.d)).cell)
  refine bodyPost_ret (v := .agg #[.int .i64 r.n, .int .i64 r.d]) ?hres rfl ?hpost
  case hres => simp [results, Tryz.results143, go_sem, r0]
  case hpost => exact ⟨rfl, b5⟩

set_option maxRecDepth 100000 in
set_option maxHeartbeats 4000000 in
theorem byF_any (a b : Frc) (ha : bdF a = true) (hb : bdF b = true) (hb0 : b.n ≠ 0) (w : World) :
    Calls Tryz.prog 144 #[.agg #[.int .i64 a.n, .int .i64 a.d], .agg #[.int .i64 b.n, .int .i64 b.d]] w fun e w' => e = .returned (.agg #[.int .i64 (divF a b).n, .int .i64 (divF a b).d]) ∧ Below w.heap.size w w' := by
  obtain ⟨⟨ha1, ha2⟩, ha3, ha4⟩ := bdF_iff.1 ha
  obtain ⟨⟨hb1, hb2⟩, hb3, hb4⟩ := bdF_iff.1 hb
  clear ha hb
  have b3 := (((Below.refl w.heap.size w).alloc (Nat.le_refl _) (.cells #[.int .i64 a.n, .int .i64 a.d] 129)).alloc (by simp) (.cells #[.int .i64 b.n, .int .i64 b.d] 129)).alloc (by simp; omega) (.cells #[.int .i64 0, .int .i64 0] 129)
  have k1 := ((Blk.new w #[.int .i64 a.n, .int .i64 a.d] 129).alloc (.cells #[.int .i64 b.n, .int .i64 b.d] 129)).alloc (.cells #[.int .i64 0, .int .i64 0] 129)
  have k2 := (newAt' (w.alloc (.cells #[.int .i64 a.n, .int .i64 a.d] 129)) #[.int .i64 b.n, .int .i64 b.d] 129 (g := w.heap.size + 1) (by simp)).alloc (.cells #[.int .i64 0, .int .i64 0] 129)
  have k3 := newAt' ((w.alloc (.cells #[.int .i64 a.n, .int .i64 a.d] 129)).alloc (.cells #[.int .i64 b.n, .int .i64 b.d] 129)) #[.int .i64 0, .int .i64 0] 129 (g := w.heap.size + 2) (by simp)
  have k1c := k1.cell
  have k2c := k2.cell
  have g3 := k3.lt
  obtain ⟨p1a, p1b⟩ := mul_bd (a := a.n) (b := b.d) ⟨by omega, by omega⟩ ⟨by omega, by omega⟩
  obtain ⟨p3a, p3b⟩ := mul_bd (a := a.d) (b := b.n) ⟨by omega, by omega⟩ ⟨by omega, by omega⟩
  have hnz : a.d * b.n ≠ 0 := Int.mul_ne_zero (by omega) hb0
  have HR := Lib.hid (fun W => ratio_any (a.n * b.d) (a.d * b.n) ⟨by omega, by omega⟩ ⟨by omega, by omega⟩ hnz W)
  have hE : divF a b = ratF (a.n * b.d) (a.d * b.n) := rfl
  rw [hE]
  clear hE
  generalize ratF (a.n * b.d) (a.d * b.n) = r at *
  go_enter Tryz.func144, Tryz.ntmps144
  go_wp2_with (go_at_call 137; (with_reducible refine (HR.out _).mono ?_); rintro e w1 ⟨rfl, h1⟩; have b4 := b3.trans (h1.mono b3.size); have k4 := k3.below h1 g3; have k4c := k4.cell; have k4f := k4.free; have b5 := (b4.setCell (p := ⟨w.heap.size + 2, 0, none⟩) (by simp) (.int .i64 r.n)).setCell (p := ⟨w.heap.size + 2, 1, none⟩) (by simp) (.int .i64 r.d); have r0 := ((k4.set 0 (.int .i64 r.n)).set 1 (.int .i64 r.d)).cell)
  refine bodyPost_ret (v := .agg #[.int .i64 r.n, .int .i64 r.d]) ?hres rfl ?hpost
  case hres => simp [results, Tryz.results144, go_sem, r0]
  case hpost => exact ⟨rfl, b5⟩

theorem ne0_frac (a : Frc) : someF a = (a.n != 0 || a.d != 1) := by
  obtain ⟨n, d⟩ := a
  unfold someF
  by_cases h1 : n = 0
  · by_cases h2 : d = 1
    · subst h1 h2; simp
    · simp [h1, h2]
  · simp [h1]
set_option maxRecDepth 100000 in
set_option maxHeartbeats 4000000 in
theorem isSome_any (a : Frc) (w : World) :
    Calls Tryz.prog 96 #[.agg #[.int .i64 a.n, .int .i64 a.d]] w fun e w' => e = .returned (.bool (someF a)) ∧ Below w.heap.size w w' := by
  have b1 := (Below.refl w.heap.size w).alloc (Nat.le_refl _) (.cells #[.int .i64 a.n, .int .i64 a.d] 129)
  have k1 := Blk.new w #[.int .i64 a.n, .int .i64 a.d] 129
  have HI := Lib.hid (fun W => integer_any 0 W)
  rw [ne0_frac]
  obtain ⟨n, d⟩ := a
  dsimp only at *
  go_enter Tryz.func96, Tryz.ntmps96
  go_upto_region 1 with fail
  generalize hW : w.alloc (.cells #[.int .i64 n, .int .i64 d] 129) = wr at *
  clear hW
  have aa := After.cells (B := wr.heap.size) k1.cell k1.lt
  clear k1
  by_cases h1 : n = 0
  · subst h1
    by_cases h2 : d = 1
    · subst h2
      refine wp_region_class_lit (C := fun w' => ∃ z : After wr.heap.size wr, w' = z.val) (by kernel_rfl) (by kernel_rfl) ⟨⟨_, (Below.refl _ _).drew⟩, rfl⟩ ?_
      repeat (go_big_quiet_step ((first
        | (go_at_call 109; with_reducible exact after_of (Nat.le_refl _) _ (HI.out _)))))
      refine wpQuiet_nil ?_
      intro wz0 hw'
      obtain ⟨⟨wz, hz⟩, hw''⟩ := hw'
      dsimp only at hw''
      subst hw''
      go_wp2_with fail
      go_ret
      exact ⟨ret_bool (by simp), b1.trans (hz.mono b1.size)⟩
    · have e2 : (d == 1) = false := by rw [beq_eq_false_iff_ne]; exact h2
      have e3 : (d != 1) = true := by simpa using h2
      refine wp_region_class_lit (C := fun w' => ∃ z : After wr.heap.size wr, w' = z.val) (by kernel_rfl) (by kernel_rfl) ⟨⟨_, (Below.refl _ _).drew⟩, rfl⟩ ?_
      repeat (go_big_quiet_step ((first
        | (go_at_call 109; with_reducible exact after_of (Nat.le_refl _) _ (HI.out _)))))
      refine wpQuiet_nil ?_
      intro wz0 hw'
      obtain ⟨⟨wz, hz⟩, hw''⟩ := hw'
      dsimp only at hw''
      subst hw''
      go_wp2_with fail
      go_ret
      exact ⟨ret_bool (by simp [h2]), b1.trans (hz.mono b1.size)⟩
  · have e2 : (n == 0) = false := by rw [beq_eq_false_iff_ne]; exact h1
    have e3 : (n != 0) = true := by simpa using h1
    refine wp_region_class_lit (C := fun w' => ∃ z : After wr.heap.size wr, w' = z.val) (by kernel_rfl) (by kernel_rfl) ⟨⟨_, (Below.refl _ _).drew⟩, rfl⟩ ?_
    repeat (go_big_quiet_step ((first
      | (go_at_call 109; with_reducible exact after_of (Nat.le_refl _) _ (HI.out _)))))
    refine wpQuiet_nil ?_
    intro wz0 hw'
    obtain ⟨⟨wz, hz⟩, hw''⟩ := hw'
    dsimp only at hw''
    subst hw''
    go_wp2_with fail
    go_ret
    exact ⟨ret_bool (by simp [h1]), b1.trans (hz.mono b1.size)⟩
end Go.Proofs.YtbkekdbabkncfaaGreat

namespace Go.Proofs.YtbkekdbabkncfaaGreat
open Go.RowKit Go.Maps

theorem frcInfo : (Tryz.prog.info? 129).map (fun i => (i.zero, i.size, i.bytes)) = some (some (.agg #[.int .i64 0, .int .i64 0]), 2, 16) := by kernel_rfl
theorem frc_new (w : World) (a b : Int) (t : TypeId) : ∀ j u, (frcC ⟨a, b⟩)[j]? = some u → (w.alloc (.cells #[.int .i64 a, .int .i64 b] t)).cell? ((⟨w.heap.size, 0, none⟩ : Addr).add j) = some u := fun j u hj => by
  rw [WideShapes.add_plain, Nat.zero_add]
  exact ((Blk.new w #[.int .i64 a, .int .i64 b] t).cell j).trans (by simpa [frcC] using hj)
/-- Fractions in new memory that may be written. -/
def FrcOwn (w : World) (l : List Frc) (e : Ending) (w' : World) : Prop := ∃ A' c', e = .returned (.slice A' l.length c') ∧ w'.ownsRow w.heap.size 129 2 (.slice A' l.length c') l.length (l.flatMap frcC) ∧ Below w.heap.size w w'
/-- Fractions in new memory. -/
def FrcPost (w : World) (l : List Frc) (e : Ending) (w' : World) : Prop := ∃ A' c', e = .returned (.slice A' l.length c') ∧ FlatP 2 frcC w' (fun b => w.heap.size ≤ b) A' l ∧ Below w.heap.size w w'

set_option maxRecDepth 100000 in
set_option maxHeartbeats 4000000 in
theorem digitsOwn_any (b n : Nat) (hb : b < 2 ^ 62) (hn : n ≤ 60) (w : World) :
    Calls Tryz.prog 106 #[.int .i64 b, .int .i64 n] w (FrcOwn w (digL b n)) := by
  obtain ⟨i4, hi4, hq0, hq1, hq2⟩ := info_parts frcInfo
  have HI := Lib.hid (fun q W => integer_any q W)
  have HBb := Lib.hid hb
  have HLen : Hid ((digL b n).length = n) := Lib.hid (by simp [digL])
  clear hb
  go_enter Tryz.func106, Tryz.ntmps106
  go_wp2_with fail
  have HI0 : Hid (w.ownsRow w.heap.size 129 2 (.slice none 0 0) 0 (((digL b n).take 0).flatMap frcC) ∧ Below w.heap.size w w) := Lib.hid ⟨World.ownsRow_nil _ _ _ _, Below.refl _ _⟩
  go_loopw [5, 8] (fun oo ii wr => ∃ (i : Nat) (A2 : Option Addr) (c2 : Nat), i ≤ n ∧ oo = .slice A2 i c2 ∧ ii = .int .i64 i ∧ Hid (wr.ownsRow w.heap.size 129 2 (.slice A2 i c2) i (((digL b n).take i).flatMap frcC) ∧ Below w.heap.size w wr)) (fun _ ii _ => n - (vInt ii).toNat)
  case atStart => exact ⟨0, none, 0, Nat.zero_le _, rfl, rfl, HI0⟩
  case round =>
    obtain ⟨i, A2, c2, hi, rfl, rfl, hR⟩ := hrel
    clear HI0
    obtain ⟨ho, hB⟩ := hR.out
    have HO := Lib.hid ho
    clear hR ho
    by_cases hlt : i < n
    · have hil : (i : Int) < (n : Int) := by omega
      have hd : bits BinOp.and IntKind.i64 ((b : Int) / 2 ^ i) 1 = ((b / 2 ^ i % 2 : Nat) : Int) := by
        have h1 : ((b : Int) / 2 ^ i) = ((b / 2 ^ i : Nat) : Int) := by push_cast; rfl
        rw [h1, and_one _ (Nat.lt_of_le_of_lt (Nat.div_le_self _ _) HBb.out)]
      have HT : Hid (((digL b n).take (i + 1)).flatMap frcC = ((digL b n).take i).flatMap frcC ++ frcC ⟨((b / 2 ^ i % 2 : Nat) : Int), 1⟩) := Lib.hid (by
        rw [List.take_succ_eq_append_getElem (by rw [HLen.out]; exact hlt), List.flatMap_append]
        congr 1
        simp [digL, intF])
      generalize ((b / 2 ^ i % 2 : Nat) : Int) = q at *
      have hBs := hB.size
      go_wp2_with (first
        | (go_at_call 109; (with_reducible refine (HI.out q _).mono ?_); rintro e w2 ⟨rfl, h2⟩; have b2 := hB.trans (h2.mono hB.size); have b2s := b2.size; have HO2 := Lib.hid ((own_below HO.out h2).alloc (.cells #[.int .i64 q, .int .i64 1] 129)); have HNw := Lib.hid (frc_new w2 q 1 129))
        | (at_builtin; refine wpList_append_own_at _ rfl _ _ 112 rfl w.heap.size 129 i4 _ 2 16 Tryz.underlying112 hi4 hq0 hq1 hq2 rfl (by decide) _ _ _ rfl HO2.out ⟨w2.heap.size, 0, none⟩ 1 1 (frcC ⟨q, 1⟩) rfl rfl HNw.out (frcC_one _) (by unfold maxLen; omega) (by omega) (by simp; omega) ?_; intro v' w4 hown4 hg4 _ hat4; obtain ⟨A3, c3, rfl⟩ := own_slice hown4; have hB4 := (b2.alloc b2.size (.cells #[.int .i64 q, .int .i64 1] 129)).grown hg4 (by simp; omega) (fun k e => (HO2.out.lt k e).1)))
      go_roundw
      case rel => exact ⟨i + 1, A3, c3, by omega, rfl, by go_num, Lib.hid ⟨by rw [HT.out]; exact hown4, hB4⟩⟩
      case measure => simp [vInt]; omega
    · have hil : ¬ (i : Int) < (n : Int) := by omega
      obtain rfl : i = n := by omega
      have HE : Hid (wr.ownsRow w.heap.size 129 2 (.slice A2 i c2) i ((digL b i).flatMap frcC)) := Lib.hid (by have := HO.out; rwa [List.take_of_length_le (by rw [HLen.out]; exact Nat.le_refl _)] at this)
      clear HO
      go_wp2_with fail
      go_ret
      exact ⟨A2, c2, by rw [HLen.out]; rfl, by rw [HLen.out]; exact HE.out, hB⟩
theorem digits_any (b n : Nat) (hb : b < 2 ^ 62) (hn : n ≤ 60) (w : World) :
    Calls Tryz.prog 106 #[.int .i64 b, .int .i64 n] w (FrcPost w (digL b n)) :=
  (digitsOwn_any b n hb hn w).mono fun e w' ⟨A, c, h1, h2, h3⟩ => ⟨A, c, h1, FlatP.of_own (c := c) frcC_len (by decide) h2 (fun b h _ _ => h), h3⟩
set_option maxRecDepth 100000 in
set_option maxHeartbeats 4000000 in
theorem divided_any (l : List Frc) (A : Option Addr) (c : Nat) (x : Frc) (w : World) (h : FrcAt w w.heap.size A l) (hl : l.length ≤ 1000) (hb : divB l x = true) :
    Calls Tryz.prog 125 #[.slice A l.length c, .agg #[.int .i64 x.n, .int .i64 x.d]] w (FrcPost w (divL l x)) := by
  obtain ⟨i4, hi4, hq0, hq1, hq2⟩ := info_parts frcInfo
  have hbb : (∀ y ∈ l, bdF y = true) ∧ bdF x = true ∧ x.n ≠ 0 := by
    unfold divB at hb
    simp only [Bool.and_eq_true, List.all_eq_true, decide_eq_true_eq] at hb
    exact ⟨hb.1.1, hb.1.2, hb.2⟩
  have b1 := (Below.refl w.heap.size w).alloc (Nat.le_refl _) (.cells #[.int .i64 x.n, .int .i64 x.d] 129)
  have k1 := Blk.new w #[.int .i64 x.n, .int .i64 x.d] 129
  have HD := Lib.hid (fun y (hy : y ∈ l) W => byF_any y x (hbb.1 y hy) hbb.2.1 hbb.2.2 W)
  have HLen : Hid ((divL l x).length = l.length) := Lib.hid (by simp [divL])
  have HH := Lib.hid (h.later b1)
  have HB1 := Lib.hid b1
  clear hb hbb h b1
  go_enter Tryz.func125, Tryz.ntmps125
  go_wp2_with fail
  generalize hW1 : w.alloc (.cells #[.int .i64 x.n, .int .i64 x.d] 129) = W1 at *
  clear hW1
  have g1 := k1.lt
  have HI0 : Hid (W1.ownsRow W1.heap.size 129 2 (.slice none 0 0) 0 (((divL l x).take 0).flatMap frcC) ∧ Below W1.heap.size W1 W1) := Lib.hid ⟨World.ownsRow_nil _ _ _ _, Below.refl _ _⟩
  go_loopw [5, 10] (fun oo ii wr => ∃ (i : Nat) (A2 : Option Addr) (c2 : Nat), i ≤ l.length ∧ oo = .slice A2 i c2 ∧ ii = .int .i64 i ∧ Hid (wr.ownsRow W1.heap.size 129 2 (.slice A2 i c2) i (((divL l x).take i).flatMap frcC) ∧ Below W1.heap.size W1 wr)) (fun _ ii _ => l.length - (vInt ii).toNat)
  case atStart => exact ⟨0, none, 0, Nat.zero_le _, rfl, rfl, HI0⟩
  case round =>
    obtain ⟨i, A2, c2, hi, rfl, rfl, hR⟩ := hrel
    clear HI0
    obtain ⟨ho, hB⟩ := hR.out
    have HO := Lib.hid ho
    clear hR ho
    by_cases hlt : i < l.length
    · have hil : (i : Int) < (l.length : Int) := by omega
      obtain ⟨b, off, rfl, hbb, c0, c1⟩ := frc_at (HH.out.later hB) hlt
      have HDi := Lib.hid (HD.out l[i] (List.getElem_mem hlt))
      have HT : Hid (((divL l x).take (i + 1)).flatMap frcC = ((divL l x).take i).flatMap frcC ++ frcC ⟨(divF l[i] x).n, (divF l[i] x).d⟩) := Lib.hid (by
        rw [List.take_succ_eq_append_getElem (by rw [HLen.out]; exact hlt), List.flatMap_append]
        congr 1
        simp [divL])
      generalize divF l[i] x = r at *
      generalize l[i] = y at *
      obtain ⟨rn, rd⟩ := r
      dsimp only at *
      have kr := k1.below hB g1
      have krc := kr.cell
      have krl := kr.lt
      have ky := (Blk.new wr #[.int .i64 y.n, .int .i64 y.d] 129).cell
      have ba := (Below.refl wr.heap.size wr).alloc (Nat.le_refl _) (.cells #[.int .i64 y.n, .int .i64 y.d] 129)
      have hBa := hB.trans (ba.mono hB.size)
      have HOa := Lib.hid (own_below HO.out ba)
      have hBs := hB.size
      clear kr
      go_wp2_with (first
        | (go_at_call 144; (with_reducible refine (HDi.out _).mono ?_); rintro e w2 ⟨rfl, h2⟩; have b2 := hBa.trans (h2.mono hBa.size); have b2s := b2.size; have HO2 := Lib.hid ((own_below HOa.out h2).alloc (.cells #[.int .i64 rn, .int .i64 rd] 129)); have HNw := Lib.hid (frc_new w2 rn rd 129))
        | (at_builtin; refine wpList_append_own_at _ rfl _ _ 112 rfl W1.heap.size 129 i4 _ 2 16 Tryz.underlying112 hi4 hq0 hq1 hq2 rfl (by decide) _ _ _ rfl HO2.out ⟨w2.heap.size, 0, none⟩ 1 1 (frcC ⟨rn, rd⟩) rfl rfl HNw.out (frcC_one _) (by unfold maxLen; omega) (by omega) (by simp; omega) ?_; intro v' w4 hown4 hg4 _ hat4; obtain ⟨A3, c3, rfl⟩ := own_slice hown4; have hB4 := (b2.alloc b2.size (.cells #[.int .i64 rn, .int .i64 rd] 129)).grown hg4 (by simp; omega) (fun k e => (HO2.out.lt k e).1)))
      go_roundw
      case rel => exact ⟨i + 1, A3, c3, by omega, rfl, by go_num, Lib.hid ⟨by rw [HT.out]; exact hown4, hB4⟩⟩
      case measure => simp [vInt]; omega
    · have hil : ¬ (i : Int) < (l.length : Int) := by omega
      obtain rfl : i = l.length := by omega
      have HE : Hid (FlatP 2 frcC wr (fun b => w.heap.size ≤ b) A2 (divL l x)) := Lib.hid ((FlatP.of_own (c := c2) frcC_len (by decide) (by rw [HLen.out]; have := HO.out; rwa [List.take_of_length_le (by rw [HLen.out]; exact Nat.le_refl _)] at this) (fun b h1 _ _ => h1)).imp (fun b _ h => Nat.le_trans HB1.out.size h))
      clear HO
      go_wp2_with fail
      go_ret
      exact ⟨A2, c2, by rw [HLen.out]; rfl, HE.out, HB1.out.trans (hB.mono HB1.out.size)⟩
set_option maxRecDepth 100000 in
set_option maxHeartbeats 4000000 in
theorem findF_any (l : List Frc) (A : Option Addr) (c k : Nat) (w : World) (h : FrcAt w w.heap.size A l) (hl : l.length ≤ 1000) (_hk : k ≤ 2000) :
    Calls Tryz.prog 95 #[.slice A l.length c, .int .i64 k, .func (.func 96) #[] #[]] w fun e w' => e = .returned (.tuple #[.int .i64 ((fndF l k).getD 0 : Nat), .bool (fndF l k).isSome]) ∧ Below w.heap.size w w' := by
  have HS := Lib.hid (fun a W => isSome_any a W)
  have HH := Lib.hid h
  clear h
  go_enter Tryz.func95, Tryz.ntmps95
  go_wp2_with fail
  go_loopw [8] (fun ii wr => ∃ i : Nat, k ≤ i ∧ (i ≤ l.length ∨ i = k) ∧ ii = .int .i64 i ∧ Hid ((∀ j, (hj : j < l.length) → k ≤ j → j < i → someF l[j] = false) ∧ Below w.heap.size w wr)) (fun ii _ => l.length - (vInt ii).toNat)
  case atStart => exact ⟨k, Nat.le_refl _, .inr rfl, rfl, Lib.hid ⟨fun j _ h1 h2 => by omega, Below.refl _ _⟩⟩
  case round =>
    obtain ⟨i, hki, hi, rfl, hR⟩ := hrel
    obtain ⟨hall, hB⟩ := hR.out
    clear hR
    by_cases hlt : i < l.length
    · have hil : (i : Int) < (l.length : Int) := by omega
      obtain ⟨b, off, rfl, hbb, c0, c1⟩ := frc_at (HH.out.later hB) hlt
      have HF : Hid (someF l[i] = true → fndF l k = some i) := Lib.hid (fun e => fnd_some hlt hki e hall)
      have HN : Hid (someF l[i] = false → ∀ j, (hj : j < l.length) → k ≤ j → j < i + 1 → someF l[j] = false) := Lib.hid (fun e j hj h1 h2 => by
        by_cases hji : j = i
        · subst hji; exact e
        · exact hall j hj h1 (by omega))
      have HSi := Lib.hid (HS.out l[i] wr)
      generalize hp : someF l[i] = p at *
      clear hp hall
      generalize l[i] = y at *
      cases p with
      | true =>
        have HR := Lib.hid (HF.out rfl)
        clear HF HN
        go_wp2_with (go_at_call 96; (with_reducible refine (HSi.out).mono ?_); rintro e w2 ⟨rfl, h2⟩)
        show bodyPost _ _ _ _ _ _
        exact bodyPost_ret (v := .tuple #[.int .i64 i, .bool true]) (by simp [results, Tryz.results95, go_sem]) rfl ⟨by rw [HR.out]; rfl, hB.trans (h2.mono hB.size)⟩
      | false =>
        have HR := Lib.hid (HN.out rfl)
        clear HF HN
        go_wp2_with (go_at_call 96; (with_reducible refine (HSi.out).mono ?_); rintro e w2 ⟨rfl, h2⟩)
        go_roundw
        case rel => exact ⟨i + 1, by omega, .inl (by omega), by go_num, Lib.hid ⟨HR.out, hB.trans (h2.mono hB.size)⟩⟩
        case measure => simp [vInt]; omega
    · have hil : ¬ (i : Int) < (l.length : Int) := by omega
      have HR : Hid (fndF l k = none) := Lib.hid (fnd_none (fun j hj h1 => hall j hj h1 (by omega)))
      clear hall
      go_wp2_with fail
      show bodyPost _ _ _ _ _ _
      exact bodyPost_ret (v := .tuple #[.int .i64 0, .bool false]) (by simp [results, Tryz.results95, go_sem]) rfl ⟨by rw [HR.out]; rfl, hB⟩
end Go.Proofs.YtbkekdbabkncfaaGreat
