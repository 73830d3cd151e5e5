/- Spans by the program; the greater of two. Written by a program. -/
import Derived.Test.YtpahcbhikmfamaaGreatSPrg10
import Derived.Test.YtpahcbhikmfamaaGreatSBDat

namespace Go.Proofs.YtpahcbhikmfamaaGreat
open Go.RowKit Go.Maps

def spnC (x : Spn) : List Value := [.int .i64 x.lo, .int .i64 x.hi]
theorem spnC_len (x : Spn) : (spnC x).length = 2 := rfl
abbrev SpnsAt (w : World) (B : Nat) (A : Option Addr) (l : List Spn) : Prop := Flat 2 spnC w B A l
theorem spns_at {w : World} {B : Nat} {A : Option Addr} {l : List Spn} (h : SpnsAt w B A l) {k : Nat} (hk : k < l.length) : ∃ b off, A = some ⟨b, off, none⟩ ∧ b < B ∧ w.cell? ⟨b, off + k * 2, none⟩ = some (.int .i64 l[k].lo) ∧ w.cell? ⟨b, off + k * 2 + 1, none⟩ = some (.int .i64 l[k].hi) := by
  obtain ⟨b, off, e, h1, h2⟩ := h k hk
  exact ⟨b, off, e, h1, h2 0 (by omega), h2 1 (by omega)⟩
set_option maxHeartbeats 400000 in
theorem spnV1_any (i : Int) (x : Spn) (w : World) :
    Calls Tryz.prog 35 #[.int .i64 i, .agg #[.int .i64 x.lo, .int .i64 x.hi]] w fun e w' => e = .returned (.bool (spnB x)) ∧ Below w.heap.size w w' := by
  have H := Lib.hid (fun W => withinP_any x.lo 0 x.hi W)
  have b1 := (Below.refl w.heap.size w).alloc (Nat.le_refl _) (.cells #[.int .i64 x.lo, .int .i64 x.hi] 54)
  have k1c := (Blk.new w #[.int .i64 x.lo, .int .i64 x.hi] 54).cell
  have hv : spnB x = (inN x.lo 0 x.hi && decide (x.hi ≤ 1000000)) := by
    unfold spnB inN
    by_cases h1 : (0 : Int) ≤ x.lo <;> by_cases h2 : x.lo ≤ x.hi <;> by_cases h3 : x.hi ≤ 1000000 <;> simp [h1, h2, h3] <;> omega
  rw [hv]
  cases hb : inN x.lo 0 x.hi with
  | true =>
    rw [hb] at H
    go_enter Tryz.func35, Tryz.ntmps35
    go_wp2_with (go_at_call 36; (with_reducible refine (H.out _).mono ?_); rintro e w1 ⟨rfl, rfl⟩)
    all_goals go_ret
    all_goals exact ⟨by simp, b1⟩
  | false =>
    rw [hb] at H
    go_enter Tryz.func35, Tryz.ntmps35
    go_wp2_with (go_at_call 36; (with_reducible refine (H.out _).mono ?_); rintro e w1 ⟨rfl, rfl⟩)
    all_goals go_ret
    all_goals exact ⟨by simp, b1⟩
set_option maxRecDepth 100000 in
set_option maxHeartbeats 4000000 in
theorem allSpn_any (l : List Spn) (A : Option Addr) (a : Nat) (P : Nat → Bool) (w : World) (h : Flat 2 spnC w w.heap.size A l) (hl : l.length ≤ 1000)
    (HG : Hid (∀ i (_ : i < l.length) W, Below w.heap.size w W → Calls Tryz.prog 35 #[.int .i64 i, .agg #[.int .i64 l[i].lo, .int .i64 l[i].hi]] W fun e w' => e = .returned (.bool (P i)) ∧ Below W.heap.size W w')) :
    Calls Tryz.prog 34 #[.slice A l.length a, .func (.func 35) #[] #[]] w fun e w' => e = .returned (.bool (rangeB l.length P)) ∧ Below w.heap.size w w' := by
  have HE : Hid (rangeB l.length P = rangeB l.length P) := Lib.hid rfl
  generalize hV : rangeB l.length P = V at *
  have HV := Lib.hid hV
  clear hV HE
  go_enter Tryz.func34, Tryz.ntmps34
  go_wp2_with fail
  go_loopw [9] (fun ii wr => ∃ i : Nat, i ≤ l.length ∧ ii = .int .i64 i ∧ Hid ((∀ j, j < i → P j = true) ∧ Below w.heap.size w wr)) (fun ii _ => l.length - (vInt ii).toNat)
  case atStart => exact ⟨0, Nat.zero_le _, rfl, Lib.hid ⟨fun j hj => by omega, Below.refl _ _⟩⟩
  case round =>
    obtain ⟨i, hi, rfl, hR⟩ := hrel
    obtain ⟨hS, hB⟩ := hR.out
    by_cases hlt : i < l.length
    · have hil : (i : Int) < (l.length : Int) := by omega
      obtain ⟨b, off, rfl, hb, c0, c1⟩ := spns_at (h.later hB) hlt
      have HGi := Lib.hid (HG.out i hlt (wr.alloc (.cells #[.int .i64 l[i].lo, .int .i64 l[i].hi] 54)) (hB.alloc hB.size (.cells #[.int .i64 l[i].lo, .int .i64 l[i].hi] 54)))
      have hB1 : Below w.heap.size w (wr.alloc (.cells #[.int .i64 l[i].lo, .int .i64 l[i].hi] 54)) := (hB.alloc hB.size (.cells #[.int .i64 l[i].lo, .int .i64 l[i].hi] 54))
      cases hv : P i with
      | false =>
        have Hv : Hid (V = false) := Lib.hid (by rw [← HV.out]; exact rangeB_stop hlt hv)
        rw [hv] at HGi
        clear hS hR HG hv h
        generalize l[i] = y at *
        have knc := (Blk.new wr #[.int .i64 y.lo, .int .i64 y.hi] 54).cell
        go_wp2_with (go_at_call 35; (with_reducible refine (HGi.out).mono ?_); rintro e w5 ⟨rfl, h5⟩)
        go_ret
        exact ⟨by rw [Hv.out]; rfl, hB1.trans (h5.mono hB1.size)⟩
      | true =>
        have HJ : Hid (∀ j, j < i + 1 → P j = true) := Lib.hid (fun j hj => by
          rcases Nat.lt_or_ge j i with hj2 | hj2
          · exact hS j hj2
          · rw [show j = i by omega]; exact hv)
        rw [hv] at HGi
        clear hS hR hv
        generalize l[i] = y at *
        have knc := (Blk.new wr #[.int .i64 y.lo, .int .i64 y.hi] 54).cell
        go_wp2_with (go_at_call 35; (with_reducible refine (HGi.out).mono ?_); rintro e w5 ⟨rfl, h5⟩)
        go_roundw
        case rel => exact ⟨i + 1, by omega, by go_num, Lib.hid ⟨HJ.out, hB1.trans (h5.mono hB1.size)⟩⟩
        case measure => simp [vInt]; omega
    · have hil : ¬ (i : Int) < (l.length : Int) := by omega
      obtain rfl : i = l.length := by omega
      have Hv : Hid (V = true) := Lib.hid (by rw [← HV.out]; exact rangeB_iff.2 hS)
      clear hS hR
      go_wp2_with fail
      go_ret
      exact ⟨by rw [Hv.out]; rfl, hB⟩


set_option maxHeartbeats 1000000 in
theorem spansV_any (traits need : Int) (C T S : Option Addr) (cl c tl t n s : Nat) (x : List Spn) (A : Option Addr) (a : Nat) (w : World) (h : SpnsAt w w.heap.size A x) (hl : x.length ≤ 10) :
    Calls Tryz.prog 23 #[.agg #[.int .i64 traits, .slice C cl c, .slice T tl t, .int .i64 need, .slice S n s], .slice A x.length a] w fun e w' => e = .returned (.bool (spnsB traits x)) ∧ Below w.heap.size w w' := by
  have b1 := (Below.refl w.heap.size w).alloc (Nat.le_refl _) (.cells #[.int .i64 traits, .slice C cl c, .slice T tl t, .int .i64 need, .slice S n s] 66)
  have k1c := (Blk.new w #[.int .i64 traits, .slice C cl c, .slice T tl t, .int .i64 need, .slice S n s] 66).cell
  have h1 := h.later b1
  have H := Lib.hid (fun W (hb : Below w.heap.size w W) => allSpn_any x A a (fun i => spnB (x.getD i default)) W (h.later hb) (by omega) (Lib.hid (fun i hi W _ => by rw [getD_lt x default hi]; exact spnV1_any i x[i] W)))
  rw [range_all x default spnB] at H
  by_cases ht : (x.length : Int) = traits
  · have e1 : ((x.length : Int) == traits) = true := by simpa using ht
    have Hv : Hid (x.all spnB = spnsB traits x) := Lib.hid (by unfold spnsB; rw [decide_eq_true ht]; simp)
    rw [Hv.out] at H
    clear ht Hv h h1
    go_enter Tryz.func23, Tryz.ntmps23
    go_wp2_with (go_at_call 34; (with_reducible refine (H.out _ (by first | exact b1 | exact Below.refl _ _)).mono ?_); rintro e w5 ⟨rfl, h5⟩)
    go_ret
    exact ⟨rfl, b1.trans (h5.mono b1.size)⟩
  · have e1 : ((x.length : Int) == traits) = false := by simpa using ht
    have Hv : Hid (spnsB traits x = false) := Lib.hid (by unfold spnsB; rw [decide_eq_false ht]; rfl)
    clear ht h h1 H
    go_enter Tryz.func23, Tryz.ntmps23
    go_wp2_with fail
    go_ret
    exact ⟨by rw [Hv.out]; rfl, b1⟩
/-- The greater one of two numbers, the second in new memory. -/
theorem greatest_any (n z : Int) (g c : Nat) (w : World) (h : w.cell? ⟨g, 0, none⟩ = some (.int .i64 z)) (hg : g < w.heap.size) :
    Calls Tryz.prog 38 #[.int .i64 n, .slice (some ⟨g, 0, none⟩) 1 c] w fun e w' => e = .returned (.int .i64 (max n z)) ∧ w = w' := by
  go_enter Tryz.func38, Tryz.ntmps38
  go_wp2_with fail
  go_loopw [0, 9] (fun nn ii wr => wr = w ∧ ((ii = .int .i64 0 ∧ nn = .int .i64 n) ∨ (ii = .int .i64 1 ∧ nn = .int .i64 (max n z)))) (fun _ ii _ => 1 - (vInt ii).toNat)
  case atStart => exact ⟨rfl, .inl ⟨rfl, rfl⟩⟩
  case round =>
    obtain ⟨rfl, ⟨rfl, rfl⟩ | ⟨rfl, rfl⟩⟩ := hrel
    · by_cases hz : n < z
      · have hm : max n z = z := by omega
        rw [hm]
        go_wp2_with fail
        go_roundw
        case rel => exact ⟨trivial, .inr ⟨by go_num, rfl⟩⟩
        case measure => simp [vInt]
      · have hm : max n z = n := by omega
        rw [hm]
        go_wp2_with fail
        go_roundw
        case rel => exact ⟨trivial, .inr ⟨by go_num, rfl⟩⟩
        case measure => simp [vInt]
    · go_wp2_with fail
      go_ret
      exact ⟨rfl, rfl⟩
end Go.Proofs.YtpahcbhikmfamaaGreat
