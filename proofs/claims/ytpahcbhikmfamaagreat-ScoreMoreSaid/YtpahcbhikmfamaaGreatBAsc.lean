/- Numbers in order, each only once, by the program. -/
import Derived.Test.YtpahcbhikmfamaaGreatBIter
import Derived.Test.YtpahcbhikmfamaaGreatBShelf
import Derived.Test.YtpahcbhikmfamaaGreatRExSP2
import Derived.Test.YtpahcbhikmfamaaGreatWQ1
import Derived.Sort.OwnSorted

namespace Go.Proofs.YtpahcbhikmfamaaGreat
open Go.RowKit Go.Shelf

theorem sortI_none (p : Option Addr) (c : Nat) (W : World) : Calls Tryz.prog 90 #[.slice p 0 c] W fun e w' => e = .returned (.tuple #[]) ∧ w' = W := AnyM.slices_Sort_int_none Tryz.sortInt p c W
theorem compactI_none (p : Option Addr) (c : Nat) (W : World) : Calls Tryz.prog 76 #[.slice p 0 c] W fun e w' => e = .returned (.slice p 0 c) ∧ w' = W := AnyG.slices_Compact_int_empty Tryz.compactInt p c W
theorem holds_of_ownI {w : World} {base g n c : Nat} {l : List Int} (h : w.ownsRow base 3 1 (.slice (some ⟨g, 0, none⟩) n c) n (l.map (Value.int .i64))) : Sort.Holds (Value.int .i64) w g 0 l.toArray := by
  have hn : n = l.length := by have := h.1; simp at this; omega
  subst hn
  intro t ht
  have ht' : t < l.length := by simpa using ht
  refine ⟨?_, by rw [Nat.zero_add]; exact h.frozenAt t⟩
  rw [Nat.zero_add, h.cellAt t (by omega)]
  simp [ht']
theorem grownBy_row {w : World} {g q : Nat} (d : Array Int) : w.grownBy (Sort.putRow (Value.int .i64) (Sort.ahead w q) g 0 d) (some g) := by
  refine ⟨rfl, rfl, rfl, by simp [Sort.putRow, Sort.mapBlock, Sort.ahead], fun j hj hne => ?_⟩
  have : g ≠ j := fun e => hne (by rw [e])
  simp [Sort.putRow, Sort.mapBlock, Sort.ahead, Array.getElem?_modify, this]
theorem grownBy_rowGrow {w : World} {g q : Nat} {os : Array Obj} (d : Array Int) : w.grownBy (Sort.grow (Sort.putRow (Value.int .i64) (Sort.ahead w q) g 0 d) os) (some g) := by
  refine ⟨rfl, rfl, rfl, by simp [Sort.putRow, Sort.mapBlock, Sort.ahead, Sort.grow], fun j hj hne => ?_⟩
  rw [Sort.heap_grow_old _ _ (by simpa [Sort.putRow, Sort.mapBlock, Sort.ahead] using hj)]
  have : g ≠ j := fun e => hne (by rw [e])
  simp [Sort.putRow, Sort.mapBlock, Sort.ahead, Array.getElem?_modify, this]
theorem sortI_some (g cap : Nat) (zs : List Int) (W : World) (hg : g < W.heap.size) (hH : Sort.Holds (Value.int .i64) W g 0 zs.toArray) (hz : zs.length ≤ 1000) :
    Calls Tryz.prog 90 #[.slice (some ⟨g, 0, none⟩) zs.length cap] W fun e w' =>
      e = .returned (.tuple #[]) ∧ Sort.Holds (Value.int .i64) w' g 0 (zs.mergeSort fun x y => decide (x ≤ y)).toArray ∧ W.grownBy w' (some g) :=
  (AnyM.slices_Sort_int Tryz.sortInt g 0 cap zs W hH hg (by omega)).mono fun e w' ⟨he, n, os, hw⟩ => by
    subst hw
    exact ⟨he, Sort.holds_grow _ _ _ _ _ _ (by simpa [Sort.putRow, Sort.mapBlock, Sort.ahead] using hg) (Sort.holds_putRow _ _ _ _ zs.toArray _ hH (by simp)), grownBy_rowGrow _⟩
theorem compactI_some (g cap : Nat) (zs : List Int) (W : World) (hg : g < W.heap.size) (hH : Sort.Holds (Value.int .i64) W g 0 zs.toArray) (hz : zs.length ≤ 1000) (hcap : zs.length ≤ cap) :
    Calls Tryz.prog 76 #[.slice (some ⟨g, 0, none⟩) zs.length cap] W fun e w' =>
      e = .returned (.slice (some ⟨g, 0, none⟩) (Lib.compact zs).length cap) ∧ Flat 1 intC w' w'.heap.size (some ⟨g, 0, none⟩) (Lib.compact zs) ∧ W.grownBy w' (some g) :=
  (AnyG.slices_Compact_int Tryz.compactInt g 0 cap zs W hH (by omega) hcap).mono fun e w' ⟨he, q, hw⟩ => by
    subst hw
    have hle : (Lib.compact zs).length ≤ zs.length := by
      unfold Lib.compact Lib.compactUpTo
      rw [List.length_map]
      exact Nat.le_trans (List.length_filter_le _ _) (by rw [List.length_range]; exact Nat.le_refl _)
    refine ⟨he, fun k hk => ?_, grownBy_row _⟩
    have hH2 := Sort.holds_putRow (Value.int .i64) (Sort.ahead W q) g 0 zs.toArray (Lib.compact zs ++ List.replicate (zs.length - (Lib.compact zs).length) 0).toArray hH (by simp; omega)
    refine ⟨g, 0, rfl, Nat.lt_of_lt_of_le hg (grownBy_row (w := W) (g := g) (q := q) _).size, fun i hi => ?_⟩
    obtain rfl : i = 0 := by omega
    have := (hH2 k (by simp; omega)).1
    rw [Nat.mul_one, Nat.add_zero, this]
    simp [intC]
    rw [List.getElem?_append_left hk]
    simp [hk]
def SortedS (w : World) (zs : List Int) (e : Ending) (w' : World) : Prop :=
  ∃ A' c', e = .returned (.slice A' zs.length c') ∧ zs.length ≤ c' ∧ (zs = [] ∨ ∃ g, A' = some ⟨g, 0, none⟩ ∧ w.heap.size ≤ g ∧ g < w'.heap.size ∧ Sort.Holds (Value.int .i64) w' g 0 (zs.mergeSort fun x y => decide (x ≤ y)).toArray) ∧ Below w.heap.size w w'
set_option maxHeartbeats 1000000 in
theorem sorted_any (Bs : Nat) (A : Option Addr) (cap : Nat) (zs : List Int) (hz : zs.length ≤ 1000) (w : World) (hBs : Bs < w.heap.size) (hc : w.cell? ⟨Bs, 0, none⟩ = some (.slice A zs.length cap)) (hS : Ints w w.heap.size A zs) :
    Calls Tryz.prog 77 #[.func (.func 91) #[] #[.pointer (some ⟨Bs, 0, none⟩)]] w (SortedS w zs) := by
  have HC := Lib.hid (collectI_any Bs w.heap.size A cap zs hz w hBs (Nat.le_refl _) hc hS)
  clear hc hS
  go_enter Tryz.func77, Tryz.ntmps77
  go_wp2_with (go_at_call 89; with_reducible refine (HC.out).mono ?_; rintro e w1 ⟨v, rfl, hown, hb1⟩)
  have hz1 := hb1.size
  rcases hown.2 with ⟨rfl, h0⟩ | ⟨g, cap1, cur, rfl, hbase, hb, h1, h2, h3, h4⟩
  · have hnil : zs = [] := List.eq_nil_of_length_eq_zero h0
    subst hnil
    have HS := Lib.hid (sortI_none none 0 w1)
    clear hown
    go_wp2_with (go_at_call 90; with_reducible refine (HS.out).mono ?_; rintro e w2 ⟨rfl, rfl⟩)
    go_ret
    exact ⟨none, 0, rfl, Nat.le_refl _, .inl rfl, hb1⟩
  · have hg : g < w1.heap.size := (Array.getElem?_eq_some_iff.1 hb).1
    have HS := Lib.hid (sortI_some g cap1 zs w1 hg (holds_of_ownI hown) hz)
    clear hown hb h4 h3
    go_wp2_with (go_at_call 90; with_reducible refine (HS.out).mono ?_; rintro e w2 ⟨rfl, hP, hg2⟩)
    go_ret
    exact ⟨some ⟨g, 0, none⟩, cap1, rfl, h1, .inr ⟨g, rfl, hbase, Nat.lt_of_lt_of_le hg hg2.size, hP⟩, hb1.grown hg2 hz1 (fun k e => by cases e; exact hbase)⟩
theorem ints_of (w : World) (A : Option Addr) (l : List Int) (h : IntsAt w w.heap.size A l) : Ints w w.heap.size A l := fun k hk => by
  obtain ⟨b, off, e, h1, h2⟩ := ints_at h hk
  exact ⟨b, off, e, h1, h2⟩
def AscS (w : World) (zs : List Int) (e : Ending) (w' : World) : Prop :=
  ∃ A' c', e = .returned (.slice A' (ordI zs).length c') ∧ FlatP 1 intC w' (fun b => w.heap.size ≤ b) A' (ordI zs) ∧ Below w.heap.size w w'
set_option maxHeartbeats 1000000 in
theorem ascending_any (A : Option Addr) (c : Nat) (zs : List Int) (hz : zs.length ≤ 1000) (w : World) (h : IntsAt w w.heap.size A zs) :
    Calls Tryz.prog 63 #[.slice A zs.length c] w fun e w' => ∃ A' c', e = .returned (.slice A' (ordI zs).length c') ∧ FlatP 1 intC w' (fun b => w.heap.size ≤ b) A' (ordI zs) ∧ Below w.heap.size w w' := by
  refine Calls.mono (R := AscS w zs) ?_ (fun _ _ h => h)
  have b1 := (Below.refl w.heap.size w).alloc (Nat.le_refl _) (.cells #[.slice A zs.length c] 26)
  have k1 := Blk.new w #[.slice A zs.length c] 26
  have HV := Lib.hid (callsIn_wide (n := 3) |>.1 (valuesI_in Fence.wide 3 trivial rfl A zs.length c w))
  have HS := Lib.hid (sorted_any w.heap.size A c zs hz (w.alloc (.cells #[.slice A zs.length c] 26)) k1.lt (k1.cell 0) (ints_of _ _ _ (h.later b1)))
  have hord := compact_sorted zs
  have hlen : (zs.mergeSort fun x y => decide (x ≤ y)).length = zs.length := List.length_mergeSort _
  clear h k1
  go_enter Tryz.func63, Tryz.ntmps63
  go_wp2_with (first
    | (go_at_call 78; (with_reducible refine (HV.out).mono ?_); rintro e w1 ⟨rfl, rfl⟩)
    | (go_at_call 77; (with_reducible refine (HS.out).mono ?_); rintro e w2 ⟨A2, c2, rfl, hcap, hH, hb2⟩))
  have hB := b1.trans (hb2.mono b1.size)
  rcases hH with rfl | ⟨g, rfl, hg1, hg2, hH⟩
  · have HC := Lib.hid (compactI_none A2 c2 w2)
    simp only [List.length_nil] at *
    go_wp2_with (go_at_call 76; (with_reducible refine (HC.out).mono ?_); rintro e w3 ⟨rfl, rfl⟩)
    go_ret
    exact ⟨A2, c2, rfl, fun k hk => by simp [ordI] at hk, hB⟩
  · have HC := Lib.hid (compactI_some g c2 (zs.mergeSort fun x y => decide (x ≤ y)) w2 hg2 hH (by omega) (by omega))
    rw [hord, hlen] at HC
    clear hH hord hlen
    go_wp2_with (go_at_call 76; (with_reducible refine (HC.out).mono ?_); rintro e w3 ⟨rfl, hf, hg3⟩)
    refine bodyPost_ret (v := .slice (some ⟨g, 0, none⟩) (ordI zs).length c2) (by simp [results, Tryz.results63, go_sem]) rfl ⟨some ⟨g, 0, none⟩, c2, rfl, fun k hk => ?_, hB.grown hg3 hB.size (fun k e => by cases e; simp at hg1; omega)⟩
    obtain ⟨b, off, e, h1, h2⟩ := hf k hk
    cases e
    exact ⟨g, 0, rfl, h1, by simp at hg1; omega, h2⟩
end Go.Proofs.YtpahcbhikmfamaaGreat
