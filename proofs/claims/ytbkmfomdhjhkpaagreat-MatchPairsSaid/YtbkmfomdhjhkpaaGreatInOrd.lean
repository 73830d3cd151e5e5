/- Persons put in order: slices.SortedFunc at persons, and the program's inOrder. -/
import Derived.Test.YtbkmfomdhjhkpaaGreatIterP
namespace Go.Proofs.YtbkmfomdhjhkpaaGreat
open Go.RowKit Go.Shelf

theorem sortFuncP_none (fv : Value) (W : World) : Calls Tryz.prog 96 #[.slice none 0 0, fv] W fun e w' => e = .returned (.tuple #[]) ∧ w' = W :=
  AnyF.slices_SortFunc_none Tryz.sortPer none 0 fv W

theorem personCmp_lays (kb g n : Nat) (W : World) (hk : W.cell? ⟨kb, 0, none⟩ = some (.func (.func 56) #[] #[])) (hkb : kb < W.heap.size) (hne : kb ≠ g) :
    CmpLays Tryz.prog 80 #[.pointer (some ⟨kb, 0, none⟩)] PD.cells 9 (fun x y => Lib.compareInt x.r.id y.r.id) g 0 n W := fun m os dk _ x y => by
  have hg : W.grownBy (sortWorldK PD.cells 9 W g 0 m dk os) (some g) := grownBy_sortK dk
  exact personCmp_any x y kb _ ((World.cell?_of_block (w := W) (hg.block kb hkb (fun e => hne (Option.some.inj e)))).trans hk) (Nat.lt_of_lt_of_le hkb hg.size)

theorem sortFuncP_some (g kb cap : Nat) (zs : List PD) (W : World) (hk : W.cell? ⟨kb, 0, none⟩ = some (.func (.func 56) #[] #[])) (hkb : kb < W.heap.size) (hne : kb ≠ g) (hg : g < W.heap.size) (hH : Sort.HoldsK PD.cells 9 W g 0 zs.toArray) (hz : zs.length ≤ 1000) :
    Calls Tryz.prog 96 #[.slice (some ⟨g, 0, none⟩) zs.length cap, .func (.func 80) #[] #[.pointer (some ⟨kb, 0, none⟩)]] W fun e w' =>
      e = .returned (.tuple #[]) ∧ ∃ l' : List PD, l'.Perm zs ∧ l'.Pairwise (fun x y => x.r.id ≤ y.r.id) ∧ PCells w' w'.heap.size (some ⟨g, 0, none⟩) l' ∧ W.grownBy w' (some g) := by
  have h := AnyQ.slices_SortFunc Tryz.sortPer 9 Tryz.isAgg83 Tryz.sizeOf83 PD.cells PD.cells_length PD.cells_one (fun x y => Lib.compareInt x.r.id y.r.id) swo_id 80 #[.pointer (some ⟨kb, 0, none⟩)] g 0 cap zs.toArray W
    (enters_of Tryz.func80 (by kernel_rfl) rfl) (personCmp_lays kb g _ W hk hkb hne) hH hg (by simp; omega)
  rw [List.size_toArray] at h
  refine h.mono fun e w' ⟨he, d', n, os, hp, hs, hw⟩ => ⟨he, d'.toList, ?_, ?_, ?_, ?_⟩
  · have := hp.2.2
    rw [List.extract_toArray] at this
    have hs' : d'.toList.length = zs.length := by have := hp.1; simpa using this
    simp only [Nat.sub_zero, List.drop_zero, Array.toList_extract, List.extract_eq_take_drop, List.take_of_length_le (Nat.le_refl _), List.take_of_length_le (Nat.le_of_eq hs')] at this
    simpa using this
  · rw [List.pairwise_iff_getElem]
    intro i j hi hj hij
    have hs' : d'.size = zs.length := by have := hp.1; simpa using this
    simp only [Array.length_toList] at hi hj
    have := hs i j (Nat.zero_le _) hij (by omega)
    rw [ltOf_id, decide_eq_false_iff_not] at this
    simp only [getElem!_pos, hi, hj] at this
    simpa using Int.not_lt.1 this
  · subst hw
    refine pcells_of_holds (holdsK_sortWorldK_c PD.cells 9 W g 0 zs.toArray d' n os hH hg hp.1) ?_
    exact Nat.lt_of_lt_of_le hg (grownBy_sortK (enc := PD.cells) (k := 9) (w := W) (g := g) (n := n) (os := os) d').size
  · subst hw; exact grownBy_sortK d'

set_option maxHeartbeats 1000000 in
theorem sortedP_any (Bs kb : Nat) (A : Option Addr) (cap : Nat) (zs : List PD) (hz : zs.length ≤ 1000) (w : World) (hBs : Bs < w.heap.size) (hc : w.cell? ⟨Bs, 0, none⟩ = some (.slice A zs.length cap)) (hS : PCells w w.heap.size A zs)
    (hk : w.cell? ⟨kb, 0, none⟩ = some (.func (.func 56) #[] #[])) (hkb : kb < w.heap.size) :
    Calls Tryz.prog 78 #[.func (.func 97) #[] #[.pointer (some ⟨Bs, 0, none⟩)], .func (.func 80) #[] #[.pointer (some ⟨kb, 0, none⟩)]] w fun e w' =>
      ∃ A' c', ∃ l' : List PD, e = .returned (.slice A' l'.length c') ∧ l'.Perm zs ∧ l'.Pairwise (fun x y => x.r.id ≤ y.r.id) ∧ PCells w' w'.heap.size A' l' ∧ Below w.heap.size w w' := by
  have HC := Lib.hid (collectP_any Bs w.heap.size A cap zs hz w hBs (Nat.le_refl _) hc hS)
  clear hc hS
  go_enter Tryz.func78, Tryz.ntmps78
  go_wp2_with (go_at_call 95; with_reducible refine (HC.out).mono ?_; rintro e w1 ⟨v, rfl, hown, hb1⟩)
  have hk1 := (hb1.cell (p := ⟨kb, 0, none⟩) hkb).trans hk
  have hz1 := hb1.size
  have Hown := Lib.hid hown
  rcases hown.2 with ⟨rfl, h0⟩ | ⟨g, cap1, cur, rfl, hbase, hb, h1, h2, h3, h4⟩
  · have hnil : zs = [] := List.eq_nil_of_length_eq_zero h0
    subst hnil
    have HS := Lib.hid (sortFuncP_none (.func (.func 80) #[] #[.pointer (some ⟨kb, 0, none⟩)]) w1)
    clear hown hk1
    go_wp2_with (go_at_call 96; with_reducible refine (HS.out).mono ?_; rintro e w2 ⟨rfl, rfl⟩)
    go_ret
    exact ⟨none, 0, [], rfl, List.Perm.nil, List.Pairwise.nil, fun k hk => by simp at hk, hb1⟩
  · have hg : g < w1.heap.size := (Array.getElem?_eq_some_iff.1 hb).1
    have HS := Lib.hid (sortFuncP_some g kb cap1 zs w1 hk1 (by omega) (by omega) hg (holdsK_of_own hown) hz)
    clear hown hk1 hb h4 h3
    go_wp2_with (go_at_call 96; with_reducible refine (HS.out).mono ?_; rintro e w2 ⟨rfl, l', hp, hs, hP, hg2⟩)
    go_ret
    have hlen : l'.length = zs.length := hp.length_eq
    exact ⟨some ⟨g, 0, none⟩, cap1, l', by rw [hlen]; rfl, hp, hs, hP, hb1.grown hg2 hz1 (fun k e => by cases e; exact hbase)⟩

set_option maxHeartbeats 1000000 in
theorem inOrderP_any (A : Option Addr) (cap : Nat) (zs : List PD) (hz : zs.length ≤ 1000) (w : World) (hS : PCells w w.heap.size A zs) :
    Calls Tryz.prog 55 #[.slice A zs.length cap, .func (.func 56) #[] #[]] w fun e w' =>
      ∃ A' c', ∃ l' : List PD, e = .returned (.slice A' l'.length c') ∧ l'.Perm zs ∧ l'.Pairwise (fun x y => x.r.id ≤ y.r.id) ∧ PCells w' w'.heap.size A' l' ∧ Below w.heap.size w w' := by
  have hb2 : Below w.heap.size w ((w.alloc (.cells #[.func (.func 56) #[] #[]] 108)).alloc (.cells #[.slice A zs.length cap] 79)) := ((Below.refl _ _).alloc (Nat.le_refl _) _).alloc (by simp) _
  have k0 := (Blk.new w #[.func (.func 56) #[] #[]] 108).alloc (.cells #[.slice A zs.length cap] 79)
  have k1 := Blk.new (w.alloc (.cells #[.func (.func 56) #[] #[]] 108)) #[.slice A zs.length cap] 79
  rw [World.size_alloc] at k1
  have HV := Lib.hid (fun W => callsIn_wide.1 (valuesP_in Fence.wide 1 trivial rfl A zs.length cap W))
  have HS := Lib.hid (sortedP_any (w.heap.size + 1) w.heap.size A cap zs hz _ k1.lt (k1.cell 0) ((hS.below hb2).more hb2.size) (k0.cell 0) k0.lt)
  clear hS
  go_enter Tryz.func55, Tryz.ntmps55
  go_wp2_with (first
    | (go_at_call 79; with_reducible refine (HV.out _).mono ?_; rintro e w1 ⟨rfl, rfl⟩)
    | (go_at_call 78; with_reducible refine (HS.out).mono ?_; rintro e w2 ⟨A', c', l', rfl, hp, hs, hP, hb3⟩))
  go_ret
  exact ⟨A', c', l', rfl, hp, hs, hP, hb2.trans (hb3.mono hb2.size)⟩

end Go.Proofs.YtbkmfomdhjhkpaaGreat
