/- Subjects put in order: slices.SortFunc, SortedFunc and the program's order.By at a list. Written by p5.py. -/
import Derived.Test.YtbkekdbabkncfaaGreatUIter
import Derived.Test.YtbkekdbabkncfaaGreatUSort

namespace Go.Proofs.YtbkekdbabkncfaaGreat
open Go.RowKit Go.Shelf Go.Maps

theorem grownBy_sortK {α : Type} [Inhabited α] {enc : α → List Value} {k : Nat} {w : World} {g n : Nat} {os : Array Obj} (d : Array α) : w.grownBy (sortWorldK enc k w g 0 n d os) (some g) := by
  unfold sortWorldK Sort.putRowK
  refine ⟨rfl, rfl, rfl, by simp, fun j hj hne => ?_⟩
  rw [Sort.heap_grow_old _ _ (by simpa using hj)]
  have : g ≠ j := fun e => hne (by rw [e])
  simp [Sort.putRow, Sort.mapBlock, Sort.ahead, Array.getElem?_modify, this]
theorem holdsK_of_own {w : World} {base g n c : Nat} {l : List SubD} (h : w.ownsRow base 56 2 (.slice (some ⟨g, 0, none⟩) n c) n (l.flatMap subC)) : Sort.HoldsK subC 2 w g 0 l.toArray := by
  have hn : n = l.length := by have := h.1; rw [subCs_len] at this; omega
  subst hn
  intro t ht
  rw [Sort.size_flatK] at ht
  have ht' : t < l.length * 2 := by simpa using ht
  refine ⟨?_, by rw [Nat.zero_add]; exact h.frozenAt t⟩
  have hq : t / 2 < l.length := by omega
  have hm : t % 2 < 2 := Nat.mod_lt _ (by omega)
  have e : t = t / 2 * 2 + t % 2 := by omega
  rw [Nat.zero_add, h.cellAt t ht', Sort.get_flatK _ _ _ t ht]
  show (l.flatMap subC)[t]? = some _
  conv => lhs; rw [e]
  rw [subCs_get l (t / 2) hq (t % 2) hm]
  have e2 : (l.toArray[t / 2]! : SubD) = l[t / 2] := by simp [hq]
  rw [e2]
  have hlen : (subC l[t / 2]).length = 2 := subC_len _
  rw [List.getElem?_eq_getElem (by omega)]
  simp [hlen, hm]
theorem own_sorted {W : World} {base g cap m : Nat} {zs : List SubD} {d : Array SubD} {os : Array Obj} (h : W.ownsRow base 56 2 (.slice (some ⟨g, 0, none⟩) zs.length cap) zs.length (zs.flatMap subC)) (hs : d.size = zs.length) (hg : g < W.heap.size) :
    (sortWorldK subC 2 W g 0 m d os).ownsRow base 56 2 (.slice (some ⟨g, 0, none⟩) zs.length cap) zs.length (d.toList.flatMap subC) := by
  have hH := holdsK_sortWorldK_c subC 2 W g 0 zs.toArray d m os (holdsK_of_own h) hg (by simpa using hs)
  rcases h.2 with ⟨h1, _⟩ | ⟨g', cap', cur, h1, h2, h3, h4, h5, h6, h7⟩
  · cases h1
  · injection h1 with e1 _ e2
    injection e1 with e1
    injection e1 with e1
    subst e1
    subst e2
    have hl : (d.toList.flatMap subC).length = zs.length * 2 := by rw [subCs_len, Array.length_toList, hs]
    have hb : (sortWorldK subC 2 W g 0 m d os).heap[g]? = some (.cells (Sort.putCells id 0 (Sort.flatK subC 2 d) cur) 56 (0, 0)) := by
      unfold sortWorldK Sort.putRowK
      rw [Sort.heap_grow_old _ _ (by simpa [Sort.putRow, Sort.mapBlock, Sort.ahead] using hg)]
      simp [Sort.putRow, Sort.mapBlock, Sort.ahead, Array.getElem?_modify, h3, Sort.onCells]
    have hsz : (Sort.putCells id 0 (Sort.flatK subC 2 d) cur).size = cur.size := by simp [Sort.putCells]
    refine ⟨hl, .inr ⟨g, cap, _, rfl, h2, hb, h4, h5, by rw [hsz]; exact h6, ?_⟩⟩
    have hcz : zs.length * 2 ≤ cur.size := by rw [h6]; exact Nat.mul_le_mul_right 2 h4
    apply List.ext_getElem?
    intro t
    by_cases ht : t < zs.length * 2
    · rw [List.getElem?_take, if_pos ht]
      have ht' : t < d.size * 2 := by rw [hs]; exact ht
      have hq : t / 2 < d.toList.length := by rw [Array.length_toList]; omega
      have hm : t % 2 < 2 := Nat.mod_lt _ (by omega)
      have e : t = t / 2 * 2 + t % 2 := by omega
      have hc := (hH t (by rw [Sort.size_flatK]; exact ht')).1
      rw [Nat.zero_add, Sort.get_flatK _ _ _ t ht'] at hc
      have hcell : (sortWorldK subC 2 W g 0 m d os).cell? ⟨g, t, none⟩ = (Sort.putCells id 0 (Sort.flatK subC 2 d) cur)[t]? := by
        simp [World.cell?, hb]
      rw [hcell] at hc
      rw [Array.getElem?_toList, hc]
      conv => rhs; rw [e]
      rw [subCs_get d.toList (t / 2) hq (t % 2) hm]
      have e2 : (d[t / 2]! : SubD) = d.toList[t / 2] := by simp [show t / 2 < d.size by simpa using hq]
      rw [e2]
      have hlen : (subC d.toList[t / 2]).length = 2 := subC_len _
      rw [List.getElem?_eq_getElem (by omega), getElem!_pos _ _ (by omega)]
      rfl
    · rw [List.getElem?_eq_none (by simp; omega), List.getElem?_eq_none (by omega)]
theorem sortFuncU_none (fv : Value) (W : World) : Calls Tryz.prog 141 #[.slice none 0 0, fv] W fun e w' => e = .returned (.tuple #[]) ∧ w' = W :=
  AnyF.slices_SortFunc_none Tryz.sortSub none 0 fv W

theorem own_low {w : World} {base base' : Nat} {e : TypeId} {size : Nat} {v : Value} {n : Nat} {xs : List Value} (h : w.ownsRow base e size v n xs) (hb : base' ≤ base) : w.ownsRow base' e size v n xs := by
  refine ⟨h.1, ?_⟩
  rcases h.2 with h0 | ⟨g, cap, cur, h1, h2, h3, h4⟩
  · exact .inl h0
  · exact .inr ⟨g, cap, cur, h1, Nat.le_trans hb h2, h3, h4⟩
/-- By number. -/
def leU (x y : SubD) : Prop := x.v.id ≤ y.v.id
theorem ltOfU (x y : SubD) : ltOf (fun x y : SubD => Lib.compareInt x.v.id y.v.id) x y = decide (x.v.id < y.v.id) := by
  unfold ltOf Lib.compareInt
  by_cases h1 : x.v.id < y.v.id
  · simp [h1]
  · by_cases h2 : y.v.id < x.v.id
    · simp [h1, h2]
    · simp [h1, h2]
theorem swoU : Sort.SWO (ltOf (fun x y : SubD => Lib.compareInt x.v.id y.v.id)) where
  irrefl x := by rw [ltOfU]; simp
  trans x y z h1 h2 := by rw [ltOfU] at *; simp at *; omega
  ntrans x y z h1 h2 := by rw [ltOfU] at *; simp at *; omega
theorem cmpU_lays (kb fb g n : Nat) (W : World) (hb : ByU W kb fb) (hk : kb ≠ g) (hf : fb ≠ g) :
    CmpLays Tryz.prog 118 #[.pointer (some ⟨kb, 0, none⟩)] subC 2 (fun x y : SubD => Lib.compareInt x.v.id y.v.id) g 0 n W := fun m os dk _ x y => by
  have hg : W.grownBy (sortWorldK subC 2 W g 0 m dk os) (some g) := grownBy_sortK dk
  obtain ⟨h1, h2, h3, h4⟩ := hb
  have q1 := hg.block kb h1 (fun e => hk (Option.some.inj e))
  have q2 := hg.block fb h2 (fun e => hf (Option.some.inj e))
  exact cmpU_any x y kb fb _ ⟨Nat.lt_of_lt_of_le h1 hg.size, Nat.lt_of_lt_of_le h2 hg.size, (World.cell?_of_block (w := W) q1).trans h3, (World.cell?_of_block (w := W) q2).trans h4⟩
theorem sortFuncU_some (base g kb fb cap : Nat) (zs : List SubD) (W : World) (hb : ByU W kb fb) (hk : kb ≠ g) (hf : fb ≠ g) (hg : g < W.heap.size) (hown : W.ownsRow base 56 2 (.slice (some ⟨g, 0, none⟩) zs.length cap) zs.length (zs.flatMap subC)) (hz : zs.length ≤ 1000) :
    Calls Tryz.prog 141 #[.slice (some ⟨g, 0, none⟩) zs.length cap, .func (.func 118) #[] #[.pointer (some ⟨kb, 0, none⟩)]] W fun e w' =>
      e = .returned (.tuple #[]) ∧ ∃ l' : List SubD, l'.Perm zs ∧ l'.Pairwise leU ∧ w'.ownsRow base 56 2 (.slice (some ⟨g, 0, none⟩) zs.length cap) zs.length (l'.flatMap subC) ∧ W.grownBy w' (some g) := by
  have h := AnyQ.slices_SortFunc Tryz.sortSub 2 Tryz.isAgg56 Tryz.sizeOf56 subC subC_len subC_one (fun x y : SubD => Lib.compareInt x.v.id y.v.id) swoU 118 #[.pointer (some ⟨kb, 0, none⟩)] g 0 cap zs.toArray W
    (enters_of Tryz.func118 (by kernel_rfl) rfl) (cmpU_lays kb fb g _ W hb hk hf) (holdsK_of_own hown) hg (by simp; omega)
  rw [List.size_toArray] at h
  refine h.mono fun e w' ⟨he, d', n, os, hp, hs, hw⟩ => ⟨he, d'.toList, ?_, ?_, ?_, ?_⟩
  · have := hp.2.2
    rw [List.extract_toArray] at this
    have hs' : d'.toList.length = zs.length := by have := hp.1; simpa using this
    simp only [Nat.sub_zero, List.drop_zero, Array.toList_extract, List.extract_eq_take_drop, List.take_of_length_le (Nat.le_refl _), List.take_of_length_le (Nat.le_of_eq hs')] at this
    simpa using this
  · rw [List.pairwise_iff_getElem]
    intro i j hi hj hij
    have hs' : d'.size = zs.length := by have := hp.1; simpa using this
    simp only [Array.length_toList] at hi hj
    have := hs i j (Nat.zero_le _) hij (by omega)
    rw [ltOfU, decide_eq_false_iff_not] at this
    simp only [getElem!_pos, hi, hj] at this
    show d'.toList[i].v.id ≤ d'.toList[j].v.id
    simp only [Array.getElem_toList]
    omega
  · subst hw
    exact own_sorted hown (by have := hp.1; simpa using this) hg
  · subst hw; exact grownBy_sortK d'

set_option maxHeartbeats 1000000 in
theorem sortedU_any (Bs : Nat) (A : Option Addr) (cap : Nat) (L : List SubD) (hz : L.length ≤ 1000) (kb fb : Nat) (w : World) (hBs : Bs < w.heap.size) (hc : w.cell? ⟨Bs, 0, none⟩ = some (.slice A L.length cap)) (hS : Flat 2 subC w w.heap.size A L) (hb : ByU w kb fb) :
    Calls Tryz.prog 117 #[.func (.func 120) #[] #[.pointer (some ⟨Bs, 0, none⟩)], .func (.func 118) #[] #[.pointer (some ⟨kb, 0, none⟩)]] w fun e w' =>
      ∃ A' c', ∃ l' : List SubD, e = .returned (.slice A' l'.length c') ∧ l'.Perm L ∧ l'.Pairwise leU ∧ w'.ownsRow w.heap.size 56 2 (.slice A' l'.length c') l'.length (l'.flatMap subC) ∧ Below w.heap.size w w' := by
  have HC := Lib.hid (collectS_any Bs w.heap.size A cap L hz w hBs (Nat.le_refl _) hc hS)
  clear hc hS
  go_enter Tryz.func117, Tryz.ntmps117
  go_wp2_with (go_at_call 140; with_reducible refine (HC.out).mono ?_; rintro e w1 ⟨v, rfl, hown, hb1⟩)
  obtain ⟨zs, rfl⟩ : ∃ zs, zs = L := ⟨_, rfl⟩
  have hzz := hz
  have hpz := List.Perm.refl zs
  obtain ⟨hk0, hf0, hbk, hbf⟩ := hb
  have hB1 : ByU w1 kb fb := ⟨Nat.lt_of_lt_of_le hk0 hb1.size, Nat.lt_of_lt_of_le hf0 hb1.size, (hb1.cell (p := ⟨kb, 0, none⟩) hk0).trans hbk, (hb1.cell (p := ⟨fb, 0, none⟩) hf0).trans hbf⟩
  have hz1 := hb1.size
  have HB1 := Lib.hid hB1
  clear hB1 hbk hbf
  have Hown := Lib.hid hown
  have Hpz := Lib.hid hpz
  clear hpz
  rcases hown.2 with ⟨rfl, h0⟩ | ⟨g, cap1, cur, rfl, hbase, hbg, h1, h2, h3, h4⟩
  · have hnil : zs = [] := List.eq_nil_of_length_eq_zero h0
    subst hnil
    have HS := Lib.hid (sortFuncU_none (.func (.func 118) #[] #[.pointer (some ⟨kb, 0, none⟩)]) w1)
    clear hown
    go_wp2_with (go_at_call 141; with_reducible refine (HS.out).mono ?_; rintro e w2 ⟨rfl, rfl⟩)
    go_ret
    exact ⟨none, 0, [], rfl, Hpz.out, List.Pairwise.nil, World.ownsRow_nil _ _ _ _, hb1⟩
  · have hg : g < w1.heap.size := (Array.getElem?_eq_some_iff.1 hbg).1
    have HS := Lib.hid (sortFuncU_some w.heap.size g kb fb cap1 zs w1 HB1.out (by omega) (by omega) hg hown hzz)
    clear hown hbg h4 h3
    go_wp2_with (go_at_call 141; with_reducible refine (HS.out).mono ?_; rintro e w2 ⟨rfl, l', hp, hs, hP, hg2⟩)
    go_ret
    have hlen : l'.length = zs.length := hp.length_eq
    exact ⟨some ⟨g, 0, none⟩, cap1, l', by rw [hlen]; rfl, hp.trans Hpz.out, hs, by rw [hlen]; exact hP, hb1.grown hg2 hz1 (fun k e => by cases e; exact hbase)⟩

set_option maxHeartbeats 1000000 in
theorem byU_any (Bs : Nat) (A : Option Addr) (cap : Nat) (L : List SubD) (hz : L.length ≤ 1000) (fb : Nat) (w : World) (hBs : Bs < w.heap.size) (hc : w.cell? ⟨Bs, 0, none⟩ = some (.slice A L.length cap)) (hS : Flat 2 subC w w.heap.size A L) (hfb : fb < w.heap.size) (hf0 : w.cell? ⟨fb, 0, none⟩ = some (.func (.func 88) #[] #[])) :
    Calls Tryz.prog 86 #[.func (.func 120) #[] #[.pointer (some ⟨Bs, 0, none⟩)], .slice (some ⟨fb, 0, none⟩) 1 1] w fun e w' =>
      ∃ A' c', ∃ l' : List SubD, e = .returned (.slice A' l'.length c') ∧ l'.Perm L ∧ l'.Pairwise leU ∧ w'.ownsRow w.heap.size 56 2 (.slice A' l'.length c') l'.length (l'.flatMap subC) ∧ Below w.heap.size w w' := by
  have hb1 : Below w.heap.size w (w.alloc (.cells #[.slice (some ⟨fb, 0, none⟩) 1 1] 167)) := (Below.refl _ _).alloc (Nat.le_refl _) _
  have k0 := Blk.new w #[.slice (some ⟨fb, 0, none⟩) 1 1] 167
  have hB : ByU (w.alloc (.cells #[.slice (some ⟨fb, 0, none⟩) 1 1] 167)) w.heap.size fb := ⟨k0.lt, Nat.lt_of_lt_of_le hfb hb1.size, k0.cell 0, (hb1.cell (p := ⟨fb, 0, none⟩) hfb).trans hf0⟩
  have HS := Lib.hid (sortedU_any Bs A cap L hz w.heap.size fb _ (Nat.lt_of_lt_of_le hBs hb1.size) ((hb1.cell (p := ⟨Bs, 0, none⟩) hBs).trans hc) (hS.later hb1) hB)
  clear hc hS hf0 hB k0
  go_enter Tryz.func86, Tryz.ntmps86
  go_wp2_with (go_at_call 117; with_reducible refine (HS.out).mono ?_; rintro e w2 ⟨A', c', l', rfl, hp, hs, hown, hb2⟩)
  go_ret
  exact ⟨A', c', l', rfl, hp, hs, own_low hown hb1.size, hb1.trans (hb2.mono hb1.size)⟩

end Go.Proofs.YtbkekdbabkncfaaGreat
