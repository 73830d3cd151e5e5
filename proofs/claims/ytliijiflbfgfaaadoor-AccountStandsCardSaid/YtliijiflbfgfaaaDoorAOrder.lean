/- Reports put in order: slices.SortFunc, SortedFunc and the program's order.By, at what a map has (by the day on which they were made) and at a list (by the day that they are about). Written by genord3.py. -/
import Derived.Test.YtliijiflbfgfaaaDoorAIterM

namespace Go.Proofs.YtliijiflbfgfaaaDoor
open Go.RowKit Go.Shelf Go.Maps

theorem repCells_l8 (x : Rep) : (repCells x).length = 8 := rfl
theorem grownBy_sortK {α : Type} [Inhabited α] {enc : α → List Value} {k : Nat} {w : World} {g n : Nat} {os : Array Obj} (d : Array α) : w.grownBy (sortWorldK enc k w g 0 n d os) (some g) := by
  unfold sortWorldK Sort.putRowK
  refine ⟨rfl, rfl, rfl, by simp, fun j hj hne => ?_⟩
  rw [Sort.heap_grow_old _ _ (by simpa using hj)]
  have : g ≠ j := fun e => hne (by rw [e])
  simp [Sort.putRow, Sort.mapBlock, Sort.ahead, Array.getElem?_modify, this]
theorem holdsK_of_own {w : World} {base g n c : Nat} {l : List Rep} (h : w.ownsRow base 47 8 (.slice (some ⟨g, 0, none⟩) n c) n (l.flatMap repCells)) : Sort.HoldsK repCells 8 w g 0 l.toArray := by
  have hn : n = l.length := by have := h.1; rw [repCells_len] at this; omega
  subst hn
  intro t ht
  rw [Sort.size_flatK] at ht
  have ht' : t < l.length * 8 := by simpa using ht
  refine ⟨?_, by rw [Nat.zero_add]; exact h.frozenAt t⟩
  have hq : t / 8 < l.length := by omega
  have hm : t % 8 < 8 := Nat.mod_lt _ (by omega)
  have e : t = t / 8 * 8 + t % 8 := by omega
  rw [Nat.zero_add, h.cellAt t ht', Sort.get_flatK _ _ _ t ht]
  show (l.flatMap repCells)[t]? = some _
  conv => lhs; rw [e]
  rw [repCells_get l (t / 8) hq (t % 8) hm]
  have e2 : (l.toArray[t / 8]! : Rep) = l[t / 8] := by simp [hq]
  rw [e2]
  have hlen : (repCells l[t / 8]).length = 8 := repCells_l8 _
  rw [List.getElem?_eq_getElem (by omega)]
  simp [hlen, hm]
theorem own_sorted {W : World} {base g cap m : Nat} {zs : List Rep} {d : Array Rep} {os : Array Obj} (h : W.ownsRow base 47 8 (.slice (some ⟨g, 0, none⟩) zs.length cap) zs.length (zs.flatMap repCells)) (hs : d.size = zs.length) (hg : g < W.heap.size) :
    (sortWorldK repCells 8 W g 0 m d os).ownsRow base 47 8 (.slice (some ⟨g, 0, none⟩) zs.length cap) zs.length (d.toList.flatMap repCells) := by
  have hH := holdsK_sortWorldK_c repCells 8 W g 0 zs.toArray d m os (holdsK_of_own h) hg (by simpa using hs)
  rcases h.2 with ⟨h1, _⟩ | ⟨g', cap', cur, h1, h2, h3, h4, h5, h6, h7⟩
  · cases h1
  · injection h1 with e1 _ e2
    injection e1 with e1
    injection e1 with e1
    subst e1
    subst e2
    have hl : (d.toList.flatMap repCells).length = zs.length * 8 := by rw [repCells_len, Array.length_toList, hs]
    have hb : (sortWorldK repCells 8 W g 0 m d os).heap[g]? = some (.cells (Sort.putCells id 0 (Sort.flatK repCells 8 d) cur) 47 (0, 0)) := by
      unfold sortWorldK Sort.putRowK
      rw [Sort.heap_grow_old _ _ (by simpa [Sort.putRow, Sort.mapBlock, Sort.ahead] using hg)]
      simp [Sort.putRow, Sort.mapBlock, Sort.ahead, Array.getElem?_modify, h3, Sort.onCells]
    have hsz : (Sort.putCells id 0 (Sort.flatK repCells 8 d) cur).size = cur.size := by simp [Sort.putCells]
    refine ⟨hl, .inr ⟨g, cap, _, rfl, h2, hb, h4, h5, by rw [hsz]; exact h6, ?_⟩⟩
    have hcz : zs.length * 8 ≤ cur.size := by rw [h6]; exact Nat.mul_le_mul_right 8 h4
    apply List.ext_getElem?
    intro t
    by_cases ht : t < zs.length * 8
    · rw [List.getElem?_take, if_pos ht]
      have ht' : t < d.size * 8 := by rw [hs]; exact ht
      have hq : t / 8 < d.toList.length := by rw [Array.length_toList]; omega
      have hm : t % 8 < 8 := Nat.mod_lt _ (by omega)
      have e : t = t / 8 * 8 + t % 8 := by omega
      have hc := (hH t (by rw [Sort.size_flatK]; exact ht')).1
      rw [Nat.zero_add, Sort.get_flatK _ _ _ t ht'] at hc
      have hcell : (sortWorldK repCells 8 W g 0 m d os).cell? ⟨g, t, none⟩ = (Sort.putCells id 0 (Sort.flatK repCells 8 d) cur)[t]? := by
        simp [World.cell?, hb]
      rw [hcell] at hc
      rw [Array.getElem?_toList, hc]
      conv => rhs; rw [e]
      rw [repCells_get d.toList (t / 8) hq (t % 8) hm]
      have e2 : (d[t / 8]! : Rep) = d.toList[t / 8] := by simp [show t / 8 < d.size by simpa using hq]
      rw [e2]
      have hlen : (repCells d.toList[t / 8]).length = 8 := repCells_l8 _
      rw [List.getElem?_eq_getElem (by omega), getElem!_pos _ _ (by omega)]
      rfl
    · rw [List.getElem?_eq_none (by simp; omega), List.getElem?_eq_none (by omega)]
theorem sortFuncR_none (fv : Value) (W : World) : Calls Tryd.prog 49 #[.slice none 0 0, fv] W fun e w' => e = .returned (.tuple #[]) ∧ w' = W :=
  AnyF.slices_SortFunc_none Tryd.sortRep none 0 fv W

theorem own_low {w : World} {base base' : Nat} {e : TypeId} {size : Nat} {v : Value} {n : Nat} {xs : List Value} (h : w.ownsRow base e size v n xs) (hb : base' ≤ base) : w.ownsRow base' e size v n xs := by
  refine ⟨h.1, ?_⟩
  rcases h.2 with h0 | ⟨g, cap, cur, h1, h2, h3, h4⟩
  · exact .inl h0
  · exact .inr ⟨g, cap, cur, h1, Nat.le_trans hb h2, h3, h4⟩
/-- By made, and of the same by number. -/
def leM (x y : Rep) : Prop := x.made < y.made ∨ x.made = y.made ∧ x.id ≤ y.id
theorem ltOfM (x y : Rep) : ltOf (fun x y : Rep => lexI (Lib.compareInt x.made y.made) (Lib.compareInt x.id y.id)) x y = decide (x.made < y.made ∨ x.made = y.made ∧ x.id < y.id) := by
  unfold ltOf lexI Lib.compareInt
  by_cases h1 : x.made < y.made
  · simp [h1]
  · by_cases h2 : y.made < x.made
    · have : ¬ x.made = y.made := by omega
      simp [h1, h2, this]
    · have h3 : x.made = y.made := by omega
      by_cases h4 : x.id < y.id
      · simp [h3, h4]
      · by_cases h5 : y.id < x.id <;> simp [h3, h4, h5]
theorem swoM : Sort.SWO (ltOf (fun x y : Rep => lexI (Lib.compareInt x.made y.made) (Lib.compareInt x.id y.id))) where
  irrefl x := by rw [ltOfM]; simp
  trans x y z h1 h2 := by rw [ltOfM] at *; simp at *; omega
  ntrans x y z h1 h2 := by rw [ltOfM] at *; simp at *; omega
theorem cmpM_lays (kb fb g n : Nat) (W : World) (hb : ByM W kb fb) (hk : kb ≠ g) (hf : fb ≠ g) :
    CmpLays Tryd.prog 43 #[.pointer (some ⟨kb, 0, none⟩)] repCells 8 (fun x y : Rep => lexI (Lib.compareInt x.made y.made) (Lib.compareInt x.id y.id)) g 0 n W := fun m os dk _ x y => by
  have hg : W.grownBy (sortWorldK repCells 8 W g 0 m dk os) (some g) := grownBy_sortK dk
  obtain ⟨h1, h2, h3, h4, h5⟩ := hb
  have q1 := hg.block kb h1 (fun e => hk (Option.some.inj e))
  have q2 := hg.block fb h2 (fun e => hf (Option.some.inj e))
  exact cmpM_any x y kb fb _ ⟨Nat.lt_of_lt_of_le h1 hg.size, Nat.lt_of_lt_of_le h2 hg.size, (World.cell?_of_block (w := W) q1).trans h3, (World.cell?_of_block (w := W) q2).trans h4, (World.cell?_of_block (w := W) q2).trans h5⟩
theorem sortFuncM_some (base g kb fb cap : Nat) (zs : List Rep) (W : World) (hb : ByM W kb fb) (hk : kb ≠ g) (hf : fb ≠ g) (hg : g < W.heap.size) (hown : W.ownsRow base 47 8 (.slice (some ⟨g, 0, none⟩) zs.length cap) zs.length (zs.flatMap repCells)) (hz : zs.length ≤ 1000) :
    Calls Tryd.prog 49 #[.slice (some ⟨g, 0, none⟩) zs.length cap, .func (.func 43) #[] #[.pointer (some ⟨kb, 0, none⟩)]] W fun e w' =>
      e = .returned (.tuple #[]) ∧ ∃ l' : List Rep, l'.Perm zs ∧ l'.Pairwise leM ∧ w'.ownsRow base 47 8 (.slice (some ⟨g, 0, none⟩) zs.length cap) zs.length (l'.flatMap repCells) ∧ W.grownBy w' (some g) := by
  have h := AnyQ.slices_SortFunc Tryd.sortRep 8 Tryd.isAgg47 Tryd.sizeOf47 repCells repCells_l8 repCells_one (fun x y : Rep => lexI (Lib.compareInt x.made y.made) (Lib.compareInt x.id y.id)) swoM 43 #[.pointer (some ⟨kb, 0, none⟩)] g 0 cap zs.toArray W
    (enters_of Tryd.func43 (by kernel_rfl) rfl) (cmpM_lays kb fb g _ W hb hk hf) (holdsK_of_own hown) hg (by simp; omega)
  rw [List.size_toArray] at h
  refine h.mono fun e w' ⟨he, d', n, os, hp, hs, hw⟩ => ⟨he, d'.toList, ?_, ?_, ?_, ?_⟩
  · have := hp.2.2
    rw [List.extract_toArray] at this
    have hs' : d'.toList.length = zs.length := by have := hp.1; simpa using this
    simp only [Nat.sub_zero, List.drop_zero, Array.toList_extract, List.extract_eq_take_drop, List.take_of_length_le (Nat.le_refl _), List.take_of_length_le (Nat.le_of_eq hs')] at this
    simpa using this
  · rw [List.pairwise_iff_getElem]
    intro i j hi hj hij
    have hs' : d'.size = zs.length := by have := hp.1; simpa using this
    simp only [Array.length_toList] at hi hj
    have := hs i j (Nat.zero_le _) hij (by omega)
    rw [ltOfM, decide_eq_false_iff_not] at this
    simp only [getElem!_pos, hi, hj] at this
    show d'.toList[i].made < d'.toList[j].made ∨ d'.toList[i].made = d'.toList[j].made ∧ d'.toList[i].id ≤ d'.toList[j].id
    simp only [Array.getElem_toList]
    omega
  · subst hw
    exact own_sorted hown (by have := hp.1; simpa using this) hg
  · subst hw; exact grownBy_sortK d'

/-- By about, and of the same by number. -/
def leA (x y : Rep) : Prop := x.about < y.about ∨ x.about = y.about ∧ x.id ≤ y.id
theorem ltOfA (x y : Rep) : ltOf (fun x y : Rep => lexI (Lib.compareInt x.about y.about) (Lib.compareInt x.id y.id)) x y = decide (x.about < y.about ∨ x.about = y.about ∧ x.id < y.id) := by
  unfold ltOf lexI Lib.compareInt
  by_cases h1 : x.about < y.about
  · simp [h1]
  · by_cases h2 : y.about < x.about
    · have : ¬ x.about = y.about := by omega
      simp [h1, h2, this]
    · have h3 : x.about = y.about := by omega
      by_cases h4 : x.id < y.id
      · simp [h3, h4]
      · by_cases h5 : y.id < x.id <;> simp [h3, h4, h5]
theorem swoA : Sort.SWO (ltOf (fun x y : Rep => lexI (Lib.compareInt x.about y.about) (Lib.compareInt x.id y.id))) where
  irrefl x := by rw [ltOfA]; simp
  trans x y z h1 h2 := by rw [ltOfA] at *; simp at *; omega
  ntrans x y z h1 h2 := by rw [ltOfA] at *; simp at *; omega
theorem cmpA_lays (kb fb g n : Nat) (W : World) (hb : ByA W kb fb) (hk : kb ≠ g) (hf : fb ≠ g) :
    CmpLays Tryd.prog 43 #[.pointer (some ⟨kb, 0, none⟩)] repCells 8 (fun x y : Rep => lexI (Lib.compareInt x.about y.about) (Lib.compareInt x.id y.id)) g 0 n W := fun m os dk _ x y => by
  have hg : W.grownBy (sortWorldK repCells 8 W g 0 m dk os) (some g) := grownBy_sortK dk
  obtain ⟨h1, h2, h3, h4, h5⟩ := hb
  have q1 := hg.block kb h1 (fun e => hk (Option.some.inj e))
  have q2 := hg.block fb h2 (fun e => hf (Option.some.inj e))
  exact cmpA_any x y kb fb _ ⟨Nat.lt_of_lt_of_le h1 hg.size, Nat.lt_of_lt_of_le h2 hg.size, (World.cell?_of_block (w := W) q1).trans h3, (World.cell?_of_block (w := W) q2).trans h4, (World.cell?_of_block (w := W) q2).trans h5⟩
theorem sortFuncA_some (base g kb fb cap : Nat) (zs : List Rep) (W : World) (hb : ByA W kb fb) (hk : kb ≠ g) (hf : fb ≠ g) (hg : g < W.heap.size) (hown : W.ownsRow base 47 8 (.slice (some ⟨g, 0, none⟩) zs.length cap) zs.length (zs.flatMap repCells)) (hz : zs.length ≤ 1000) :
    Calls Tryd.prog 49 #[.slice (some ⟨g, 0, none⟩) zs.length cap, .func (.func 43) #[] #[.pointer (some ⟨kb, 0, none⟩)]] W fun e w' =>
      e = .returned (.tuple #[]) ∧ ∃ l' : List Rep, l'.Perm zs ∧ l'.Pairwise leA ∧ w'.ownsRow base 47 8 (.slice (some ⟨g, 0, none⟩) zs.length cap) zs.length (l'.flatMap repCells) ∧ W.grownBy w' (some g) := by
  have h := AnyQ.slices_SortFunc Tryd.sortRep 8 Tryd.isAgg47 Tryd.sizeOf47 repCells repCells_l8 repCells_one (fun x y : Rep => lexI (Lib.compareInt x.about y.about) (Lib.compareInt x.id y.id)) swoA 43 #[.pointer (some ⟨kb, 0, none⟩)] g 0 cap zs.toArray W
    (enters_of Tryd.func43 (by kernel_rfl) rfl) (cmpA_lays kb fb g _ W hb hk hf) (holdsK_of_own hown) hg (by simp; omega)
  rw [List.size_toArray] at h
  refine h.mono fun e w' ⟨he, d', n, os, hp, hs, hw⟩ => ⟨he, d'.toList, ?_, ?_, ?_, ?_⟩
  · have := hp.2.2
    rw [List.extract_toArray] at this
    have hs' : d'.toList.length = zs.length := by have := hp.1; simpa using this
    simp only [Nat.sub_zero, List.drop_zero, Array.toList_extract, List.extract_eq_take_drop, List.take_of_length_le (Nat.le_refl _), List.take_of_length_le (Nat.le_of_eq hs')] at this
    simpa using this
  · rw [List.pairwise_iff_getElem]
    intro i j hi hj hij
    have hs' : d'.size = zs.length := by have := hp.1; simpa using this
    simp only [Array.length_toList] at hi hj
    have := hs i j (Nat.zero_le _) hij (by omega)
    rw [ltOfA, decide_eq_false_iff_not] at this
    simp only [getElem!_pos, hi, hj] at this
    show d'.toList[i].about < d'.toList[j].about ∨ d'.toList[i].about = d'.toList[j].about ∧ d'.toList[i].id ≤ d'.toList[j].id
    simp only [Array.getElem_toList]
    omega
  · subst hw
    exact own_sorted hown (by have := hp.1; simpa using this) hg
  · subst hw; exact grownBy_sortK d'

set_option maxHeartbeats 1000000 in
theorem sortedM_any (Bs b nn : Nat) (L : List Rep) (hz : L.length ≤ 1000) (hL : (L.map Rep.id).Nodup) (kb fb : Nat) (w : World) (hBs : Bs < w.heap.size) (hc : w.cell? ⟨Bs, 0, none⟩ = some (.map (some b))) (hM : MapFn w Tryd.prog 3 b nn (repG L)) (hb : ByM w kb fb) :
    Calls Tryd.prog 42 #[.func (.func 51) #[] #[.pointer (some ⟨Bs, 0, none⟩)], .func (.func 43) #[] #[.pointer (some ⟨kb, 0, none⟩)]] w fun e w' =>
      ∃ A' c', ∃ l' : List Rep, e = .returned (.slice A' l'.length c') ∧ l'.Perm L ∧ l'.Pairwise leM ∧ w'.ownsRow w.heap.size 47 8 (.slice A' l'.length c') l'.length (l'.flatMap repCells) ∧ Below w.heap.size w w' := by
  have HC := Lib.hid (collectM_any Bs b nn L hz hL w hBs hc hM)
  clear hc hM
  go_enter Tryd.func42, Tryd.ntmps42
  go_wp2_with (go_at_call 12; with_reducible refine (HC.out).mono ?_; rintro e w1 ⟨v, zs, rfl, hpz, hown, hb1⟩)
  have hzz : zs.length ≤ 1000 := Nat.le_trans (Nat.le_of_eq hpz.length_eq) hz
  obtain ⟨hk0, hf0, hbk, hbf, hbf1⟩ := hb
  have hB1 : ByM w1 kb fb := ⟨Nat.lt_of_lt_of_le hk0 hb1.size, Nat.lt_of_lt_of_le hf0 hb1.size, (hb1.cell (p := ⟨kb, 0, none⟩) hk0).trans hbk, (hb1.cell (p := ⟨fb, 0, none⟩) hf0).trans hbf, (hb1.cell (p := ⟨fb, 1, none⟩) hf0).trans hbf1⟩
  have hz1 := hb1.size
  have HB1 := Lib.hid hB1
  clear hB1 hbk hbf hbf1
  have Hown := Lib.hid hown
  have Hpz := Lib.hid hpz
  clear hpz
  rcases hown.2 with ⟨rfl, h0⟩ | ⟨g, cap1, cur, rfl, hbase, hbg, h1, h2, h3, h4⟩
  · have hnil : zs = [] := List.eq_nil_of_length_eq_zero h0
    subst hnil
    have HS := Lib.hid (sortFuncR_none (.func (.func 43) #[] #[.pointer (some ⟨kb, 0, none⟩)]) w1)
    clear hown
    go_wp2_with (go_at_call 49; with_reducible refine (HS.out).mono ?_; rintro e w2 ⟨rfl, rfl⟩)
    go_ret
    exact ⟨none, 0, [], rfl, Hpz.out, List.Pairwise.nil, World.ownsRow_nil _ _ _ _, hb1⟩
  · have hg : g < w1.heap.size := (Array.getElem?_eq_some_iff.1 hbg).1
    have HS := Lib.hid (sortFuncM_some w.heap.size g kb fb cap1 zs w1 HB1.out (by omega) (by omega) hg hown hzz)
    clear hown hbg h4 h3
    go_wp2_with (go_at_call 49; with_reducible refine (HS.out).mono ?_; rintro e w2 ⟨rfl, l', hp, hs, hP, hg2⟩)
    go_ret
    have hlen : l'.length = zs.length := hp.length_eq
    exact ⟨some ⟨g, 0, none⟩, cap1, l', by rw [hlen]; rfl, hp.trans Hpz.out, hs, by rw [hlen]; exact hP, hb1.grown hg2 hz1 (fun k e => by cases e; exact hbase)⟩

set_option maxHeartbeats 1000000 in
theorem byM_any (Bs b nn : Nat) (L : List Rep) (hz : L.length ≤ 1000) (hL : (L.map Rep.id).Nodup) (fb : Nat) (w : World) (hBs : Bs < w.heap.size) (hc : w.cell? ⟨Bs, 0, none⟩ = some (.map (some b))) (hM : MapFn w Tryd.prog 3 b nn (repG L)) (hfb : fb < w.heap.size) (hf0 : w.cell? ⟨fb, 0, none⟩ = some (.func (.func 46) #[] #[])) (hf1 : w.cell? ⟨fb, 1, none⟩ = some (.func (.func 34) #[] #[])) :
    Calls Tryd.prog 32 #[.func (.func 51) #[] #[.pointer (some ⟨Bs, 0, none⟩)], .slice (some ⟨fb, 0, none⟩) 2 2] w fun e w' =>
      ∃ A' c', ∃ l' : List Rep, e = .returned (.slice A' l'.length c') ∧ l'.Perm L ∧ l'.Pairwise leM ∧ w'.ownsRow w.heap.size 47 8 (.slice A' l'.length c') l'.length (l'.flatMap repCells) ∧ Below w.heap.size w w' := by
  have hb1 : Below w.heap.size w (w.alloc (.cells #[.slice (some ⟨fb, 0, none⟩) 2 2] 73)) := (Below.refl _ _).alloc (Nat.le_refl _) _
  have k0 := Blk.new w #[.slice (some ⟨fb, 0, none⟩) 2 2] 73
  have hB : ByM (w.alloc (.cells #[.slice (some ⟨fb, 0, none⟩) 2 2] 73)) w.heap.size fb := ⟨k0.lt, Nat.lt_of_lt_of_le hfb hb1.size, k0.cell 0, (hb1.cell (p := ⟨fb, 0, none⟩) hfb).trans hf0, (hb1.cell (p := ⟨fb, 1, none⟩) hfb).trans hf1⟩
  have HS := Lib.hid (sortedM_any Bs b nn L hz hL w.heap.size fb _ (Nat.lt_of_lt_of_le hBs hb1.size) ((hb1.cell (p := ⟨Bs, 0, none⟩) hBs).trans hc) (hM.below hb1 hM.lt) hB)
  clear hc hM hf0 hf1 hB k0
  go_enter Tryd.func32, Tryd.ntmps32
  go_wp2_with (go_at_call 42; with_reducible refine (HS.out).mono ?_; rintro e w2 ⟨A', c', l', rfl, hp, hs, hown, hb2⟩)
  go_ret
  exact ⟨A', c', l', rfl, hp, hs, own_low hown hb1.size, hb1.trans (hb2.mono hb1.size)⟩

set_option maxHeartbeats 1000000 in
theorem sortedA_any (Bs : Nat) (A : Option Addr) (cap : Nat) (L : List Rep) (hz : L.length ≤ 1000) (kb fb : Nat) (w : World) (hBs : Bs < w.heap.size) (hc : w.cell? ⟨Bs, 0, none⟩ = some (.slice A L.length cap)) (hS : Reps w w.heap.size A L) (hb : ByA w kb fb) :
    Calls Tryd.prog 42 #[.func (.func 41) #[] #[.pointer (some ⟨Bs, 0, none⟩)], .func (.func 43) #[] #[.pointer (some ⟨kb, 0, none⟩)]] w fun e w' =>
      ∃ A' c', ∃ l' : List Rep, e = .returned (.slice A' l'.length c') ∧ l'.Perm L ∧ l'.Pairwise leA ∧ w'.ownsRow w.heap.size 47 8 (.slice A' l'.length c') l'.length (l'.flatMap repCells) ∧ Below w.heap.size w w' := by
  have HC := Lib.hid (collectR_any Bs w.heap.size A cap L hz w hBs (Nat.le_refl _) hc hS)
  clear hc hS
  go_enter Tryd.func42, Tryd.ntmps42
  go_wp2_with (go_at_call 12; with_reducible refine (HC.out).mono ?_; rintro e w1 ⟨v, rfl, hown, hb1⟩)
  obtain ⟨zs, rfl⟩ : ∃ zs, zs = L := ⟨_, rfl⟩
  have hzz := hz
  have hpz := List.Perm.refl zs
  obtain ⟨hk0, hf0, hbk, hbf, hbf1⟩ := hb
  have hB1 : ByA w1 kb fb := ⟨Nat.lt_of_lt_of_le hk0 hb1.size, Nat.lt_of_lt_of_le hf0 hb1.size, (hb1.cell (p := ⟨kb, 0, none⟩) hk0).trans hbk, (hb1.cell (p := ⟨fb, 0, none⟩) hf0).trans hbf, (hb1.cell (p := ⟨fb, 1, none⟩) hf0).trans hbf1⟩
  have hz1 := hb1.size
  have HB1 := Lib.hid hB1
  clear hB1 hbk hbf hbf1
  have Hown := Lib.hid hown
  have Hpz := Lib.hid hpz
  clear hpz
  rcases hown.2 with ⟨rfl, h0⟩ | ⟨g, cap1, cur, rfl, hbase, hbg, h1, h2, h3, h4⟩
  · have hnil : zs = [] := List.eq_nil_of_length_eq_zero h0
    subst hnil
    have HS := Lib.hid (sortFuncR_none (.func (.func 43) #[] #[.pointer (some ⟨kb, 0, none⟩)]) w1)
    clear hown
    go_wp2_with (go_at_call 49; with_reducible refine (HS.out).mono ?_; rintro e w2 ⟨rfl, rfl⟩)
    go_ret
    exact ⟨none, 0, [], rfl, Hpz.out, List.Pairwise.nil, World.ownsRow_nil _ _ _ _, hb1⟩
  · have hg : g < w1.heap.size := (Array.getElem?_eq_some_iff.1 hbg).1
    have HS := Lib.hid (sortFuncA_some w.heap.size g kb fb cap1 zs w1 HB1.out (by omega) (by omega) hg hown hzz)
    clear hown hbg h4 h3
    go_wp2_with (go_at_call 49; with_reducible refine (HS.out).mono ?_; rintro e w2 ⟨rfl, l', hp, hs, hP, hg2⟩)
    go_ret
    have hlen : l'.length = zs.length := hp.length_eq
    exact ⟨some ⟨g, 0, none⟩, cap1, l', by rw [hlen]; rfl, hp.trans Hpz.out, hs, by rw [hlen]; exact hP, hb1.grown hg2 hz1 (fun k e => by cases e; exact hbase)⟩

set_option maxHeartbeats 1000000 in
theorem byA_any (Bs : Nat) (A : Option Addr) (cap : Nat) (L : List Rep) (hz : L.length ≤ 1000) (fb : Nat) (w : World) (hBs : Bs < w.heap.size) (hc : w.cell? ⟨Bs, 0, none⟩ = some (.slice A L.length cap)) (hS : Reps w w.heap.size A L) (hfb : fb < w.heap.size) (hf0 : w.cell? ⟨fb, 0, none⟩ = some (.func (.func 33) #[] #[])) (hf1 : w.cell? ⟨fb, 1, none⟩ = some (.func (.func 34) #[] #[])) :
    Calls Tryd.prog 32 #[.func (.func 41) #[] #[.pointer (some ⟨Bs, 0, none⟩)], .slice (some ⟨fb, 0, none⟩) 2 2] w fun e w' =>
      ∃ A' c', ∃ l' : List Rep, e = .returned (.slice A' l'.length c') ∧ l'.Perm L ∧ l'.Pairwise leA ∧ w'.ownsRow w.heap.size 47 8 (.slice A' l'.length c') l'.length (l'.flatMap repCells) ∧ Below w.heap.size w w' := by
  have hb1 : Below w.heap.size w (w.alloc (.cells #[.slice (some ⟨fb, 0, none⟩) 2 2] 73)) := (Below.refl _ _).alloc (Nat.le_refl _) _
  have k0 := Blk.new w #[.slice (some ⟨fb, 0, none⟩) 2 2] 73
  have hB : ByA (w.alloc (.cells #[.slice (some ⟨fb, 0, none⟩) 2 2] 73)) w.heap.size fb := ⟨k0.lt, Nat.lt_of_lt_of_le hfb hb1.size, k0.cell 0, (hb1.cell (p := ⟨fb, 0, none⟩) hfb).trans hf0, (hb1.cell (p := ⟨fb, 1, none⟩) hfb).trans hf1⟩
  have HS := Lib.hid (sortedA_any Bs A cap L hz w.heap.size fb _ (Nat.lt_of_lt_of_le hBs hb1.size) ((hb1.cell (p := ⟨Bs, 0, none⟩) hBs).trans hc) (hS.later hb1) hB)
  clear hc hS hf0 hf1 hB k0
  go_enter Tryd.func32, Tryd.ntmps32
  go_wp2_with (go_at_call 42; with_reducible refine (HS.out).mono ?_; rintro e w2 ⟨A', c', l', rfl, hp, hs, hown, hb2⟩)
  go_ret
  exact ⟨A', c', l', rfl, hp, hs, own_low hown hb1.size, hb1.trans (hb2.mono hb1.size)⟩

end Go.Proofs.YtliijiflbfgfaaaDoor
