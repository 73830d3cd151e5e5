/- Reasons by the program: lists of numbers put in order by their length, then by their numbers. -/
import Derived.Test.YtpahcbhikmfamaaGreatRP3
import Derived.Test.YtpahcbhikmfamaaGreatRShelf

namespace Go.Proofs.YtpahcbhikmfamaaGreat
open Go.RowKit Go.Shelf Go.Maps

/-- A list lies in W, but not in block g. -/
def StOk (W : World) (g : Nat) (x : StD) : Prop := x.l.length ≤ 1000 ∧ ∀ k, (h : k < x.l.length) → ∃ b off, x.A = some ⟨b, off, none⟩ ∧ b < W.heap.size ∧ b ≠ g ∧ W.cell? ⟨b, off + k, none⟩ = some (.int .i64 x.l[k])
abbrev StX (W : World) (g : Nat) : Type := {x : StD // StOk W g x}
instance (W : World) (g : Nat) : Inhabited (StX W g) := ⟨⟨⟨[], none, 0⟩, ⟨by simp, fun k h => by simp at h⟩⟩⟩
def encX {W : World} {g : Nat} (x : StX W g) : Value := .slice x.1.A x.1.l.length x.1.a
def cfX {W : World} {g : Nat} (x y : StX W g) : Int := cmpS x.1.l y.1.l
theorem StOk.ints {W W' : World} {g : Nat} {x : StD} (h : StOk W g x) (hg : W.grownBy W' (some g)) : IntsAt W' W'.heap.size x.A x.l := fun k hk => by
  obtain ⟨b, off, e, hb, hne, hc⟩ := h.2 k hk
  refine ⟨b, off, e, Nat.lt_of_lt_of_le hb hg.size, fun i hi => ?_⟩
  obtain rfl : i = 0 := by omega
  rw [Nat.mul_one, Nat.add_zero]
  exact (World.cell?_of_block (hg.block b hb (fun e => hne (Option.some.inj e)))).trans hc
theorem ltOfX {W : World} {g : Nat} (x y : StX W g) : ltOf cfX x y = decide (cmpS x.1.l y.1.l < 0) := by
  unfold ltOf cfX
  rfl
theorem swoX (W : World) (g : Nat) : Sort.SWO (ltOf (cfX (W := W) (g := g))) where
  irrefl x := by rw [ltOfX]; simpa using cmpS_irrefl x.1.l
  trans x y z h1 h2 := by
    rw [ltOfX, decide_eq_true_eq] at *
    exact cmpS_trans h1 h2
  ntrans x y z h1 h2 := by
    rw [ltOfX, decide_eq_false_iff_not] at *
    intro h3
    rcases cmpS_flip x.1.l y.1.l with h4 | h4 | h4
    · exact h1 h4
    · rw [cmpS_zero.1 h4] at h3; exact h2 h3
    · exact h2 (cmpS_trans h4 h3)
theorem grownBy_sortX {W : World} {g n : Nat} {os : Array Obj} (d : Array (StX W g)) : W.grownBy (sortWorld encX W g 0 n d os) (some g) := by
  unfold sortWorld
  refine ⟨rfl, rfl, rfl, by simp, fun j hj hne => ?_⟩
  rw [Sort.heap_grow_old _ _ (by simpa using hj)]
  have : g ≠ j := fun e => hne (by rw [e])
  simp [Sort.putRow, Sort.mapBlock, Sort.ahead, Array.getElem?_modify, this]
theorem cmpX_lays (g n : Nat) (W : World) : CmpLays1 Tryz.prog 50 #[] encX (cfX (W := W) (g := g)) g 0 n W := fun m os dk _ x y => by
  have hg := grownBy_sortX (n := m) (os := os) dk
  exact setsCmp_any x.1.l y.1.l x.1.A y.1.A x.1.a y.1.a _ (x.2.ints hg) (y.2.ints hg) x.2.1
theorem attachX {W : World} {g : Nat} : ∀ ls : List StD, (∀ y ∈ ls, StOk W g y) → ∃ xs : List (StX W g), xs.map Subtype.val = ls
  | [], _ => ⟨[], rfl⟩
  | y :: ls, h => by
    obtain ⟨xs, hx⟩ := attachX ls (fun z hz => h z (List.mem_cons_of_mem _ hz))
    exact ⟨⟨y, h y (List.mem_cons_self ..)⟩ :: xs, by rw [List.map_cons, hx]⟩
theorem holdsX {W : World} {base g n c : Nat} {xs : List (StX W g)} (h : W.ownsRow base 26 1 (.slice (some ⟨g, 0, none⟩) n c) n ((xs.map Subtype.val).flatMap stC)) : Sort.Holds encX W g 0 xs.toArray := by
  have hn : n = xs.length := by have := h.1; rw [flat_len stC_len, List.length_map] at this; omega
  subst hn
  intro t ht
  have ht' : t < xs.length := by simpa using ht
  refine ⟨?_, by rw [Nat.zero_add]; exact h.frozenAt t⟩
  rw [Nat.zero_add, h.cellAt t (by omega)]
  have := flat_get stC_len (xs.map Subtype.val) t (by simpa using ht') 0 (by decide)
  rw [Nat.mul_one, Nat.add_zero] at this
  rw [this]
  simp [stC, encX, ht']
theorem StInv.ok {w : World} {lo c n g : Nat} {l : List StD} (h : StInv w lo (some ⟨g, 0, none⟩) c n l) (hl : ∀ y ∈ l, y.l.length ≤ 1000) (hg : (Value.slice (some ⟨g, 0, none⟩) n c).ownBlock = some g) : ∀ y ∈ l, StOk w g y := fun y hy => ⟨hl y hy, fun k hk => by
  obtain ⟨b, off, e, _, hb, hr, hc⟩ := h.2.2 y hy k hk
  refine ⟨b, off, e, hb, fun e' => hr (by rw [hg, e']), ?_⟩
  have := hc 0 (by decide)
  rw [Nat.mul_one, Nat.add_zero] at this
  rw [this]; rfl⟩
/-- The outer row, in order, and what its lists hold. -/
def StFin (w : World) (A : Option Addr) (l : List StD) : Prop := Flat 1 stC w w.heap.size A l ∧ ∀ y ∈ l, IntsAt w w.heap.size y.A y.l
set_option maxHeartbeats 1000000 in
theorem sortSets_some {W : World} (g n cap : Nat) (xs : List (StX W g)) (hn : n = xs.length) (hg : g < W.heap.size) (hH : Sort.Holds encX W g 0 xs.toArray) (hz : xs.length ≤ 1000) :
    Calls Tryz.prog 49 #[.slice (some ⟨g, 0, none⟩) n cap, .func (.func 50) #[] #[]] W fun e w' =>
      e = .returned (.tuple #[]) ∧ (∃ ls' : List StD, ls'.Perm (xs.map Subtype.val) ∧ ls'.Pairwise (fun x y => ¬ cmpS y.l x.l < 0) ∧ StFin w' (some ⟨g, 0, none⟩) ls') ∧ W.grownBy w' (some g) := by
  have h := Any.slices_SortFunc Tryz.sortSets encX (fun _ => rfl) cfX (swoX W g) 50 #[] g 0 cap xs.toArray W
    (enters_of Tryz.func50 (by kernel_rfl) rfl) (cmpX_lays g _ W) hH hg (by simp; omega)
  rw [List.size_toArray, ← hn] at h
  refine h.mono fun e w' ⟨he, d', m, os, hp, hs, hw⟩ => ⟨he, ⟨d'.toList.map Subtype.val, ?_, ?_, ?_⟩, ?_⟩
  · have hs' : d'.toList.length = xs.length := by have := hp.1; simpa using this
    have := hp.2.2
    rw [List.extract_toArray] at this
    simp only [Nat.sub_zero, List.drop_zero, Array.toList_extract, List.extract_eq_take_drop, List.take_of_length_le (Nat.le_of_eq hn.symm), List.take_of_length_le (Nat.le_of_eq (hs'.trans hn.symm))] at this
    exact (by simpa using this : d'.toList.Perm xs).map _
  · have hs' : d'.size = xs.length := by have := hp.1; simpa using this
    rw [List.pairwise_map, List.pairwise_iff_getElem]
    intro i j hi hj hij
    simp only [Array.length_toList] at hi hj
    have := hs i j (Nat.zero_le _) hij (by omega)
    rw [ltOfX, decide_eq_false_iff_not] at this
    simp only [getElem!_pos, hi, hj] at this
    simpa using this
  · subst hw
    have hsz : d'.size = xs.length := by have := hp.1; simpa using this
    have hgr := grownBy_sortX (n := m) (os := os) d'
    have hH2 : Sort.Holds encX (sortWorld encX W g 0 m d' os) g 0 d' := by
      unfold sortWorld
      exact Sort.holds_grow _ _ _ _ _ _ (by simpa [Sort.putRow, Sort.mapBlock, Sort.ahead] using hg) (Sort.holds_putRow _ _ _ _ xs.toArray _ hH (by simp [hsz]))
    refine ⟨fun k hk => ⟨g, 0, rfl, Nat.lt_of_lt_of_le hg hgr.size, fun i hi => ?_⟩, fun y hy => ?_⟩
    · obtain rfl : i = 0 := by omega
      have hk' : k < d'.size := by simpa using hk
      have := (hH2 k hk').1
      rw [Nat.mul_one, Nat.add_zero, this]
      simp [stC, encX, hk']
    · obtain ⟨x, _, rfl⟩ := List.mem_map.1 hy
      exact x.2.ints hgr
  · subst hw; exact grownBy_sortX _
end Go.Proofs.YtpahcbhikmfamaaGreat
