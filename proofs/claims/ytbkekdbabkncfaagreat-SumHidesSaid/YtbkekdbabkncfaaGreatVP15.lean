/- Whose value follows, by the program. Written by v15.py. -/
import Derived.Test.YtbkekdbabkncfaaGreatW4
import Derived.Test.YtbkekdbabkncfaaGreatVShelf
import Derived.Sort.OwnSorted

namespace Go.Proofs.YtbkekdbabkncfaaGreat
open Go.RowKit Go.Maps Go.Shelf

theorem sortI_none (p : Option Addr) (c : Nat) (W : World) : Calls Tryz.prog 73 #[.slice p 0 c] W fun e w' => e = .returned (.tuple #[]) ∧ w' = W := AnyM.slices_Sort_int_none Tryz.sortInt p c W
theorem holds_of_ownI {w : World} {base g n c : Nat} {l : List Int} (h : w.ownsRow base 3 1 (.slice (some ⟨g, 0, none⟩) n c) n (l.map (Value.int .i64))) : Sort.Holds (Value.int .i64) w g 0 l.toArray := by
  have hn : n = l.length := by have := h.1; simp at this; omega
  subst hn
  intro t ht
  have ht' : t < l.length := by simpa using ht
  refine ⟨?_, by rw [Nat.zero_add]; exact h.frozenAt t⟩
  rw [Nat.zero_add, h.cellAt t (by omega)]
  simp [ht']
theorem grownBy_row {w : World} {g q : Nat} (d : Array Int) : w.grownBy (Sort.putRow (Value.int .i64) (Sort.ahead w q) g 0 d) (some g) := by
  refine ⟨rfl, rfl, rfl, by simp [Sort.putRow, Sort.mapBlock, Sort.ahead], fun j hj hne => ?_⟩
  have : g ≠ j := fun e => hne (by rw [e])
  simp [Sort.putRow, Sort.mapBlock, Sort.ahead, Array.getElem?_modify, this]
theorem grownBy_rowGrow {w : World} {g q : Nat} {os : Array Obj} (d : Array Int) : w.grownBy (Sort.grow (Sort.putRow (Value.int .i64) (Sort.ahead w q) g 0 d) os) (some g) := by
  refine ⟨rfl, rfl, rfl, by simp [Sort.putRow, Sort.mapBlock, Sort.ahead, Sort.grow], fun j hj hne => ?_⟩
  rw [Sort.heap_grow_old _ _ (by simpa [Sort.putRow, Sort.mapBlock, Sort.ahead] using hj)]
  have : g ≠ j := fun e => hne (by rw [e])
  simp [Sort.putRow, Sort.mapBlock, Sort.ahead, Array.getElem?_modify, this]
theorem sortI_some (g cap : Nat) (zs : List Int) (W : World) (hg : g < W.heap.size) (hH : Sort.Holds (Value.int .i64) W g 0 zs.toArray) (hz : zs.length ≤ 1000) :
    Calls Tryz.prog 73 #[.slice (some ⟨g, 0, none⟩) zs.length cap] W fun e w' =>
      e = .returned (.tuple #[]) ∧ Sort.Holds (Value.int .i64) w' g 0 (zs.mergeSort fun x y => decide (x ≤ y)).toArray ∧ W.grownBy w' (some g) :=
  (AnyM.slices_Sort_int Tryz.sortInt g 0 cap zs W hH hg (by omega)).mono fun e w' ⟨he, n, os, hw⟩ => by
    subst hw
    exact ⟨he, Sort.holds_grow _ _ _ _ _ _ (by simpa [Sort.putRow, Sort.mapBlock, Sort.ahead] using hg) (Sort.holds_putRow _ _ _ _ zs.toArray _ hH (by simp)), grownBy_rowGrow _⟩

theorem flat_ints : ∀ l : List Int, l.flatMap intC = l.map (Value.int .i64)
  | [] => rfl
  | x :: r => by rw [List.flatMap_cons, flat_ints r]; rfl
def freeB (l : Led) : Bool := (fndF l.e.fs (l.at_ + 1)).isSome
def dedL (ids : List Int) (ls : List Led) : List Int := (ls.filter fun l => !(freeB l)).map fun l => ids.getD l.at_ 0
def srtI (l : List Int) : List Int := l.mergeSort fun x y => decide (x ≤ y)
theorem ded_snocV (ids : List Int) (ls : List Led) (l : Led) : dedL ids (ls ++ [l]) = dedL ids ls ++ if freeB l = true then [] else [ids.getD l.at_ 0] := by
  unfold dedL
  rw [List.filter_append, List.map_append]
  cases h : freeB l <;> simp [h]
theorem ded_lenV (ids : List Int) (ls : List Led) : (dedL ids ls).length ≤ ls.length := by
  unfold dedL
  rw [List.length_map]
  exact List.length_filter_le _ _

set_option maxRecDepth 100000 in
set_option maxHeartbeats 8000000 in
theorem deduced_any (I : Option Addr) (ids : List Int) (c m : Nat) (L : List LedD) (A : Option Addr) (d : Nat) (w : World) (hI : IntsAt w w.heap.size I ids) (h : LedsAt w A L) (hl : L.length ≤ 1000) (hat : ∀ x ∈ L, x.v.at_ < ids.length) (hn : ids.length ≤ 1000) :
    Calls Tryz.prog 45 #[.agg #[.slice I ids.length c, .map (some m), .slice A L.length d]] w (IntsPost w (srtI (dedL ids (L.map LedD.v)))) := by
  obtain ⟨i4, hi4, hq0, hq1, hq2⟩ := info_parts intInfo
  have b1 := (Below.refl w.heap.size w).alloc (Nat.le_refl _) (.cells #[.slice I ids.length c, .map (some m), .slice A L.length d] 79)
  have k1 := Blk.new w #[.slice I ids.length c, .map (some m), .slice A L.length d] 79
  have HH := Lib.hid h
  have HIs := Lib.hid hI
  have HAt := Lib.hid hat
  have k1c := k1.cell
  have g1 := k1.lt
  clear h hI hat
  go_enter Tryz.func45, Tryz.ntmps45
  go_wp2_with fail
  generalize hW1 : w.alloc (.cells #[.slice I ids.length c, .map (some m), .slice A L.length d] 79) = W1 at *
  have hz1 : W1.heap.size = w.heap.size + 1 := by subst hW1; simp
  clear hW1
  have HI0 : Hid (W1.ownsRow W1.heap.size 3 1 (.slice none 0 0) (dedL ids ((L.map LedD.v).take 0)).length ((dedL ids ((L.map LedD.v).take 0)).flatMap intC) ∧ Below w.heap.size w W1 ∧ Blk W1 w.heap.size #[.slice I ids.length c, .map (some m), .slice A L.length d] 79) := Lib.hid ⟨World.ownsRow_nil _ _ _ _, b1, k1⟩
  clear b1
  go_loopw [3, 11] (fun oo ii wr => ∃ (i : Nat) (A2 : Option Addr) (c2 : Nat), i ≤ L.length ∧ oo = .slice A2 (dedL ids ((L.map LedD.v).take i)).length c2 ∧ ii = .int .i64 i ∧ Hid (wr.ownsRow W1.heap.size 3 1 (.slice A2 (dedL ids ((L.map LedD.v).take i)).length c2) (dedL ids ((L.map LedD.v).take i)).length ((dedL ids ((L.map LedD.v).take i)).flatMap intC) ∧ Below w.heap.size w wr ∧ Blk wr w.heap.size #[.slice I ids.length c, .map (some m), .slice A L.length d] 79)) (fun _ ii _ => L.length - (vInt ii).toNat)
  case atStart => exact ⟨0, none, 0, Nat.zero_le _, by simp [dedL], by first | rfl | go_num, HI0⟩
  case round =>
    obtain ⟨i, A2, c2, hi, rfl, rfl, hR⟩ := hrel
    clear HI0
    obtain ⟨ho, hB, ka⟩ := hR.out
    by_cases hlt : i < L.length
    · have hil : (i : Int) < (L.length : Int) := by omega
      obtain ⟨b0, off0, hA, hb0, c0, c1, c2'⟩ := led_at (HH.out.later hB) hlt
      have hay := HAt.out _ (List.getElem_mem hlt)
      have HD := Lib.hid (fun W (hb : Below w.heap.size w W) => depends_any L[i].v L[i].F L[i].P L[i].f L[i].p W ((HH.out.later hb).each _ (List.getElem_mem hlt)) (by omega))
      have hst : dedL ids ((L.map LedD.v).take (i + 1)) = dedL ids ((L.map LedD.v).take i) ++ if freeB L[i].v = true then [] else [ids.getD L[i].v.at_ 0] := by
        rw [List.take_succ_eq_append_getElem (by simpa using hlt), List.getElem_map, ded_snocV]
      rw [getD_lt _ _ hay] at hst
      obtain ⟨bi, oi, hI2, hbi, q0⟩ := ints_at HIs.out hay
      have hdl : (dedL ids ((L.map LedD.v).take i)).length ≤ 1000 := by
        have h1 := ded_lenV ids ((L.map LedD.v).take i)
        simp at h1
        omega
      have HO := Lib.hid ho
      generalize hdd : dedL ids ((L.map LedD.v).take i) = dd at *
      generalize ids[L[i].v.at_] = z at *
      generalize L[i] = y at *
      have HSt := Lib.hid hst
      clear hst ho hR hdd
      subst hA
      subst hI2
      have hatI : (y.v.at_ : Int) < (ids.length : Int) := by omega
      have kb := Blk.new wr #[.slice y.F y.v.e.fs.length y.f, .slice y.P y.v.e.ps.length y.p, .int .i64 y.v.at_] 116
      have bA := (Below.refl wr.heap.size wr).alloc (Nat.le_refl _) (.cells #[.slice y.F y.v.e.fs.length y.f, .slice y.P y.v.e.ps.length y.p, .int .i64 y.v.at_] 116)
      have eA := hB.trans (bA.mono hB.size)
      have kaA := ka.alloc (.cells #[.slice y.F y.v.e.fs.length y.f, .slice y.P y.v.e.ps.length y.p, .int .i64 y.v.at_] 116)
      have HOA := Lib.hid (own_below HO.out bA)
      cases hq : freeB y.v with
      | true =>
        unfold freeB at hq
        rw [hq] at HD
        rw [show freeB y.v = true from hq] at HSt
        go_wp2_with (go_at_call 67; (with_reducible refine (HD.out _ eA).mono ?_); rintro e w2 ⟨rfl, h2⟩; have e2 := eA.trans (h2.mono eA.size))
        go_roundw
        case rel =>
          refine ⟨i + 1, A2, c2, by omega, ?_, by go_num, ?_⟩
          · rw [HSt.out]; simp
          · rw [HSt.out]
            refine Lib.hid ⟨?_, e2, kaA.below h2 kaA.lt⟩
            have := own_below HOA.out h2
            simpa using this
        case measure => simp [vInt]; omega
      | false =>
        unfold freeB at hq
        rw [hq] at HD
        rw [show freeB y.v = false from hq] at HSt
        go_upto_region 7 with (go_at_call 67; (with_reducible refine (HD.out _ eA).mono ?_); rintro e w2 ⟨rfl, h2⟩; have e2 := eA.trans (h2.mono eA.size); have kb2c := (kb.below h2 kb.lt).cell; have ka2 := kaA.below h2 kaA.lt; have ka2c := ka2.cell; have q2 := (e2.cell (p := ⟨bi, oi + y.v.at_, none⟩) hbi).trans q0; have HO2 := Lib.hid ((own_below HOA.out h2).alloc (.cells #[.int .i64 z] 3)); have HNw := Lib.hid (int_new w2 z 3); have hs2 := ka2.lt)
        go_wp2_with (at_builtin; refine wpList_append_own_at _ rfl _ _ 32 rfl W1.heap.size 3 i4 _ 1 8 Tryz.underlying32 hi4 hq0 hq1 hq2 rfl (by decide) _ _ _ rfl HO2.out ⟨w2.heap.size, 0, none⟩ 1 1 (intC z) rfl rfl HNw.out (intC_one _) (by unfold maxLen; omega) (by omega) (by simp; omega) ?_; intro v' w4 hown4 hg4 hor4 hat4; obtain ⟨A3, c3, rfl⟩ := own_slice hown4)
        have hB4 := (e2.alloc e2.size (.cells #[.int .i64 z] 3)).grown hg4 (by simp; omega) (fun k e => Nat.le_trans (show w.heap.size ≤ W1.heap.size by omega) (HO2.out.lt k e).1)
        have ka4 : Blk w4 w.heap.size _ _ := (hg4.block w.heap.size (by simp; omega) (fun e => by have := (HO2.out.lt w.heap.size e.symm).1; omega)).trans (ka2.alloc (.cells #[.int .i64 z] 3))
        go_roundw
        case rel =>
          refine ⟨i + 1, A3, c3, by omega, ?_, by go_num, ?_⟩
          · rw [HSt.out]; simp
          · rw [HSt.out]
            refine Lib.hid ⟨?_, hB4, ka4⟩
            rw [List.flatMap_append]
            simpa using hown4
        case measure => simp [vInt]; omega
    · have hil : ¬ (i : Int) < (L.length : Int) := by omega
      obtain rfl : i = L.length := by omega
      have h1 : (L.map LedD.v).take L.length = L.map LedD.v := List.take_of_length_le (by simp)
      rw [h1] at ho
      rw [h1]
      have hdl : (dedL ids (L.map LedD.v)).length ≤ 1000 := by
        have h2 := ded_lenV ids (L.map LedD.v)
        simp at h2
        omega
      clear hR h1
      generalize dedL ids (L.map LedD.v) = dd at *
      by_cases hd0 : dd.length = 0
      · obtain rfl : dd = [] := List.eq_nil_of_length_eq_zero hd0
        have HS := Lib.hid (sortI_none A2 c2 wr)
        clear ho
        go_wp2_with (go_at_call 73; (with_reducible refine (HS.out).mono ?_); rintro e w5 ⟨rfl, rfl⟩)
        go_ret
        exact ⟨A2, c2, by simp [srtI], fun k hk => by simp [srtI] at hk, hB⟩
      · obtain ⟨g, cap, hv, hgb, hglt⟩ := ho.form (by omega)
        simp only [Value.slice.injEq, true_and] at hv
        obtain ⟨rfl, rfl⟩ := hv
        have hH := holds_of_ownI (g := g) (l := dd) (by rw [← flat_ints dd]; exact ho)
        have HS := Lib.hid (sortI_some g c2 dd wr hglt hH hdl)
        clear ho hH
        go_wp2_with (go_at_call 73; (with_reducible refine (HS.out).mono ?_); rintro e w5 ⟨rfl, h5, h6⟩)
        go_ret
        have hls : (srtI dd).length = dd.length := by unfold srtI; simp
        refine ⟨some ⟨g, 0, none⟩, c2, by rw [hls]; rfl, fun k hk => ⟨g, 0, rfl, Nat.lt_of_lt_of_le hglt h6.size, by omega, fun j hj => ?_⟩, hB.grown h6 (by have := hB.size; omega) (fun k e => by cases e; show w.heap.size ≤ g; omega)⟩
        obtain rfl : j = 0 := by omega
        have h7 := (h5 k (by simpa [srtI] using hk)).1
        simp only [Nat.zero_add] at h7
        simp only [Nat.mul_one, Nat.add_zero, Nat.zero_add]
        rw [h7]
        have hk2 : k < (dd.mergeSort fun x y => decide (x ≤ y)).length := hk
        simp [intC, srtI]
        rw [List.getElem?_eq_getElem hk2]
        rfl
end Go.Proofs.YtbkekdbabkncfaaGreat
