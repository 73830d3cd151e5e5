/- A table at work, opened for a question. Written by p7.py. -/
import Derived.Test.YtbkekdbabkncfaaGreatUPrg6

namespace Go.Proofs.YtbkekdbabkncfaaGreat
open Go.RowKit Go.Maps

set_option maxRecDepth 100000 in
set_option maxHeartbeats 4000000 in
theorem openFor_bad1 (columns : Int) (l : List SubD) (A : Option Addr) (c : Nat) (wh : List Whe) (col clip step : Int) (W : Option Addr) (wc : Nat) (w : World) (h : SubsAt w w.heap.size A l) (hl : l.length ≤ maxLen) (hm : ∀ x ∈ l, x.v.vals.length ≤ maxLen) (ht : tabB columns (l.map SubD.v) = false) :
    Calls Tryz.prog 38 #[.int .i64 columns, .slice A l.length c, .agg #[.slice W wh.length wc, .int .i64 col, .int .i64 clip, .int .i64 step]] w fun e w' => e = .returned (.tuple #[.agg #[.slice none 0 0, .map none], .int .i64 100]) ∧ Below w.heap.size w w' := by
  have b2 := ((Below.refl w.heap.size w).alloc (Nat.le_refl _) (.cells #[.slice W wh.length wc, .int .i64 col, .int .i64 clip, .int .i64 step] 25)).alloc (by simp) (.cells #[.slice none 0 0, .map none] 72)
  have k2 := newAt' (w.alloc (.cells #[.slice W wh.length wc, .int .i64 col, .int .i64 clip, .int .i64 step] 25)) #[.slice none 0 0, .map none] 72 (g := w.heap.size + 1) (by simp)
  have HO := Lib.hid (fun W hb => open_bad columns l A c W (h.later hb) hl hm ht)
  have g1 := k2.lt
  clear h hm ht
  go_enter Tryz.func38, Tryz.ntmps38
  go_upto_region 3 with (go_at_call 61; (with_reducible refine (HO.out _ b2).mono ?_); rintro e w1 ⟨rfl, h1⟩; have b3 := b2.trans (h1.mono b2.size); have k3 := k2.below h1 g1)
  have b4 := b3.alloc b3.size (.cells #[.slice none 0 0, .map none] 72)
  have k4 := k3.alloc (.cells #[.slice none 0 0, .map none] 72)
  have k4c := k4.cell
  have k4f := k4.free
  have b5 := (b4.setCell (p := ⟨w.heap.size + 1, 0, none⟩) (by simp) (.slice none 0 0)).setCell (p := ⟨w.heap.size + 1, 1, none⟩) (by simp) (.map none)
  have r0 := ((k4.set 0 (.slice none 0 0)).set 1 (.map none)).cell
  go_wp2_with fail
  refine bodyPost_ret (v := .tuple #[.agg #[.slice none 0 0, .map none], .int .i64 100]) ?hres rfl ?hpost
  case hres => simp [results, Tryz.results38, go_sem, r0]
  case hpost => exact ⟨rfl, b5⟩
set_option maxRecDepth 100000 in
set_option maxHeartbeats 8000000 in
theorem openFor_bad2 (columns : Int) (l : List SubD) (A : Option Addr) (c : Nat) (wh : List Whe) (col clip step : Int) (W : Option Addr) (wc : Nat) (w : World) (h : SubsAt w w.heap.size A l) (hm : ∀ x ∈ l, x.v.vals.length ≤ maxLen) (HBy : ByAny) (ht : tabB columns (l.map SubD.v) = true) (hq : WhesAt w w.heap.size W wh) (hwl : wh.length ≤ maxLen) (hQ : queB columns ⟨wh, col, clip, step⟩ = false) :
    Calls Tryz.prog 38 #[.int .i64 columns, .slice A l.length c, .agg #[.slice W wh.length wc, .int .i64 col, .int .i64 clip, .int .i64 step]] w fun e w' => e = .returned (.tuple #[.agg #[.slice none 0 0, .map none], .int .i64 101]) ∧ Below w.heap.size w w' := by
  have b2 := ((Below.refl w.heap.size w).alloc (Nat.le_refl _) (.cells #[.slice W wh.length wc, .int .i64 col, .int .i64 clip, .int .i64 step] 25)).alloc (by simp) (.cells #[.slice none 0 0, .map none] 72)
  have k1 := (Blk.new w #[.slice W wh.length wc, .int .i64 col, .int .i64 clip, .int .i64 step] 25).alloc (.cells #[.slice none 0 0, .map none] 72)
  have k2 := newAt' (w.alloc (.cells #[.slice W wh.length wc, .int .i64 col, .int .i64 clip, .int .i64 step] 25)) #[.slice none 0 0, .map none] 72 (g := w.heap.size + 1) (by simp)
  have HO := Lib.hid (fun W hb => open_good columns l A c W (h.later hb) ht hm HBy)
  have hcol := (ask_parts ht).1
  have HV := Lib.hid (fun W' hb => questionU_any columns wh col clip step W wc W' (hq.later hb) hwl (by omega))
  rw [hQ] at HV
  have g1 := k1.lt
  have g2 := k2.lt
  clear h hm ht hq HBy hQ
  go_enter Tryz.func38, Tryz.ntmps38
  go_upto_region 2 with (go_at_call 61; (with_reducible refine (HO.out _ b2).mono ?_); rintro e w1 ⟨ol, OA, oc, m, rfl, hT, h1⟩; have b3 := b2.trans (h1.mono b2.size); have k3 := k2.below h1 g2; have j3 := k1.below h1 g1)
  clear k1 k2 hT HO
  have b4 := b3.alloc b3.size (.cells #[.slice OA ol.length oc, .map (some m)] 72)
  have k4 := k3.alloc (.cells #[.slice OA ol.length oc, .map (some m)] 72)
  have j4 := j3.alloc (.cells #[.slice OA ol.length oc, .map (some m)] 72)
  have j4c := j4.cell
  have j3c := j3.cell
  have g3 := k4.lt
  clear k3 j3 b3
  go_upto_region 5 with (go_at_call 62; (with_reducible refine (HV.out _ b4).mono ?_); rintro e w2 ⟨rfl, h2⟩; have b5 := b4.trans (h2.mono b4.size); have k5 := k4.below h2 g3)
  have k5c := k5.cell
  have k5f := k5.free
  have b6 := (b5.setCell (p := ⟨w.heap.size + 1, 0, none⟩) (by simp) (.slice none 0 0)).setCell (p := ⟨w.heap.size + 1, 1, none⟩) (by simp) (.map none)
  have r0 := ((k5.set 0 (.slice none 0 0)).set 1 (.map none)).cell
  go_wp2_with fail
  refine bodyPost_ret (v := .tuple #[.agg #[.slice none 0 0, .map none], .int .i64 101]) ?hres rfl ?hpost
  case hres => simp [results, Tryz.results38, go_sem, r0]
  case hpost => exact ⟨rfl, b6⟩
set_option maxRecDepth 100000 in
set_option maxHeartbeats 8000000 in
theorem openFor_good (columns : Int) (l : List SubD) (A : Option Addr) (c : Nat) (wh : List Whe) (col clip step : Int) (W : Option Addr) (wc : Nat) (w : World) (h : SubsAt w w.heap.size A l) (hm : ∀ x ∈ l, x.v.vals.length ≤ maxLen) (HBy : ByAny) (ht : tabB columns (l.map SubD.v) = true) (hq : WhesAt w w.heap.size W wh) (hwl : wh.length ≤ maxLen) (hQ : queB columns ⟨wh, col, clip, step⟩ = true) :
    Calls Tryz.prog 38 #[.int .i64 columns, .slice A l.length c, .agg #[.slice W wh.length wc, .int .i64 col, .int .i64 clip, .int .i64 step]] w (OpenU w columns l) := by
  have b2 := ((Below.refl w.heap.size w).alloc (Nat.le_refl _) (.cells #[.slice W wh.length wc, .int .i64 col, .int .i64 clip, .int .i64 step] 25)).alloc (by simp) (.cells #[.slice none 0 0, .map none] 72)
  have k1 := (Blk.new w #[.slice W wh.length wc, .int .i64 col, .int .i64 clip, .int .i64 step] 25).alloc (.cells #[.slice none 0 0, .map none] 72)
  have k2 := newAt' (w.alloc (.cells #[.slice W wh.length wc, .int .i64 col, .int .i64 clip, .int .i64 step] 25)) #[.slice none 0 0, .map none] 72 (g := w.heap.size + 1) (by simp)
  have HO := Lib.hid (fun W hb => open_good columns l A c W (h.later hb) ht hm HBy)
  have hcol := (ask_parts ht).1
  have HV := Lib.hid (fun W' hb => questionU_any columns wh col clip step W wc W' (hq.later hb) hwl (by omega))
  rw [hQ] at HV
  have g1 := k1.lt
  have g2 := k2.lt
  have HH := Lib.hid h
  clear h hm ht hq HBy hQ
  go_enter Tryz.func38, Tryz.ntmps38
  go_upto_region 2 with (go_at_call 61; (with_reducible refine (HO.out _ b2).mono ?_); rintro e w1 ⟨ol, OA, oc, m, rfl, hT, h1⟩; have b3 := b2.trans (h1.mono b2.size); have k3 := k2.below h1 g2; have j3 := k1.below h1 g1)
  clear k1 k2 HO
  have b4 := b3.alloc b3.size (.cells #[.slice OA ol.length oc, .map (some m)] 72)
  have k4 := k3.alloc (.cells #[.slice OA ol.length oc, .map (some m)] 72)
  have j4 := j3.alloc (.cells #[.slice OA ol.length oc, .map (some m)] 72)
  have t4 := Blk.new w1 #[.slice OA ol.length oc, .map (some m)] 72
  have t4l := t4.lt
  have j4c := j4.cell
  have j3c := j3.cell
  have g3 := k4.lt
  have x4 := (Below.refl w1.heap.size w1).alloc (Nat.le_refl _) (.cells #[.slice OA ol.length oc, .map (some m)] 72)
  clear k3 j3 b3
  go_upto_region 6 with (go_at_call 62; (with_reducible refine (HV.out _ b4).mono ?_); rintro e w2 ⟨rfl, h2⟩; have b5 := b4.trans (h2.mono b4.size); have k5 := k4.below h2 g3; have t5 := t4.below h2 t4l)
  have k5c := k5.cell
  have k5f := k5.free
  have t5c := t5.cell
  have x5 := x4.trans (h2.mono x4.size)
  have b6 := (b5.setCell (p := ⟨w.heap.size + 1, 0, none⟩) (by simp) (.slice OA ol.length oc)).setCell (p := ⟨w.heap.size + 1, 1, none⟩) (by simp) (.map (some m))
  have r0 := ((k5.set 0 (.slice OA ol.length oc)).set 1 (.map (some m))).cell
  have hsz : (((w.alloc (.cells #[.slice W wh.length wc, .int .i64 col, .int .i64 clip, .int .i64 step] 25)).alloc (.cells #[.slice none 0 0, .map none] 72))).heap.size = w.heap.size + 2 := by simp
  have HT : Hid (ol.Perm l ∧ ol.Pairwise (fun x y => x.v.id ≤ y.v.id) ∧ TabN w.heap.size ((w2.setCell ⟨w.heap.size + 1, 0, none⟩ (.slice OA ol.length oc)).setCell ⟨w.heap.size + 1, 1, none⟩ (.map (some m))) columns ol OA m) := by
    obtain ⟨hp, hs, hTab⟩ := hT.out
    have hlow := hTab.low
    obtain ⟨G, n, hM, hG⟩ := hTab.map
    have hF := (Fr.set (P := fun x => w.heap.size + 2 ≤ x) (w := w2) (p := ⟨w.heap.size + 1, 0, none⟩) (fun e => by simp at e) (.slice OA ol.length oc)).trans (Fr.set (p := ⟨w.heap.size + 1, 1, none⟩) (fun e => by simp at e) (.map (some m)))
    rw [hsz] at hlow
    exact Lib.hid ⟨hp, hs, ⟨((hTab.ids.imp (Q := fun x => w.heap.size + 2 ≤ x) (fun b _ hb => by rw [hsz] at hb; exact hb)).move ((Fr.below x5).trans hF)).imp (fun b _ hb => by omega), by omega,
      ⟨G, n, ((hM.below x5 hM.lt).setCell (a := ⟨w.heap.size + 1, 0, none⟩) (by show m ≠ w.heap.size + 1; omega) _).setCell (a := ⟨w.heap.size + 1, 1, none⟩) (by show m ≠ w.heap.size + 1; omega) _, hG⟩,
      fun x hx => (HH.out.each x (hp.mem_iff.1 hx)).later b6, hTab.ok, hTab.len, hTab.col⟩⟩
  clear hsz
  have HB6 := Lib.hid b6
  clear hT b6 x5 x4 t5 k5 b5 b4
  go_wp2_with fail
  refine bodyPost_ret (v := .tuple #[.agg #[.slice OA ol.length oc, .map (some m)], .int .i64 0]) ?hres rfl ?hpost
  case hres => simp [results, Tryz.results38, go_sem, r0]
  case hpost => exact ⟨ol, OA, oc, m, rfl, HT.out, HB6.out⟩
end Go.Proofs.YtbkekdbabkncfaaGreat
