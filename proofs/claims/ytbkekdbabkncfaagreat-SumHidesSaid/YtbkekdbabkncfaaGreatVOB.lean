/- An audit, opened by the program for a subject. Written by voab.py. -/
import Derived.Test.YtbkekdbabkncfaaGreatVOA
import Derived.Test.YtbkekdbabkncfaaGreatVP16

namespace Go.Proofs.YtbkekdbabkncfaaGreat
open Go.RowKit Go.Maps

theorem ints_noInt {w w' : World} {A : Option Addr} {l : List Int} {j : Nat} (h : IntsAt w w.heap.size A l) (hs : w.heap.size ≤ w'.heap.size) (hb : ∀ b, b < w.heap.size → b ≠ j → w'.heap[b]? = w.heap[b]?) (hj : ∀ o n, w.cell? ⟨j, o, none⟩ ≠ some (.int .i64 n)) : IntsAt w' w'.heap.size A l := by
  intro k hk
  obtain ⟨b, off, e, hlt, hc⟩ := h k hk
  have hne : b ≠ j := by
    rintro rfl
    exact hj _ _ (hc 0 (by omega))
  exact ⟨b, off, e, Nat.lt_of_lt_of_le hlt hs, fun i hi => (World.cell?_of_block (hb b hlt hne)).trans (hc i hi)⟩
def zeroAud : Value := .agg #[.slice none 0 0, .map none, .slice none 0 0]
def AboU (w : World) (l : List SubD) (qs : List QueD) (id : Int) (e : Ending) (w' : World) : Prop := ∃ ol A c m LA lc L, Hid (ol.Perm l ∧ ol.Pairwise (fun x y => x.v.id ≤ y.v.id) ∧ L.map LedD.v = solL [] (eqnL ol qs.length 0 (qs.map QueD.v)) ∧ LedsAt w' LA L ∧ smallL L) ∧ Below w.heap.size w w' ∧
  ((fndI (ol.map fun x => x.v.id) id = none ∧ e = .returned (.tuple #[.agg #[.slice none 0 0, .map none, .slice none 0 0], .int .i64 0, .int .i64 6])) ∨ ∃ a, fndI (ol.map fun x => x.v.id) id = some a ∧ a < (List.length ol) ∧ e = .returned (.tuple #[.agg #[.slice A (List.length ol) c, .map (some m), .slice LA (List.length L) lc], .int .i64 a, .int .i64 0]))
theorem fndI_lt {l : List Int} {a : Int} {i : Nat} (h : fndI l a = some i) : i < l.length := by
  unfold fndI at h
  rw [List.find?_range_eq_some] at h
  simpa using h.2.1

set_option maxRecDepth 100000 in
set_option maxHeartbeats 8000000 in
theorem openAbout_bad (columns : Int) (l : List SubD) (A : Option Addr) (c : Nat) (qs : List QueD) (S : Option Addr) (sc : Nat) (id : Int) (w : World) (E : Int) (hE : E = 100 ∨ E = 102) (HA : ∀ W, Below w.heap.size w W → Calls Tryz.prog 44 #[.int .i64 columns, .slice A l.length c, .slice S qs.length sc] W fun e w' => e = .returned (.tuple #[.agg #[.slice none 0 0, .map none, .slice none 0 0], .int .i64 E]) ∧ Below W.heap.size W w') :
    Calls Tryz.prog 42 #[.int .i64 columns, .slice A l.length c, .slice S qs.length sc, .int .i64 id] w fun e w' => e = .returned (.tuple #[.agg #[.slice none 0 0, .map none, .slice none 0 0], .int .i64 0, .int .i64 E]) ∧ Below w.heap.size w w' := by
  have b2 := ((Below.refl w.heap.size w).alloc (Nat.le_refl _) (.cells #[.int .i64 id] 3)).alloc (by simp) (.cells #[.slice none 0 0, .map none, .slice none 0 0] 79)
  have i2 := (Blk.new w #[.int .i64 id] 3).alloc (.cells #[.slice none 0 0, .map none, .slice none 0 0] 79)
  have k2 := newAt' (w.alloc (.cells #[.int .i64 id] 3)) #[.slice none 0 0, .map none, .slice none 0 0] 79 (g := w.heap.size + 1) (by simp)
  have g1 := i2.lt
  have g2 := k2.lt
  rcases hE with rfl | rfl
  all_goals
    go_enter Tryz.func42, Tryz.ntmps42
    go_upto_region 2 with (go_at_call 44; (with_reducible refine (HA _ b2).mono ?_); rintro e w1 ⟨rfl, h1⟩; have b3 := b2.trans (h1.mono b2.size); have k3 := k2.below h1 g2; have k3c := k3.cell; have k3f := k3.free)
    have k4 : Blk (((w1.setCell ⟨w.heap.size + 1, 0, none⟩ (.slice none 0 0)).setCell ⟨w.heap.size + 1, 1, none⟩ (.map none)).setCell ⟨w.heap.size + 1, 2, none⟩ (.slice none 0 0)) (w.heap.size + 1) #[.slice none 0 0, .map none, .slice none 0 0] 79 := by simpa using (((k3.set 0 (.slice none 0 0)).set 1 (.map none)).set 2 (.slice none 0 0))
    have b4 := (((b3.setCell (p := ⟨w.heap.size + 1, 0, none⟩) (by simp) (.slice none 0 0)).setCell (p := ⟨w.heap.size + 1, 1, none⟩) (by simp) (.map none)).setCell (p := ⟨w.heap.size + 1, 2, none⟩) (by simp) (.slice none 0 0))
    generalize hW4 : (((w1.setCell ⟨w.heap.size + 1, 0, none⟩ (.slice none 0 0)).setCell ⟨w.heap.size + 1, 1, none⟩ (.map none)).setCell ⟨w.heap.size + 1, 2, none⟩ (.slice none 0 0)) = W4 at *
    clear hW4 k3 k3c k3f
    have k4c := k4.cell
    have k4f := k4.free
    have b5 := (((b4.setCell (p := ⟨w.heap.size + 1, 0, none⟩) (by simp) (.slice none 0 0)).setCell (p := ⟨w.heap.size + 1, 1, none⟩) (by simp) (.map none)).setCell (p := ⟨w.heap.size + 1, 2, none⟩) (by simp) (.slice none 0 0))
    have r0 := (((k4.set 0 (.slice none 0 0)).set 1 (.map none)).set 2 (.slice none 0 0)).cell
    go_wp2_with fail
    show bodyPost _ _ _ _ _ _
  · refine bodyPost_ret (v := .tuple #[.agg #[.slice none 0 0, .map none, .slice none 0 0], .int .i64 0, .int .i64 100]) (by simp [results, Tryz.results42, go_sem, r0]) rfl ⟨rfl, b5⟩
  · refine bodyPost_ret (v := .tuple #[.agg #[.slice none 0 0, .map none, .slice none 0 0], .int .i64 0, .int .i64 102]) (by simp [results, Tryz.results42, go_sem, r0]) rfl ⟨rfl, b5⟩

set_option maxRecDepth 100000 in
set_option maxHeartbeats 16000000 in
theorem openAbout_ok (columns : Int) (l : List SubD) (A : Option Addr) (c : Nat) (qs : List QueD) (S : Option Addr) (sc : Nat) (id : Int) (w : World) (HA : ∀ W, Below w.heap.size w W → Calls Tryz.prog 44 #[.int .i64 columns, .slice A l.length c, .slice S qs.length sc] W (AudU W columns l qs)) :
    Calls Tryz.prog 42 #[.int .i64 columns, .slice A l.length c, .slice S qs.length sc, .int .i64 id] w (AboU w l qs id) := by
  have b2 := ((Below.refl w.heap.size w).alloc (Nat.le_refl _) (.cells #[.int .i64 id] 3)).alloc (by simp) (.cells #[.slice none 0 0, .map none, .slice none 0 0] 79)
  have i2 := (Blk.new w #[.int .i64 id] 3).alloc (.cells #[.slice none 0 0, .map none, .slice none 0 0] 79)
  have k2 := newAt' (w.alloc (.cells #[.int .i64 id] 3)) #[.slice none 0 0, .map none, .slice none 0 0] 79 (g := w.heap.size + 1) (by simp)
  have g1 := i2.lt
  have g2 := k2.lt
  go_enter Tryz.func42, Tryz.ntmps42
  go_upto_region 2 with (go_at_call 44; (with_reducible refine (HA _ b2).mono ?_); rintro e w1 ⟨ol, OA, oc, m, LA, lc, L, rfl, hF, h1⟩; have b3 := b2.trans (h1.mono b2.size); have k3 := k2.below h1 g2; have i3 := i2.below h1 g1; have k3c := k3.cell; have k3f := k3.free)
  have hn3 : ∀ o n, w1.cell? ⟨w.heap.size + 1, o, none⟩ ≠ some (.int .i64 n) := fun o n => by
    rw [k3c o]
    rcases o with _ | _ | _ | o <;> simp
  obtain ⟨hp, hs, hTab, hLv, hLs, hsm⟩ := hF.out
  have hI4 : IntsAt (((w1.setCell ⟨w.heap.size + 1, 0, none⟩ (.slice OA ol.length oc)).setCell ⟨w.heap.size + 1, 1, none⟩ (.map (some m))).setCell ⟨w.heap.size + 1, 2, none⟩ (.slice LA L.length lc)) (((w1.setCell ⟨w.heap.size + 1, 0, none⟩ (.slice OA ol.length oc)).setCell ⟨w.heap.size + 1, 1, none⟩ (.map (some m))).setCell ⟨w.heap.size + 1, 2, none⟩ (.slice LA L.length lc)).heap.size OA (ol.map fun x => x.v.id) := ints_noInt (j := w.heap.size + 1) hTab.ids (by simp) (fun b _ hne => (Below.heap_setCell _ _ _ _ (fun e => hne e)).trans ((Below.heap_setCell _ _ _ _ (fun e => hne e)).trans (Below.heap_setCell _ _ _ _ (fun e => hne e)))) hn3
  have hL4 : LedsAt (((w1.setCell ⟨w.heap.size + 1, 0, none⟩ (.slice OA ol.length oc)).setCell ⟨w.heap.size + 1, 1, none⟩ (.map (some m))).setCell ⟨w.heap.size + 1, 2, none⟩ (.slice LA L.length lc)) LA L := leds_noInt (j := w.heap.size + 1) hLs (by simp) (fun b _ hne => (Below.heap_setCell _ _ _ _ (fun e => hne e)).trans ((Below.heap_setCell _ _ _ _ (fun e => hne e)).trans (Below.heap_setCell _ _ _ _ (fun e => hne e)))) hn3
  have i4 : Blk (((w1.setCell ⟨w.heap.size + 1, 0, none⟩ (.slice OA ol.length oc)).setCell ⟨w.heap.size + 1, 1, none⟩ (.map (some m))).setCell ⟨w.heap.size + 1, 2, none⟩ (.slice LA L.length lc)) w.heap.size #[.int .i64 id] 3 := ((i3.far (p := ⟨w.heap.size + 1, 0, none⟩) (by show w.heap.size ≠ w.heap.size + 1; omega) _).far (p := ⟨w.heap.size + 1, 1, none⟩) (by show w.heap.size ≠ w.heap.size + 1; omega) _).far (p := ⟨w.heap.size + 1, 2, none⟩) (by show w.heap.size ≠ w.heap.size + 1; omega) _
  have k4 : Blk (((w1.setCell ⟨w.heap.size + 1, 0, none⟩ (.slice OA ol.length oc)).setCell ⟨w.heap.size + 1, 1, none⟩ (.map (some m))).setCell ⟨w.heap.size + 1, 2, none⟩ (.slice LA L.length lc)) (w.heap.size + 1) #[.slice OA ol.length oc, .map (some m), .slice LA L.length lc] 79 := by simpa using (((k3.set 0 (.slice OA ol.length oc)).set 1 (.map (some m))).set 2 (.slice LA L.length lc))
  have b4 := (((b3.setCell (p := ⟨w.heap.size + 1, 0, none⟩) (by simp) (.slice OA ol.length oc)).setCell (p := ⟨w.heap.size + 1, 1, none⟩) (by simp) (.map (some m))).setCell (p := ⟨w.heap.size + 1, 2, none⟩) (by simp) (.slice LA L.length lc))
  have h16 := hTab.len
  have HP := Lib.hid (And.intro hp (And.intro hs (And.intro hLv hsm)))
  clear hp hs hTab hLv hLs hsm hF HA
  generalize hW4 : (((w1.setCell ⟨w.heap.size + 1, 0, none⟩ (.slice OA ol.length oc)).setCell ⟨w.heap.size + 1, 1, none⟩ (.map (some m))).setCell ⟨w.heap.size + 1, 2, none⟩ (.slice LA L.length lc)) = W4 at *
  clear hW4 k3 k3c k3f i3 hn3 k2 i2 b2 b3 h1
  have k4c := k4.cell
  have k4f := k4.free
  have HF := Lib.hid (findI_any (ol.map fun x => x.v.id) OA oc id w.heap.size W4 hI4 (by simp; omega) (i4.cell 0) i4.lt)
  rw [List.length_map] at HF
  have HL4 := Lib.hid hL4
  clear hI4 hL4
  have HFl : Hid (∀ a, fndI (ol.map fun x => x.v.id) id = some a → a < ol.length) := Lib.hid (fun a ha => by simpa using fndI_lt ha)
  cases hf : fndI (ol.map fun x => x.v.id) id with
  | none =>
    rw [hf] at HF
    simp only [Option.getD_none, Option.isSome_none] at HF
    go_upto_region 6 with (go_at_call 64; (with_reducible refine (HF.out).mono ?_); rintro e w5 ⟨rfl, h5⟩; have b5 := b4.trans (h5.mono b4.size); have k5 := k4.below h5 k4.lt; have k5c := k5.cell; have k5f := k5.free)
    have b6 := (((b5.setCell (p := ⟨w.heap.size + 1, 0, none⟩) (by simp) (.slice none 0 0)).setCell (p := ⟨w.heap.size + 1, 1, none⟩) (by simp) (.map none)).setCell (p := ⟨w.heap.size + 1, 2, none⟩) (by simp) (.slice none 0 0))
    have r0 := (((k5.set 0 (.slice none 0 0)).set 1 (.map none)).set 2 (.slice none 0 0)).cell
    have hL6 : LedsAt (((w5.setCell ⟨w.heap.size + 1, 0, none⟩ (.slice none 0 0)).setCell ⟨w.heap.size + 1, 1, none⟩ (.map none)).setCell ⟨w.heap.size + 1, 2, none⟩ (.slice none 0 0)) LA L := leds_noInt (j := w.heap.size + 1) (HL4.out.later h5) (by simp) (fun b _ hne => (Below.heap_setCell _ _ _ _ (fun e => hne e)).trans ((Below.heap_setCell _ _ _ _ (fun e => hne e)).trans (Below.heap_setCell _ _ _ _ (fun e => hne e)))) (fun o n => by
      rw [k5c o]
      rcases o with _ | _ | _ | o <;> simp)
    go_wp2_with fail
    show bodyPost _ _ _ _ _ _
    exact bodyPost_ret (v := .tuple #[.agg #[.slice none 0 0, .map none, .slice none 0 0], .int .i64 0, .int .i64 6]) (by simp [results, Tryz.results42, go_sem, r0]) rfl ⟨ol, OA, oc, m, LA, lc, L, Lib.hid ⟨HP.out.1, HP.out.2.1, HP.out.2.2.1, hL6, HP.out.2.2.2⟩, b6, .inl ⟨hf, rfl⟩⟩
  | some a =>
    rw [hf] at HF
    simp only [Option.getD_some, Option.isSome_some] at HF
    go_upto_region 7 with (go_at_call 64; (with_reducible refine (HF.out).mono ?_); rintro e w5 ⟨rfl, h5⟩; have b5 := b4.trans (h5.mono b4.size); have k5 := k4.below h5 k4.lt; have k5c := k5.cell; have k5f := k5.free)
    have b6 := (((b5.setCell (p := ⟨w.heap.size + 1, 0, none⟩) (by simp) (.slice OA ol.length oc)).setCell (p := ⟨w.heap.size + 1, 1, none⟩) (by simp) (.map (some m))).setCell (p := ⟨w.heap.size + 1, 2, none⟩) (by simp) (.slice LA L.length lc))
    have r0 := (((k5.set 0 (.slice OA ol.length oc)).set 1 (.map (some m))).set 2 (.slice LA L.length lc)).cell
    have hL6 : LedsAt (((w5.setCell ⟨w.heap.size + 1, 0, none⟩ (.slice OA ol.length oc)).setCell ⟨w.heap.size + 1, 1, none⟩ (.map (some m))).setCell ⟨w.heap.size + 1, 2, none⟩ (.slice LA L.length lc)) LA L := leds_noInt (j := w.heap.size + 1) (HL4.out.later h5) (by simp) (fun b _ hne => (Below.heap_setCell _ _ _ _ (fun e => hne e)).trans ((Below.heap_setCell _ _ _ _ (fun e => hne e)).trans (Below.heap_setCell _ _ _ _ (fun e => hne e)))) (fun o n => by
      rw [k5c o]
      rcases o with _ | _ | _ | o <;> simp)
    go_wp2_with fail
    show bodyPost _ _ _ _ _ _
    exact bodyPost_ret (v := .tuple #[.agg #[.slice OA ol.length oc, .map (some m), .slice LA L.length lc], .int .i64 a, .int .i64 0]) (by simp [results, Tryz.results42, go_sem, r0]) rfl ⟨ol, OA, oc, m, LA, lc, L, Lib.hid ⟨HP.out.1, HP.out.2.1, HP.out.2.2.1, hL6, HP.out.2.2.2⟩, b6, .inr ⟨a, hf, HFl.out a hf, rfl⟩⟩
end Go.Proofs.YtbkekdbabkncfaaGreat
