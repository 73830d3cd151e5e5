/- Meets and Sum, by the program. Written by p11.py. -/
import Derived.Test.YtbkekdbabkncfaaGreatUPrg10
import Derived.Test.YtbkekdbabkncfaaGreatUPrg7
import Derived.Test.YtbkekdbabkncfaaGreatUOrder

namespace Go.Proofs.YtbkekdbabkncfaaGreat
open Go.RowKit Go.Maps

theorem by_all : ByAny := fun Bs A cap L fb w hz hBs hc hS hfb hf0 => byU_any Bs A cap L hz fb w hBs hc hS hfb hf0
set_option maxRecDepth 100000 in
set_option maxHeartbeats 8000000 in
theorem meetsP_any (columns : Int) (l : List SubD) (A : Option Addr) (c : Nat) (wh : List Whe) (col clip step : Int) (W : Option Addr) (wc : Nat) (w : World) (h : SubsAt w w.heap.size A l) (hl : l.length ≤ maxLen) (hm : ∀ x ∈ l, x.v.vals.length ≤ maxLen) (hq : WhesAt w w.heap.size W wh) (hwl : wh.length ≤ maxLen) :
    Calls Tryz.prog 21 #[.int .i64 columns, .slice A l.length c, .agg #[.slice W wh.length wc, .int .i64 col, .int .i64 clip, .int .i64 step]] w (MeetsPost w (metV columns (l.map SubD.v) ⟨wh, col, clip, step⟩) (askE columns (l.map SubD.v) ⟨wh, col, clip, step⟩)) := by
  have b1 := (Below.refl w.heap.size w).alloc (Nat.le_refl _) (.cells #[.slice W wh.length wc, .int .i64 col, .int .i64 clip, .int .i64 step] 25)
  have k1 := Blk.new w #[.slice W wh.length wc, .int .i64 col, .int .i64 clip, .int .i64 step] 25
  have k1c := k1.cell
  have g1 := k1.lt
  cases q1 : tabB columns (l.map SubD.v) with
  | false =>
    have hE : askE columns (l.map SubD.v) ⟨wh, col, clip, step⟩ = 100 := by unfold askE; rw [q1]; rfl
    have hV : metV columns (l.map SubD.v) ⟨wh, col, clip, step⟩ = [] := by unfold metV; rw [if_neg (by rw [hE]; decide)]
    rw [hE, hV]
    have HO := Lib.hid (fun V hb => openFor_bad1 columns l A c wh col clip step W wc V (h.later hb) hl hm q1)
    clear h hm hq
    go_enter Tryz.func21, Tryz.ntmps21
    go_wp2_with (go_at_call 38; (with_reducible refine (HO.out _ b1).mono ?_); rintro e w1 ⟨rfl, h1⟩; have b2 := (b1.trans (h1.mono b1.size)); have b3 := b2.alloc b2.size (.cells #[.slice none 0 0, .map none] 72))
    show bodyPost _ _ _ _ _ _
    exact bodyPost_ret (v := .tuple #[.slice none 0 0, .int .i64 100]) (by simp [results, Tryz.results21, go_sem]) rfl ⟨none, 0, rfl, Flat.nil _ _ _ _ _, b3⟩
  | true =>
    cases q2 : queB columns ⟨wh, col, clip, step⟩ with
    | false =>
      have hE : askE columns (l.map SubD.v) ⟨wh, col, clip, step⟩ = 101 := by unfold askE; rw [if_pos q1, q2]; rfl
      have hV : metV columns (l.map SubD.v) ⟨wh, col, clip, step⟩ = [] := by unfold metV; rw [if_neg (by rw [hE]; decide)]
      rw [hE, hV]
      have HO := Lib.hid (fun V hb => openFor_bad2 columns l A c wh col clip step W wc V (h.later hb) hm by_all q1 (hq.later hb) hwl q2)
      clear h hm hq
      go_enter Tryz.func21, Tryz.ntmps21
      go_wp2_with (go_at_call 38; (with_reducible refine (HO.out _ b1).mono ?_); rintro e w1 ⟨rfl, h1⟩; have b2 := (b1.trans (h1.mono b1.size)); have b3 := b2.alloc b2.size (.cells #[.slice none 0 0, .map none] 72))
      show bodyPost _ _ _ _ _ _
      exact bodyPost_ret (v := .tuple #[.slice none 0 0, .int .i64 101]) (by simp [results, Tryz.results21, go_sem]) rfl ⟨none, 0, rfl, Flat.nil _ _ _ _ _, b3⟩
    | true =>
      have hE : askE columns (l.map SubD.v) ⟨wh, col, clip, step⟩ = 0 := by unfold askE; rw [if_pos q1, if_pos q2]
      have hV : metV columns (l.map SubD.v) ⟨wh, col, clip, step⟩ = metL (l.map SubD.v) ⟨wh, col, clip, step⟩ := by unfold metV; rw [if_pos hE]
      have hnd : (l.map fun x => x.v.id).Nodup := by have := (ask_parts q1).2.2.2; rw [List.map_map] at this; exact this
      rw [hE, hV]
      have HO := Lib.hid (fun V hb => openFor_good columns l A c wh col clip step W wc V (h.later hb) hm by_all q1 (hq.later hb) hwl q2)
      have HQ := Lib.hid hq
      have HQ2 := Lib.hid q2
      have HND := Lib.hid hnd
      clear h hm hq q1 q2 hE hV hnd
      go_enter Tryz.func21, Tryz.ntmps21
      go_upto_region 2 with (go_at_call 38; (with_reducible refine (HO.out _ b1).mono ?_); rintro e w1 ⟨ol, OA, oc, m, rfl, hT, h1⟩)
      have b2 := b1.trans (h1.mono b1.size)
      have k2 := k1.below h1 g1
      have k3 := k2.alloc (.cells #[.slice OA ol.length oc, .map (some m)] 72)
      have t3c := (Blk.new w1 #[.slice OA ol.length oc, .map (some m)] 72).cell
      have k3c := k3.cell
      have k2c := k2.cell
      have b3 := b2.alloc b2.size (.cells #[.slice OA ol.length oc, .map (some m)] 72)
      have HM := Lib.hid (meetsU_any columns ol OA oc m wh col clip step W wc (w1.alloc (.cells #[.slice OA ol.length oc, .map (some m)] 72)) (hT.out.2.2.tab.later ((Below.refl _ _).alloc (Nat.le_refl _) _)) (HQ.out.later b3) HQ2.out)
      have HE := Lib.hid (metL_eq (q := ⟨wh, col, clip, step⟩) hT.out.1 hT.out.2.1 HND.out)
      clear hT k3 k2 k1 k1c HO
      go_wp2_with (go_at_call 47; (with_reducible refine (HM.out).mono ?_); rintro e w4 ⟨A', c', rfl, hI, h4⟩; have HI := Lib.hid hI; clear hI)
      show bodyPost _ _ _ _ _ _
      have hlen : (metU ⟨wh, col, clip, step⟩ ol).length = (metL (l.map SubD.v) ⟨wh, col, clip, step⟩).length := by rw [← HE.out, List.length_map]
      have hi2 := HI.out
      rw [show idsL (metU ⟨wh, col, clip, step⟩ ol) = metL (l.map SubD.v) ⟨wh, col, clip, step⟩ from HE.out] at hi2
      exact bodyPost_ret (v := .tuple #[.slice A' (metU ⟨wh, col, clip, step⟩ ol).length c', .int .i64 0]) (by simp [results, Tryz.results21, go_sem]) rfl ⟨A', c', by rw [hlen], hi2, b3.trans (h4.mono b3.size)⟩
set_option maxRecDepth 100000 in
set_option maxHeartbeats 8000000 in
theorem sumP_any (columns : Int) (l : List SubD) (A : Option Addr) (c : Nat) (wh : List Whe) (col clip step : Int) (W : Option Addr) (wc : Nat) (w : World) (h : SubsAt w w.heap.size A l) (hl : l.length ≤ maxLen) (hm : ∀ x ∈ l, x.v.vals.length ≤ maxLen) (hq : WhesAt w w.heap.size W wh) (hwl : wh.length ≤ maxLen) :
    Calls Tryz.prog 14 #[.int .i64 columns, .slice A l.length c, .agg #[.slice W wh.length wc, .int .i64 col, .int .i64 clip, .int .i64 step]] w fun e w' => e = .returned (.tuple #[.int .i64 (sumP columns (l.map SubD.v) ⟨wh, col, clip, step⟩), .int .i64 (sumB columns (l.map SubD.v) ⟨wh, col, clip, step⟩), .int .i64 (askE columns (l.map SubD.v) ⟨wh, col, clip, step⟩)]) ∧ Below w.heap.size w w' := by
  have b1 := (Below.refl w.heap.size w).alloc (Nat.le_refl _) (.cells #[.slice W wh.length wc, .int .i64 col, .int .i64 clip, .int .i64 step] 25)
  have k1 := Blk.new w #[.slice W wh.length wc, .int .i64 col, .int .i64 clip, .int .i64 step] 25
  have k1c := k1.cell
  have g1 := k1.lt
  cases q1 : tabB columns (l.map SubD.v) with
  | false =>
    have hE : askE columns (l.map SubD.v) ⟨wh, col, clip, step⟩ = 100 := by unfold askE; rw [q1]; rfl
    have hP : sumP columns (l.map SubD.v) ⟨wh, col, clip, step⟩ = 0 := by unfold sumP; rw [if_neg (by rw [hE]; decide)]
    have hB : sumB columns (l.map SubD.v) ⟨wh, col, clip, step⟩ = 0 := by unfold sumB; rw [if_neg (by rw [hE]; decide)]
    rw [hE, hP, hB]
    have HO := Lib.hid (fun V hb => openFor_bad1 columns l A c wh col clip step W wc V (h.later hb) hl hm q1)
    clear h hm hq
    go_enter Tryz.func14, Tryz.ntmps14
    go_wp2_with (go_at_call 38; (with_reducible refine (HO.out _ b1).mono ?_); rintro e w1 ⟨rfl, h1⟩; have b2 := (b1.trans (h1.mono b1.size)); have b3 := b2.alloc b2.size (.cells #[.slice none 0 0, .map none] 72))
    show bodyPost _ _ _ _ _ _
    exact bodyPost_ret (v := .tuple #[.int .i64 0, .int .i64 0, .int .i64 100]) (by simp [results, Tryz.results14, go_sem]) rfl ⟨rfl, b3⟩
  | true =>
    cases q2 : queB columns ⟨wh, col, clip, step⟩ with
    | false =>
      have hE : askE columns (l.map SubD.v) ⟨wh, col, clip, step⟩ = 101 := by unfold askE; rw [if_pos q1, q2]; rfl
      have hP : sumP columns (l.map SubD.v) ⟨wh, col, clip, step⟩ = 0 := by unfold sumP; rw [if_neg (by rw [hE]; decide)]
      have hB : sumB columns (l.map SubD.v) ⟨wh, col, clip, step⟩ = 0 := by unfold sumB; rw [if_neg (by rw [hE]; decide)]
      rw [hE, hP, hB]
      have HO := Lib.hid (fun V hb => openFor_bad2 columns l A c wh col clip step W wc V (h.later hb) hm by_all q1 (hq.later hb) hwl q2)
      clear h hm hq
      go_enter Tryz.func14, Tryz.ntmps14
      go_wp2_with (go_at_call 38; (with_reducible refine (HO.out _ b1).mono ?_); rintro e w1 ⟨rfl, h1⟩; have b2 := (b1.trans (h1.mono b1.size)); have b3 := b2.alloc b2.size (.cells #[.slice none 0 0, .map none] 72))
      show bodyPost _ _ _ _ _ _
      exact bodyPost_ret (v := .tuple #[.int .i64 0, .int .i64 0, .int .i64 101]) (by simp [results, Tryz.results14, go_sem]) rfl ⟨rfl, b3⟩
    | true =>
      have hE : askE columns (l.map SubD.v) ⟨wh, col, clip, step⟩ = 0 := by unfold askE; rw [if_pos q1, if_pos q2]
      have hP : sumP columns (l.map SubD.v) ⟨wh, col, clip, step⟩ = nearN (sumN (l.map SubD.v) ⟨wh, col, clip, step⟩) step := by unfold sumP; rw [if_pos hE]
      have hB : sumB columns (l.map SubD.v) ⟨wh, col, clip, step⟩ = leastN clip step := by unfold sumB; rw [if_pos hE]
      rw [hE, hP, hB]
      have HO := Lib.hid (fun V hb => openFor_good columns l A c wh col clip step W wc V (h.later hb) hm by_all q1 (hq.later hb) hwl q2)
      have HQ := Lib.hid hq
      have hqp := que_parts q2
      have hst : 1 ≤ step ∧ step ≤ 1000000 := hqp.2.1
      have hcl : 1 ≤ clip ∧ clip ≤ 1000000 := by rcases hqp.2.2.2 with h | h <;> (dsimp only at h; omega)
      have HBd : Hid (0 ≤ sumN (l.map SubD.v) ⟨wh, col, clip, step⟩ ∧ sumN (l.map SubD.v) ⟨wh, col, clip, step⟩ ≤ 24000000) := Lib.hid (by
        have hpa := ask_parts q1
        have h5 := sumUp_bound (l := l.map SubD.v) (q := ⟨wh, col, clip, step⟩) (fun s hs => cnt_bound (hpa.2.2.1 s hs) q2) (l.map SubD.v).length (Nat.le_refl _)
        rw [sumUp_all] at h5
        have := hpa.2.1
        omega)
      have HQ2 := Lib.hid q2
      clear h hm hq q1 q2 hE hP hB hqp
      go_enter Tryz.func14, Tryz.ntmps14
      go_upto_region 2 with (go_at_call 38; (with_reducible refine (HO.out _ b1).mono ?_); rintro e w1 ⟨ol, OA, oc, m, rfl, hT, h1⟩)
      have b2 := b1.trans (h1.mono b1.size)
      have k2 := k1.below h1 g1
      have k3 := k2.alloc (.cells #[.slice OA ol.length oc, .map (some m)] 72)
      have t3 := Blk.new w1 #[.slice OA ol.length oc, .map (some m)] 72
      have b3 := b2.alloc b2.size (.cells #[.slice OA ol.length oc, .map (some m)] 72)
      have hTab := hT.out.2.2.tab.later ((Below.refl _ _).alloc (Nat.le_refl _) (.cells #[.slice OA ol.length oc, .map (some m)] 72))
      have HSE := Lib.hid (sumN_eq (q := ⟨wh, col, clip, step⟩) hT.out.1)
      go_upto_region 4 with fail
      generalize hW : w1.alloc (.cells #[.slice OA ol.length oc, .map (some m)] 72) = W3 at *
      clear hW
      have HS := Lib.hid (fun z : After W3.heap.size W3 => sumU_any columns ol OA oc m wh col clip step W wc z.val (hTab.later z.property) (HQ.out.later (b3.trans (z.property.mono b3.size))) HQ2.out)
      rw [HSE.out] at HS
      have HN := Lib.hid (fun V => nearestU_any (sumN (l.map SubD.v) ⟨wh, col, clip, step⟩) step HBd.out hst V)
      have HL := Lib.hid (fun V => leastU_any clip step hcl hst V)
      have aq := After.cells (B := W3.heap.size) k3.cell k3.lt
      have at_ := After.cells (B := W3.heap.size) t3.cell t3.lt
      generalize hsn : sumN (l.map SubD.v) ⟨wh, col, clip, step⟩ = sn at *
      generalize hpp : nearN sn step = pp at *
      generalize hbb : leastN clip step = bb at *
      have HEq := Lib.hid (And.intro hsn (And.intro hpp hbb))
      clear hsn hpp hbb
      clear hT hTab k3 k2 k1 k1c t3 HO hst hcl
      refine wp_region_class_lit (C := fun w' => ∃ z : After W3.heap.size W3, w' = z.val) (by kernel_rfl) (by kernel_rfl) ⟨⟨_, (Below.refl _ _).drew⟩, rfl⟩ ?_
      repeat (go_big_quiet_step ((first
        | (go_at_call 40; with_reducible exact after_of (Nat.le_refl _) _ (HS.out _))
        | (go_at_call 39; with_reducible exact after_of_same _ (HN.out _))
        | (go_at_call 41; with_reducible exact after_of_same _ (HL.out _)))))
      refine wpQuiet_nil ?_
      intro wz0 hw'
      obtain ⟨⟨wz, hz⟩, hw''⟩ := hw'
      dsimp only at hw''
      subst hw''
      go_wp2_with fail
      show bodyPost _ _ _ _ _ _
      exact bodyPost_ret (v := .tuple #[.int .i64 pp, .int .i64 bb, .int .i64 0]) (by simp [results, Tryz.results14, go_sem]) rfl ⟨by rw [HEq.out.1, HEq.out.2.1, HEq.out.2.2], b3.trans (hz.mono b3.size)⟩
end Go.Proofs.YtbkekdbabkncfaaGreat
