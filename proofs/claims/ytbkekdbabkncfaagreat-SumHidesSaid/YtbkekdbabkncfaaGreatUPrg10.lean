/- What is counted, and the sum, by the program. Written by p9.py. -/
import Derived.Test.YtbkekdbabkncfaaGreatUPrg9

namespace Go.Proofs.YtbkekdbabkncfaaGreat
open Go.RowKit Go.Maps

set_option maxRecDepth 100000 in
set_option maxHeartbeats 4000000 in
theorem countsU_any (vals : List Int) (V : Option Addr) (vc : Nat) (wh : List Whe) (col clip step : Int) (W : Option Addr) (wc : Nat) (w : World) (hs : IntsAt w w.heap.size V vals) (hc : col = -1 ∨ ∃ k : Nat, col = k ∧ k < vals.length) :
    Calls Tryz.prog 63 #[.agg #[.slice W wh.length wc, .int .i64 col, .int .i64 clip, .int .i64 step], .slice V vals.length vc] w fun e w' => e = .returned (.int .i64 (cntQ ⟨0, vals⟩ ⟨wh, col, clip, step⟩)) ∧ Below w.heap.size w w' := by
  have b1 := (Below.refl w.heap.size w).alloc (Nat.le_refl _) (.cells #[.slice W wh.length wc, .int .i64 col, .int .i64 clip, .int .i64 step] 25)
  have k1 := Blk.new w #[.slice W wh.length wc, .int .i64 col, .int .i64 clip, .int .i64 step] 25
  have k1c := k1.cell
  have g1 := k1.lt
  rcases hc with rfl | ⟨k, rfl, hk⟩
  · have HR : Hid (cntQ ⟨0, vals⟩ ⟨wh, -1, clip, step⟩ = 1) := Lib.hid (by unfold cntQ; rw [if_pos rfl])
    clear hs
    go_enter Tryz.func63, Tryz.ntmps63
    go_wp2_with fail
    go_ret
    exact ⟨by rw [HR.out]; rfl, b1⟩
  · obtain ⟨b, off, rfl, hb, c3⟩ := ints_at (hs.later b1) hk
    have HR : Hid (cntQ ⟨0, vals⟩ ⟨wh, (k : Int), clip, step⟩ = min vals[k] clip) := Lib.hid (by unfold cntQ; rw [if_neg (by dsimp only; omega)]; dsimp only; rw [Int.toNat_natCast, getD_lt _ _ hk])
    generalize cntQ ⟨0, vals⟩ ⟨wh, (k : Int), clip, step⟩ = R at *
    have hne : ((k : Int) == -1) = false := by rw [beq_eq_false_iff_ne]; omega
    have hki : (k : Int) < (vals.length : Int) := by omega
    have hkn : (k : Int).toNat = k := by omega
    generalize vals[k] = v at *
    obtain ⟨u, hu⟩ : ∃ u, (if clip < v then clip else v) = u := ⟨_, rfl⟩
    have HU : Hid (R = u) := Lib.hid (by rw [HR.out, ← hu]; split <;> omega)
    clear hs
    go_enter Tryz.func63, Tryz.ntmps63
    go_upto_region 3 with fail
    generalize hW : w.alloc (.cells #[.slice W wh.length wc, .int .i64 (k : Int), .int .i64 clip, .int .i64 step] 25) = wr at *
    clear hW
    have ksA := After.cells (B := wr.heap.size) k1.cell k1.lt
    have a3 := After.cell (B := wr.heap.size) c3 hb
    clear k1 k1c
    refine wp_region_class_lit (C := fun w' => ∃ z : After wr.heap.size wr, w' = z.val) (by kernel_rfl) (by kernel_rfl) ⟨⟨_, (Below.refl _ _).drew⟩, rfl⟩ ?_
    repeat (go_big_quiet_step (fail))
    refine wpQuiet_nil ?_
    intro wz0 hw'
    obtain ⟨⟨wz, hz⟩, hw''⟩ := hw'
    dsimp only at hw''
    subst hw''
    go_wp2_with fail
    go_ret
    exact ⟨by rw [HU.out]; rfl, b1.trans (hz.mono b1.size)⟩
set_option maxHeartbeats 1000000 in
theorem nearestU_any (n step : Int) (hn : 0 ≤ n ∧ n ≤ 24000000) (hs : 1 ≤ step ∧ step ≤ 1000000) (w : World) :
    Calls Tryz.prog 39 #[.int .i64 n, .int .i64 step] w fun e w' => e = .returned (.int .i64 (nearN n step)) ∧ w = w' := by
  have hz : (step == 0) = false := by rw [beq_eq_false_iff_ne]; omega
  have hp : wrap64 ((n + step / 2) / step * step) = nearN n step := by
    unfold nearN
    have h1 : 0 ≤ (n + step / 2) / step := Int.ediv_nonneg (by omega) (by omega)
    have h2 := Int.ediv_mul_le (n + step / 2) (show step ≠ 0 by omega)
    have h4 : 0 ≤ (n + step / 2) / step * step := Int.mul_nonneg h1 (by omega)
    clear h1
    generalize (n + step / 2) / step * step = p at *
    unfold wrap64; omega
  have HP := Lib.hid hp
  clear hp
  obtain ⟨hn1, hn2⟩ := hn
  obtain ⟨hs1, hs2⟩ := hs
  go_enter Tryz.func39, Tryz.ntmps39
  go_wp2_with fail
  go_ret
  exact ⟨ret_int HP.out, rfl⟩
set_option maxHeartbeats 1000000 in
theorem leastU_any (n step : Int) (hn : 1 ≤ n ∧ n ≤ 1000000) (hs : 1 ≤ step ∧ step ≤ 1000000) (w : World) :
    Calls Tryz.prog 41 #[.int .i64 n, .int .i64 step] w fun e w' => e = .returned (.int .i64 (leastN n step)) ∧ w = w' := by
  have hz : (step == 0) = false := by rw [beq_eq_false_iff_ne]; omega
  have hp : wrap64 ((n + step - 1) / step * step) = leastN n step := by
    unfold leastN
    have h1 : 0 ≤ (n + step - 1) / step := Int.ediv_nonneg (by omega) (by omega)
    have h2 := Int.ediv_mul_le (n + step - 1) (show step ≠ 0 by omega)
    have h4 : 0 ≤ (n + step - 1) / step * step := Int.mul_nonneg h1 (by omega)
    clear h1
    generalize (n + step - 1) / step * step = p at *
    unfold wrap64; omega
  have HP := Lib.hid hp
  clear hp
  obtain ⟨hn1, hn2⟩ := hn
  obtain ⟨hs1, hs2⟩ := hs
  go_enter Tryz.func41, Tryz.ntmps41
  go_wp2_with fail
  go_ret
  exact ⟨ret_int HP.out, rfl⟩
theorem counts_ok {columns : Int} {q : Que} {s : Sub} (hq : queB columns q = true) (hs : subB columns s = true) : q.col = -1 ∨ ∃ k : Nat, q.col = k ∧ k < s.vals.length := by
  have h2 := (sub_parts hs).2.1
  rcases (que_parts hq).2.2.2 with h | h
  · exact .inl h.1
  · exact .inr ⟨q.col.toNat, by omega, by omega⟩
theorem sum_take {l : List SubD} {q : Que} {i : Nat} (h : i < l.length) : sumL ((l.take (i + 1)).map fun x => cntQ x.v q) = sumL ((l.take i).map fun x => cntQ x.v q) + cntQ l[i].v q := by
  rw [List.take_succ_eq_append_getElem h, List.map_append, sumL_append]; simp [sumL]
theorem sum_bound {l : List SubD} {q : Que} (h : ∀ x ∈ l, 0 ≤ cntQ x.v q ∧ cntQ x.v q ≤ 1000000) : ∀ i, i ≤ l.length → 0 ≤ sumL ((l.take i).map fun x => cntQ x.v q) ∧ sumL ((l.take i).map fun x => cntQ x.v q) ≤ 1000000 * (i : Int)
  | 0, _ => by simp [sumL]
  | i + 1, hi => by
    have h1 := sum_bound h i (by omega)
    have h2 := h l[i] (List.getElem_mem (by omega))
    rw [sum_take (by omega)]
    omega
set_option maxRecDepth 100000 in
set_option maxHeartbeats 8000000 in
theorem sumU_any (columns : Int) (ol : List SubD) (A : Option Addr) (c m : Nat) (wh : List Whe) (col clip step : Int) (W : Option Addr) (wc : Nat) (w : World) (ht : TabAt w columns ol A m) (hq : WhesAt w w.heap.size W wh) (hQ : queB columns ⟨wh, col, clip, step⟩ = true) :
    Calls Tryz.prog 40 #[.agg #[.slice A ol.length c, .map (some m)], .agg #[.slice W wh.length wc, .int .i64 col, .int .i64 clip, .int .i64 step]] w fun e w' => e = .returned (.int .i64 (sumL ((metU ⟨wh, col, clip, step⟩ ol).map fun x => cntQ x.v ⟨wh, col, clip, step⟩))) ∧ Below w.heap.size w w' := by
  have b2 := ((Below.refl w.heap.size w).alloc (Nat.le_refl _) (.cells #[.slice A ol.length c, .map (some m)] 72)).alloc (by simp) (.cells #[.slice W wh.length wc, .int .i64 col, .int .i64 clip, .int .i64 step] 25)
  have k1 := (Blk.new w #[.slice A ol.length c, .map (some m)] 72).alloc (.cells #[.slice W wh.length wc, .int .i64 col, .int .i64 clip, .int .i64 step] 25)
  have k2 := newAt' (w.alloc (.cells #[.slice A ol.length c, .map (some m)] 72)) #[.slice W wh.length wc, .int .i64 col, .int .i64 clip, .int .i64 step] 25 (g := w.heap.size + 1) (by simp)
  have hl16 := ht.len
  have HT := Lib.hid (ht.later b2)
  have HM := Lib.hid (meetsU_any columns ol A c m wh col clip step W wc _ (ht.later b2) (hq.later b2) hQ)
  have HQ := Lib.hid hQ
  have g1 := k1.lt
  have g2 := k2.lt
  have k1c := k1.cell
  have k2c := k2.cell
  have HB2 := Lib.hid b2
  have HML : Hid ((∀ x ∈ metU ⟨wh, col, clip, step⟩ ol, x ∈ ol) ∧ (metU ⟨wh, col, clip, step⟩ ol).length ≤ 16) := Lib.hid ⟨fun x hx => (List.mem_filter.1 hx).1, Nat.le_trans (List.length_filter_le _ _) hl16⟩
  clear ht hq hQ b2
  go_enter Tryz.func40, Tryz.ntmps40
  go_upto_region 2 with fail
  generalize hW2 : (w.alloc (.cells #[.slice A ol.length c, .map (some m)] 72)).alloc (.cells #[.slice W wh.length wc, .int .i64 col, .int .i64 clip, .int .i64 step] 25) = W2 at *
  clear hW2
  go_upto_region 3 with (go_at_call 47; (with_reducible refine (HM.out).mono ?_); rintro e w3 ⟨A', c', rfl, hI, h3⟩)
  have HT3 := Lib.hid (HT.out.later h3)
  have k3 := k1.below h3 g1
  have j3 := k2.below h3 g2
  have g3 := k3.lt
  have g4 := j3.lt
  have HB3 := Lib.hid (HB2.out.trans (h3.mono HB2.out.size))
  have HI := Lib.hid hI
  clear k1 k1c k2 k2c h3 HM HT hI
  generalize hml : metU ⟨wh, col, clip, step⟩ ol = ml at *
  have HMQ := Lib.hid hml
  clear hml
  obtain ⟨hmo, hml16⟩ := HML.out
  have HMO := Lib.hid hmo
  clear hmo HML
  have HBd : Hid (∀ i, i ≤ ml.length → 0 ≤ sumL ((ml.take i).map fun x => cntQ x.v ⟨wh, col, clip, step⟩) ∧ sumL ((ml.take i).map fun x => cntQ x.v ⟨wh, col, clip, step⟩) ≤ 1000000 * (i : Int)) := Lib.hid (sum_bound fun x hx => cnt_bound (HT3.out.ok x (HMO.out x hx)) HQ.out)
  have HS0 : Hid ((0 : Int) = sumL ((ml.take 0).map fun x => cntQ x.v ⟨wh, col, clip, step⟩)) := Lib.hid (by simp [sumL])
  go_loopw [5, 12] (fun ss ii wr => ∃ (i : Nat) (s : Int), i ≤ ml.length ∧ ss = .int .i64 s ∧ ii = .int .i64 i ∧ Hid (s = sumL ((ml.take i).map fun x => cntQ x.v ⟨wh, col, clip, step⟩) ∧ Below w3.heap.size w3 wr)) (fun _ ii _ => ml.length - (vInt ii).toNat)
  case atStart => exact ⟨0, 0, Nat.zero_le _, rfl, rfl, Lib.hid ⟨HS0.out, Below.refl _ _⟩⟩
  case round =>
    obtain ⟨i, s, hi, rfl, rfl, hR⟩ := hrel
    clear HS0
    obtain ⟨hs, hB⟩ := hR.out
    have HS := Lib.hid hs
    clear hR hs
    by_cases hlt : i < ml.length
    · have hil : (i : Int) < (ml.length : Int) := by omega
      have TT := HT3.out.later hB
      have r1 := (k3.below hB g3).cell
      have r2 := (j3.below hB g4).cell
      have hlt' : i < (idsL ml).length := by simp [idsL]; exact hlt
      obtain ⟨b, off, rfl, hb, c0'⟩ := ints_at (HI.out.later hB) hlt'
      have c0 : wr.cell? ⟨b, off + i, none⟩ = some (.int .i64 ml[i].v.id) := by simp only [idsL, List.getElem_map] at c0'; exact c0'
      have hx := HMO.out _ (List.getElem_mem hlt)
      have hlook := TT.look hx
      have hsb := TT.ok _ hx
      have HC := Lib.hid (fun (V : World) (hV : Below wr.heap.size wr V) => countsU_any ml[i].v.vals ml[i].V ml[i].c wh col clip step W wc V ((TT.vals _ hx).later hV) (counts_ok HQ.out hsb))
      have HSt : Hid (sumL ((ml.take (i + 1)).map fun x => cntQ x.v ⟨wh, col, clip, step⟩) = s + cntQ ml[i].v ⟨wh, col, clip, step⟩) := Lib.hid (by rw [sum_take hlt, HS.out])
      have hxx : cntQ ⟨0, ml[i].v.vals⟩ ⟨wh, col, clip, step⟩ = cntQ ml[i].v ⟨wh, col, clip, step⟩ := rfl
      rw [hxx] at HC
      have hcb := cnt_bound hsb HQ.out
      have hsB := HBd.out i (by omega)
      rw [← HS.out] at hsB
      obtain ⟨hcb1, hcb2⟩ := hcb
      obtain ⟨hsB1, hsB2⟩ := hsB
      have hBs := hB.size
      clear hxx c0' hx hsb TT hlt'
      generalize cntQ ml[i].v ⟨wh, col, clip, step⟩ = cn at *
      generalize ml[i] = x at *
      go_wp2_with (go_at_call 63; (with_reducible refine (HC.out _ (Below.refl _ _)).mono ?_); rintro e w4 ⟨rfl, h4⟩)
      go_roundw
      case rel => exact ⟨i + 1, s + cn, by omega, rfl, by go_num, Lib.hid ⟨HSt.out.symm, hB.trans (h4.mono hB.size)⟩⟩
      case measure => simp [vInt]; omega
    · have hil : ¬ (i : Int) < (ml.length : Int) := by omega
      have HE : Hid (s = sumL (ml.map fun x => cntQ x.v ⟨wh, col, clip, step⟩)) := Lib.hid (by rw [HS.out, List.take_of_length_le (by omega)])
      clear HS
      go_wp2_with fail
      go_ret
      exact ⟨by rw [HE.out, HMQ.out]; rfl, HB3.out.trans (hB.mono HB3.out.size)⟩
end Go.Proofs.YtbkekdbabkncfaaGreat
