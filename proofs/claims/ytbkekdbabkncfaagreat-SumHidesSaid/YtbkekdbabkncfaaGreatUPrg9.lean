/- Who is met, by the program. Written by p9.py. -/
import Derived.Test.YtbkekdbabkncfaaGreatUPrg8
import Derived.Test.YtbkekdbabkncfaaGreatD1

namespace Go.Proofs.YtbkekdbabkncfaaGreat
open Go.RowKit Go.Maps

/-- Those who are met, in new memory. -/
def MetPost (w : World) (q : Que) (ol : List SubD) (e : Ending) (w' : World) : Prop := ∃ A' c', e = .returned (.slice A' (metU q ol).length c') ∧ IntsAt w' w'.heap.size A' (idsL (metU q ol)) ∧ Below w.heap.size w w'
set_option maxRecDepth 100000 in
set_option maxHeartbeats 8000000 in
theorem meetsU_any (columns : Int) (ol : List SubD) (A : Option Addr) (c m : Nat) (wh : List Whe) (col clip step : Int) (W : Option Addr) (wc : Nat) (w : World) (ht : TabAt w columns ol A m) (hq : WhesAt w w.heap.size W wh) (hQ : queB columns ⟨wh, col, clip, step⟩ = true) :
    Calls Tryz.prog 47 #[.agg #[.slice A ol.length c, .map (some m)], .agg #[.slice W wh.length wc, .int .i64 col, .int .i64 clip, .int .i64 step]] w (MetPost w ⟨wh, col, clip, step⟩ ol) := by
  obtain ⟨i4, hi4, hq0, hq1, hq2⟩ := info_parts intInfo
  have b2 := ((Below.refl w.heap.size w).alloc (Nat.le_refl _) (.cells #[.slice A ol.length c, .map (some m)] 72)).alloc (by simp) (.cells #[.slice W wh.length wc, .int .i64 col, .int .i64 clip, .int .i64 step] 25)
  have k1 := (Blk.new w #[.slice A ol.length c, .map (some m)] 72).alloc (.cells #[.slice W wh.length wc, .int .i64 col, .int .i64 clip, .int .i64 step] 25)
  have k2 := newAt' (w.alloc (.cells #[.slice A ol.length c, .map (some m)] 72)) #[.slice W wh.length wc, .int .i64 col, .int .i64 clip, .int .i64 step] 25 (g := w.heap.size + 1) (by simp)
  have hl16 := ht.len
  have HT := Lib.hid (ht.later b2)
  have HAs := Lib.hid (askedU_any columns ol A c m wh col clip step W wc _ (ht.later b2) (hq.later b2) hQ)
  have g1 := k1.lt
  have k1c := k1.cell
  have k2c := k2.cell
  have HB2 := Lib.hid b2
  clear ht hq hQ b2
  go_enter Tryz.func47, Tryz.ntmps47
  go_upto_region 1 with fail
  generalize hW2 : (w.alloc (.cells #[.slice A ol.length c, .map (some m)] 72)).alloc (.cells #[.slice W wh.length wc, .int .i64 col, .int .i64 clip, .int .i64 step] 25) = W2 at *
  clear hW2
  generalize hbn : bitsN (askL ⟨wh, col, clip, step⟩ ol) = N at *
  have HBN := Lib.hid hbn
  clear hbn
  go_upto_region 3 with (go_at_call 75; (with_reducible refine (HAs.out).mono ?_); rintro e w3 ⟨rfl, h3⟩)
  have HT3 := Lib.hid (HT.out.later h3)
  have k3 := k1.below h3 g1
  have k3c := k3.cell
  have g3 := k3.lt
  have HB3 := Lib.hid (HB2.out.trans (h3.mono HB2.out.size))
  clear k1 k1c k2 k2c h3 HAs HT
  go_wp2_with fail
  have HI0 : Hid (0 = (metU ⟨wh, col, clip, step⟩ (ol.take 0)).length ∧ w3.ownsRow w3.heap.size 3 1 (.slice none 0 0) 0 ((idsL (metU ⟨wh, col, clip, step⟩ (ol.take 0))).flatMap intC) ∧ Below w3.heap.size w3 w3) := Lib.hid ⟨by simp [metU], World.ownsRow_nil _ _ _ _, Below.refl _ _⟩
  go_loopw [6, 14] (fun oo ii wr => ∃ (i n : Nat) (A2 : Option Addr) (c2 : Nat), i ≤ ol.length ∧ oo = .slice A2 n c2 ∧ ii = .int .i64 i ∧ Hid (n = (metU ⟨wh, col, clip, step⟩ (ol.take i)).length ∧ wr.ownsRow w3.heap.size 3 1 (.slice A2 n c2) n ((idsL (metU ⟨wh, col, clip, step⟩ (ol.take i))).flatMap intC) ∧ Below w3.heap.size w3 wr)) (fun _ ii _ => ol.length - (vInt ii).toNat)
  case atStart => exact ⟨0, 0, none, 0, Nat.zero_le _, rfl, rfl, HI0⟩
  case round =>
    obtain ⟨i, n, A2, c2, hi, rfl, rfl, hR⟩ := hrel
    clear HI0
    obtain ⟨hn, ho, hB⟩ := hR.out
    have HN := Lib.hid hn
    have HO := Lib.hid ho
    clear hR hn ho
    by_cases hlt : i < ol.length
    · have hil : (i : Int) < (ol.length : Int) := by omega
      have hn16 : n ≤ 16 := by
        rw [HN.out]
        exact Nat.le_trans (List.length_filter_le _ _) (by rw [List.length_take]; omega)
      have TT := HT3.out.later hB
      have r1 := (k3.below hB g3).cell
      have hlt' : i < (ol.map fun x => x.v.id).length := by rw [List.length_map]; exact hlt
      obtain ⟨b, off, rfl, hb, c0'⟩ := ints_at TT.ids hlt'
      have c0 : wr.cell? ⟨b, off + i, none⟩ = some (.int .i64 ol[i].v.id) := by rw [List.getElem_map] at c0'; exact c0'
      have hbit : (bits BinOp.and IntKind.i64 ((N : Int) / 2 ^ i) 1 == 1) = askB ol[i].v ⟨wh, col, clip, step⟩ := by
        have h1 : ((N : Int) / 2 ^ i) = ((N / 2 ^ i : Nat) : Int) := by push_cast; rfl
        have hN : N < 2 ^ 16 := by
          have h2 := bitsN_lt (askL ⟨wh, col, clip, step⟩ ol)
          rw [HBN.out] at h2
          have h3 : (askL ⟨wh, col, clip, step⟩ ol).length = ol.length := by simp [askL]
          rw [h3] at h2
          exact Nat.lt_of_lt_of_le h2 (Nat.pow_le_pow_right (by decide) hl16)
        have h4 : N / 2 ^ i < 2 ^ 62 := Nat.lt_of_le_of_lt (Nat.div_le_self _ _) (by omega)
        rw [h1, and_one _ h4]
        have h5 := bitsN_bit (askL ⟨wh, col, clip, step⟩ ol) i (by simp [askL]; exact hlt)
        rw [HBN.out, askL_get hlt] at h5
        rw [h5]
        cases askB ol[i].v ⟨wh, col, clip, step⟩ <;> simp
      have HM : Hid (metU ⟨wh, col, clip, step⟩ (ol.take (i + 1)) = metU ⟨wh, col, clip, step⟩ (ol.take i) ++ if askB ol[i].v ⟨wh, col, clip, step⟩ = true then [ol[i]] else []) := Lib.hid (metU_take hlt)
      clear c0' TT hlt'
      generalize askB ol[i].v ⟨wh, col, clip, step⟩ = p at *
      generalize ol[i] = x at *
      have hBs := hB.size
      cases p with
      | false =>
        have HM2 : Hid (metU ⟨wh, col, clip, step⟩ (ol.take (i + 1)) = metU ⟨wh, col, clip, step⟩ (ol.take i)) := Lib.hid (by rw [HM.out]; simp)
        clear HM
        go_wp2_with fail
        go_roundw
        case rel => exact ⟨i + 1, n, A2, c2, by omega, rfl, by go_num, Lib.hid ⟨by rw [HM2.out]; exact HN.out, by rw [HM2.out]; exact HO.out, hB⟩⟩
        case measure => simp [vInt]; omega
      | true =>
        have HM2 : Hid (metU ⟨wh, col, clip, step⟩ (ol.take (i + 1)) = metU ⟨wh, col, clip, step⟩ (ol.take i) ++ [x]) := Lib.hid (by rw [HM.out]; simp)
        have HNew := Lib.hid (int_new wr x.v.id 3)
        clear HM
        go_wp2_with (at_builtin; refine wpList_append_own_at _ rfl _ _ 32 rfl w3.heap.size 3 i4 _ 1 8 Tryz.underlying32 hi4 hq0 hq1 hq2 rfl (by decide) _ _ _ rfl (HO.out.alloc _) ⟨wr.heap.size, 0, none⟩ 1 1 (intC x.v.id) rfl rfl HNew.out (intC_one _) (by unfold maxLen; omega) (by omega) (by simp; omega) ?_; intro v' w4 hown4 hg4 _ hat4; obtain ⟨A3, c3, rfl⟩ := own_slice hown4; have hB4 := (hB.alloc hB.size (.cells #[.int .i64 x.v.id] 3)).grown hg4 (by simp; omega) (fun k e => (HO.out.lt k e).1))
        go_roundw
        case rel => exact ⟨i + 1, n + 1, A3, c3, by omega, rfl, by go_num, Lib.hid ⟨by rw [HM2.out, List.length_append, HN.out]; rfl, by rw [HM2.out]; simpa [idsL] using hown4, hB4⟩⟩
        case measure => simp [vInt]; omega
    · have hil : ¬ (i : Int) < (ol.length : Int) := by omega
      have ho := HO.out
      have hn := HN.out
      rw [List.take_of_length_le (by omega)] at ho hn
      have HE : Hid (IntsAt wr wr.heap.size A2 (idsL (metU ⟨wh, col, clip, step⟩ ol))) := Lib.hid (Flat.of_own (c := c2) intC_len (by decide) (by rw [show (idsL (metU ⟨wh, col, clip, step⟩ ol)).length = n by rw [hn]; simp [idsL]]; exact ho))
      have HN2 := Lib.hid hn
      clear ho hn HO HN
      go_wp2_with fail
      go_ret
      exact ⟨A2, c2, by rw [HN2.out]; rfl, HE.out, HB3.out.trans (hB.mono HB3.out.size)⟩
end Go.Proofs.YtbkekdbabkncfaaGreat
