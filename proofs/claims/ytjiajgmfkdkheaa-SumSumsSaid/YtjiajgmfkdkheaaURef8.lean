/- Who is met, by the reference. Written by r8.py. -/
import Derived.Test.YtjiajgmfkdkheaaURef7
import Derived.Test.YtjiajgmfkdkheaaURef5
import Derived.Test.YtjiajgmfkdkheaaUTab
import Derived.Test.YtjiajgmfkdkheaaSFlp

namespace Go.Proofs.Ytjiajgmfkdkheaa
open Go.RowKit Go.Maps

theorem cols10_ok {columns : Int} {q : Que} {s : Sub} (hq : queB columns q = true) (hs : subB columns s = true) : ∀ i, (h : i < q.wheres.length) → ∃ k : Nat, q.wheres[i].col = k ∧ k < s.vals.length := fun i hi => by
  have h1 := (que_parts hq).2.2.1 i hi
  have h2 := (sub_parts hs).2.1
  exact ⟨q.wheres[i].col.toNat, by omega, by omega⟩
set_option maxRecDepth 100000 in
set_option maxHeartbeats 8000000 in
theorem meets10_any (columns : Int) (l : List SubD) (A : Option Addr) (c : Nat) (wh : List Whe) (col clip step : Int) (W : Option Addr) (wc : Nat) (w : World) (h : SubsAt w w.heap.size A l) (hl : l.length ≤ 24) (hq : WhesAt w w.heap.size W wh) (hw : wh.length ≤ 10) :
    Calls Try.prog 8 #[.int .i64 columns, .slice A l.length c, .agg #[.slice W wh.length wc, .int .i64 col, .int .i64 clip, .int .i64 step]] w (MeetsPost w (metV columns (l.map SubD.v) ⟨wh, col, clip, step⟩) (askE columns (l.map SubD.v) ⟨wh, col, clip, step⟩)) := by
  obtain ⟨i4, hi4, hq0, hq1, hq2⟩ := info_parts intInfo
  have b1 := (Below.refl w.heap.size w).alloc (Nat.le_refl _) (.cells #[.slice W wh.length wc, .int .i64 col, .int .i64 clip, .int .i64 step] 25)
  have k1 := Blk.new w #[.slice W wh.length wc, .int .i64 col, .int .i64 clip, .int .i64 step] 25
  have k1c := k1.cell
  have g1 := k1.lt
  have HCk := Lib.hid (fun W' (hb : Below w.heap.size w W') => check10_any columns l A c W' (h.later hb) hl)
  cases q1 : tabB columns (l.map SubD.v) with
  | false =>
    have hE : askE columns (l.map SubD.v) ⟨wh, col, clip, step⟩ = 100 := by unfold askE; rw [q1]; rfl
    have hV : metV columns (l.map SubD.v) ⟨wh, col, clip, step⟩ = [] := by unfold metV; rw [if_neg (by rw [hE]; decide)]
    have hT : tabE columns (l.map SubD.v) = 100 := by unfold tabE; rw [q1]; rfl
    rw [hE, hV]
    rw [hT] at HCk
    clear h hq
    go_enter Try.func8, Try.ntmps8
    go_wp2_with (go_at_call 12; (with_reducible refine (HCk.out _ b1).mono ?_); rintro e w1 ⟨rfl, h1⟩; have b2 := b1.trans (h1.mono b1.size))
    show bodyPost _ _ _ _ _ _
    exact bodyPost_ret (v := .tuple #[.slice none 0 0, .int .i64 100]) (by simp [results, Try.results8, go_sem]) rfl ⟨none, 0, rfl, Flat.nil _ _ _ _ _, b2⟩
  | true =>
    have hT : tabE columns (l.map SubD.v) = 0 := by unfold tabE; rw [if_pos q1]
    rw [hT] at HCk
    have hcol := (ask_parts q1).1
    have HQu := Lib.hid (fun W' (hb : Below w.heap.size w W') => question10_any columns wh col clip step W wc W' (hq.later hb) (by omega) (by omega))
    cases q2 : queB columns ⟨wh, col, clip, step⟩ with
    | false =>
      rw [q2] at HQu
      have hE : askE columns (l.map SubD.v) ⟨wh, col, clip, step⟩ = 101 := by unfold askE; rw [if_pos q1, q2]; rfl
      have hV : metV columns (l.map SubD.v) ⟨wh, col, clip, step⟩ = [] := by unfold metV; rw [if_neg (by rw [hE]; decide)]
      rw [hE, hV]
      clear h hq
      go_enter Try.func8, Try.ntmps8
      go_wp2_with (first
        | (go_at_call 12; (with_reducible refine (HCk.out _ b1).mono ?_); rintro e w1 ⟨rfl, h1⟩; have b2 := b1.trans (h1.mono b1.size); have k2c := (k1.below h1 g1).cell)
        | (go_at_call 18; (with_reducible refine (HQu.out _ b2).mono ?_); rintro e w3 ⟨rfl, h3⟩; have b4 := b2.trans (h3.mono b2.size)))
      show bodyPost _ _ _ _ _ _
      exact bodyPost_ret (v := .tuple #[.slice none 0 0, .int .i64 101]) (by simp [results, Try.results8, go_sem]) rfl ⟨none, 0, rfl, Flat.nil _ _ _ _ _, b4⟩
    | true =>
      rw [q2] at HQu
      have hE : askE columns (l.map SubD.v) ⟨wh, col, clip, step⟩ = 0 := by unfold askE; rw [if_pos q1, if_pos q2]
      have hV : metV columns (l.map SubD.v) ⟨wh, col, clip, step⟩ = metL (l.map SubD.v) ⟨wh, col, clip, step⟩ := by unfold metV; rw [if_pos hE]
      have hnd : (l.map fun x => x.v.id).Nodup := by have := (ask_parts q1).2.2.2; rw [List.map_map] at this; exact this
      have hsub : ∀ x ∈ l, subB columns x.v = true := fun x hx => (ask_parts q1).2.2.1 _ (List.mem_map_of_mem hx)
      have hll : l.length ≤ 16 := by have := (ask_parts q1).2.1; rw [List.length_map] at this; exact this
      rw [hE, hV]
      have HOr := Lib.hid (fun W' (hb : Below w.heap.size w W') => ordered10_any l A c W' (h.later hb) (by omega))
      have HQ := Lib.hid hq
      have HQ2 := Lib.hid q2
      have HND := Lib.hid hnd
      have HSub := Lib.hid hsub
      have HCo := Lib.hid hcol
      clear h hq q1 q2 hE hV hT hnd hsub hcol
      go_enter Try.func8, Try.ntmps8
      go_upto_region 6 with (first
        | (go_at_call 12; (with_reducible refine (HCk.out _ b1).mono ?_); rintro e w1 ⟨rfl, h1⟩; have b2 := b1.trans (h1.mono b1.size); have k2 := k1.below h1 g1; have k2c := k2.cell)
        | (go_at_call 18; (with_reducible refine (HQu.out _ b2).mono ?_); rintro e w3 ⟨rfl, h3⟩; have b4 := b2.trans (h3.mono b2.size); have k4 := k2.below h3 k2.lt))
      clear k1 k1c k2 k2c HCk HQu
      go_upto_region 7 with (go_at_call 19; (with_reducible refine (HOr.out _ b4).mono ?_); rintro e w5 ⟨A', c', ol, rfl, hO, h5⟩)
      have b5 := b4.trans (h5.mono b4.size)
      have k5 := k4.below h5 k4.lt
      have g5 := k5.lt
      have hlen : ol.length = l.length := hO.out.1.length_eq
      have hle1 : ol.length ≤ l.length := by omega
      have hle2 : l.length ≤ ol.length := by omega
      have HLen := Lib.hid hlen
      have HB5 := Lib.hid b5
      have HSO : Hid (∀ x ∈ ol, subB columns x.v = true) := Lib.hid (fun x hx => HSub.out x (hO.out.1.mem_iff.1 hx))
      have HME := Lib.hid (metL_eq (q := ⟨wh, col, clip, step⟩) hO.out.1 hO.out.2.1 HND.out)
      have HOS := Lib.hid hO.out.2.2
      clear b4 k4 h1 h3 h5 b1 b2 hO HOr hlen
      generalize hnn : l.length = nn at *
      have HNN := Lib.hid hnn
      clear hnn
      go_wp2_with fail
      have HI0 : Hid (0 = (metU ⟨wh, col, clip, step⟩ (ol.take 0)).length ∧ w5.ownsRow w5.heap.size 3 1 (.slice none 0 0) 0 ((idsL (metU ⟨wh, col, clip, step⟩ (ol.take 0))).flatMap intC) ∧ Below w5.heap.size w5 w5) := Lib.hid ⟨by simp [metU], World.ownsRow_nil _ _ _ _, Below.refl _ _⟩
      go_loopw [9, 10] (fun oo ii wr => ∃ (i n : Nat) (A2 : Option Addr) (c2 : Nat), i ≤ nn ∧ oo = .slice A2 n c2 ∧ ii = .int .i64 i ∧ Hid (n = (metU ⟨wh, col, clip, step⟩ (ol.take i)).length ∧ wr.ownsRow w5.heap.size 3 1 (.slice A2 n c2) n ((idsL (metU ⟨wh, col, clip, step⟩ (ol.take i))).flatMap intC) ∧ Below w5.heap.size w5 wr)) (fun _ ii _ => nn - (vInt ii).toNat)
      case atStart => exact ⟨0, 0, none, 0, Nat.zero_le _, rfl, rfl, HI0⟩
      case round =>
        obtain ⟨i, n, A2, c2, hi, rfl, rfl, hR⟩ := hrel
        clear HI0
        obtain ⟨hn, ho, hB⟩ := hR.out
        have HN := Lib.hid hn
        have HO := Lib.hid ho
        clear hR hn ho
        have bw := HB5.out.trans (hB.mono HB5.out.size)
        by_cases hlt : i < ol.length
        · have hil : (i : Int) < (nn : Int) := by omega
          have hn16 : n ≤ 24 := by
            rw [HN.out]
            exact Nat.le_trans (List.length_filter_le _ _) (by rw [List.length_take]; omega)
          obtain ⟨b, off, rfl, hb, c0, c1, hv⟩ := subs_at (HOS.out.later hB) hlt
          have hx : ol[i] ∈ ol := List.getElem_mem hlt
          have hsb := HSO.out _ hx
          have hvl : ol[i].v.vals.length ≤ 100 := by have := (sub_parts hsb).2.1; have := HCo.out; omega
          have HA := Lib.hid (fun z : After wr.heap.size wr => asked10_any ol[i].v.id ol[i].v.vals ol[i].V ol[i].c wh col clip step W wc z.val (hv.later z.property) (HQ.out.later (bw.trans (z.property.mono bw.size))) (cols10_ok HQ2.out hsb) (by omega))
          have HM : Hid (metU ⟨wh, col, clip, step⟩ (ol.take (i + 1)) = metU ⟨wh, col, clip, step⟩ (ol.take i) ++ if askB ol[i].v ⟨wh, col, clip, step⟩ = true then [ol[i]] else []) := Lib.hid (metU_take hlt)
          have hxx : askB ⟨ol[i].v.id, ol[i].v.vals⟩ ⟨wh, col, clip, step⟩ = askB ol[i].v ⟨wh, col, clip, step⟩ := rfl
          rw [hxx] at HA
          clear hxx hv hx hsb
          generalize askB ol[i].v ⟨wh, col, clip, step⟩ = p at *
          generalize ol[i] = x at *
          have hBs := hB.size
          have a0 := After.cell (B := wr.heap.size) c0 hb
          have a1 := After.cell (B := wr.heap.size) c1 hb
          have kw := k5.below hB g5
          have aq := After.cells (B := wr.heap.size) kw.cell kw.lt
          clear kw
          cases p with
          | false =>
            have HM2 : Hid (metU ⟨wh, col, clip, step⟩ (ol.take (i + 1)) = metU ⟨wh, col, clip, step⟩ (ol.take i)) := Lib.hid (by rw [HM.out]; simp)
            clear HM
            go_upto_region 11 with fail
            refine wp_region_class_lit (C := fun w' => ∃ z : After wr.heap.size wr, w' = z.val) (by kernel_rfl) (by kernel_rfl) ⟨⟨_, (Below.refl _ _).drew⟩, rfl⟩ ?_
            repeat (go_big_quiet_step ((first
              | (go_at_call 20; with_reducible exact after_of (Nat.le_refl _) _ (HA.out _)))))
            refine wpQuiet_nil ?_
            intro wz0 hw'
            obtain ⟨⟨wz, hz⟩, hw''⟩ := hw'
            dsimp only at hw''
            subst hw''
            clear a0 a1 aq c0 c1
            go_wp2_with fail
            go_roundw
            case rel => exact ⟨i + 1, n, A2, c2, by omega, rfl, by go_num, Lib.hid ⟨by rw [HM2.out]; exact HN.out, by rw [HM2.out]; exact own_below HO.out hz, hB.trans (hz.mono hB.size)⟩⟩
            case measure => simp [vInt]; omega
          | true =>
            have HM2 : Hid (metU ⟨wh, col, clip, step⟩ (ol.take (i + 1)) = metU ⟨wh, col, clip, step⟩ (ol.take i) ++ [x]) := Lib.hid (by rw [HM.out]; simp)
            clear HM
            go_upto_region 11 with fail
            refine wp_region_class_lit (C := fun w' => ∃ z : After wr.heap.size wr, w' = z.val) (by kernel_rfl) (by kernel_rfl) ⟨⟨_, (Below.refl _ _).drew⟩, rfl⟩ ?_
            repeat (go_big_quiet_step ((first
              | (go_at_call 20; with_reducible exact after_of (Nat.le_refl _) _ (HA.out _)))))
            refine wpQuiet_nil ?_
            intro wz0 hw'
            obtain ⟨⟨wz, hz⟩, hw''⟩ := hw'
            dsimp only at hw''
            subst hw''
            have d0 := (hz.cell (p := ⟨b, off + i * 2, none⟩) hb).trans c0
            have HNew := Lib.hid (int_new wz0 x.v.id 3)
            have HOz := Lib.hid (own_below HO.out hz)
            have hBz := hB.trans (hz.mono hB.size)
            have hzs := hBz.size
            clear a0 a1 aq c0 c1
            go_wp2_with (at_builtin; refine wpList_append_own_at _ rfl _ _ 30 rfl w5.heap.size 3 i4 _ 1 8 Try.underlying30 hi4 hq0 hq1 hq2 rfl (by decide) _ _ _ rfl (HOz.out.alloc _) ⟨wz0.heap.size, 0, none⟩ 1 1 (intC x.v.id) rfl rfl HNew.out (intC_one _) (by unfold maxLen; omega) (by omega) (by simp; omega) ?_; intro v' w6 hown6 hg6 _ hat6; obtain ⟨A3, c3, rfl⟩ := own_slice hown6; have hB6 := (hBz.alloc hBz.size (.cells #[.int .i64 x.v.id] 3)).grown hg6 (by simp; omega) (fun k e => (HOz.out.lt k e).1))
            go_roundw
            case rel => exact ⟨i + 1, n + 1, A3, c3, by omega, rfl, by go_num, Lib.hid ⟨by rw [HM2.out, List.length_append, HN.out]; rfl, by rw [HM2.out]; simpa [idsL] using hown6, hB6⟩⟩
            case measure => simp [vInt]; omega
        · have hil : ¬ (i : Int) < (nn : Int) := by omega
          have ho := HO.out
          have hn := HN.out
          rw [List.take_of_length_le (by omega)] at ho hn
          have hi2 : IntsAt wr wr.heap.size A2 (idsL (metU ⟨wh, col, clip, step⟩ ol)) := Flat.of_own (c := c2) intC_len (by decide) (by rw [show (idsL (metU ⟨wh, col, clip, step⟩ ol)).length = n by rw [hn]; simp [idsL]]; exact ho)
          have hlen : n = (metL (l.map SubD.v) ⟨wh, col, clip, step⟩).length := by rw [hn, ← HME.out, List.length_map]
          rw [show idsL (metU ⟨wh, col, clip, step⟩ ol) = metL (l.map SubD.v) ⟨wh, col, clip, step⟩ from HME.out] at hi2
          have HE := Lib.hid hi2
          have HLn := Lib.hid hlen
          clear ho hn HO HN hi2 hlen
          go_wp2_with fail
          show bodyPost _ _ _ _ _ _
          exact bodyPost_ret (v := .tuple #[.slice A2 n c2, .int .i64 0]) (by simp [results, Try.results8, go_sem]) rfl ⟨A2, c2, by rw [HLn.out], HE.out, bw⟩
end Go.Proofs.Ytjiajgmfkdkheaa
