/- The law on bounds: a sum changes by no more than what is stated. -/
import Derived.Test.YtbkekdbabkncfaaGreatVAk
import Derived.Test.YtbkekdbabkncfaaGreatVFew
import Derived.Test.YtbkekdbabkncfaaGreatVBm

namespace Go.Proofs.YtbkekdbabkncfaaGreat
open Go.RowKit Go.Maps
set_option maxRecDepth 100000 in
set_option maxHeartbeats 8000000 in
theorem sumBound_any (columns : Int) (l : List SubD) (A : Option Addr) (c : Nat) (wh : List Whe) (col clip step : Int) (W : Option Addr) (wk : Nat) (k : Int) (w : World) (h : SubsAt w w.heap.size A l) (hl : l.length ≤ maxLen) (hlc : l.length ≤ c) (hm : ∀ x ∈ l, x.v.vals.length ≤ maxLen) (hq : WhesAt w w.heap.size W wh) (hwl : wh.length ≤ maxLen) (hk : 0 ≤ k ∧ k ≤ 255) :
    Calls Tryz.prog 6 #[.int .i64 columns, .slice A l.length c, .agg #[.slice W wh.length wk, .int .i64 col, .int .i64 clip, .int .i64 step], .int .u8 k] w fun e w' => e = .returned (.bool true) ∧ Below w.heap.size w w' := by
  have b1 := (Below.refl w.heap.size w).alloc (Nat.le_refl _) (.cells #[.slice W wh.length wk, .int .i64 col, .int .i64 clip, .int .i64 step] 25)
  have k1 := Blk.new w #[.slice W wh.length wk, .int .i64 col, .int .i64 clip, .int .i64 step] 25
  have HAl := Lib.hid (fun W' => alive_any W')
  have HAs := Lib.hid (fun (W' : World) (hb : Below w.heap.size w W') => asks_any columns l A c wh col clip step W wk W' (h.later hb) hm (hq.lat hb) hwl)
  cases hao : askOk columns l ⟨⟨wh, col, clip, step⟩, W, wk⟩ with
  | false =>
    rw [hao] at HAs
    go_enter Tryz.func6, Tryz.ntmps6
    go_wp2_with (first
      | (go_at_call 12; (with_reducible refine (HAl.out _).mono ?_); rintro e w1 ⟨rfl, h1⟩; have b2 := b1.trans (h1.mono b1.size); have k2 := k1.below h1 k1.lt; have k2c := k2.cell)
      | (go_at_call 31; (with_reducible refine (HAs.out _ b2).mono ?_); rintro e w2 ⟨rfl, h2⟩; have b3 := b2.trans (h2.mono b2.size)))
    go_ret
    exact ⟨rfl, b3⟩
  | true =>
    rw [hao] at HAs
    unfold askOk at hao
    simp only [Bool.and_eq_true, Bool.not_eq_true'] at hao
    obtain ⟨hgr, htb, hqb⟩ := hao
    obtain ⟨hl24, _, hv10, hw10⟩ := grt_parts hgr
    by_cases hn0 : l.length = 0
    · have hz : ((l.length : Int) == 0) = true := by rw [hn0]; rfl
      clear h hm hq hgr htb hqb hv10 hw10 hn0
      go_enter Tryz.func6, Tryz.ntmps6
      go_wp2_with (first
        | (go_at_call 12; (with_reducible refine (HAl.out _).mono ?_); rintro e w1 ⟨rfl, h1⟩; have b2 := b1.trans (h1.mono b1.size); have k2 := k1.below h1 k1.lt; have k2c := k2.cell)
        | (go_at_call 31; (with_reducible refine (HAs.out _ b2).mono ?_); rintro e w2 ⟨rfl, h2⟩; have b3 := b2.trans (h2.mono b2.size)))
      go_ret
      exact ⟨rfl, b3⟩
    · have hne : ((l.length : Int) == 0) = false := by rw [beq_eq_false_iff_ne]; omega
      have hnI : ¬ ((l.length : Int) = 0) := by omega
      obtain ⟨b, off, rfl, hb, c00, c01, _⟩ := subs_at h (show 0 < l.length by omega)
      obtain ⟨kn, hkn⟩ : ∃ kn : Nat, k.tmod (l.length : Int) = kn := ⟨(k.tmod (l.length : Int)).toNat, (Int.toNat_of_nonneg (Int.tmod_nonneg (l.length : Int) hk.1)).symm⟩
      have hkl : kn < l.length := by
        have := Int.tmod_lt_of_pos k (show (0 : Int) < l.length by omega)
        rw [hkn] at this
        omega
      have hcv : IntKind.i64.wrap k = k := IntWalk.i64_in _ (by omega)
      clear c00 c01
      go_enter Tryz.func6, Tryz.ntmps6
      go_upto_region 7 with (first
        | (go_at_call 12; (with_reducible refine (HAl.out _).mono ?_); rintro e w1 ⟨rfl, h1⟩; have b2 := b1.trans (h1.mono b1.size); have k2 := k1.below h1 k1.lt; have k2c := k2.cell)
        | (go_at_call 31; (with_reducible refine (HAs.out _ b2).mono ?_); rintro e w2 ⟨rfl, h2⟩; have b3 := b2.trans (h2.mono b2.size); have k3 := k2.below h2 k2.lt))
      have HS2 := Lib.hid (h.later b3)
      have g7 : (kn : Int) ≤ (c : Int) := by omega
      have g8 : (kn : Int) + 1 ≤ (l.length : Int) := by omega
      have g9 : (0 : Int) ≤ (kn : Int) + 1 := by omega
      have hw8 : IntKind.i64.wrap ((kn : Int) + 1) = (kn : Int) + 1 := IntWalk.i64_in _ (by omega)
      obtain ⟨i0, hi, hz0, hz1, hz2⟩ := info_parts subInfo
      have hown0 := own_empty w2.drew 56 2 w2.heap.size (Nat.le_refl _)
      have bw0 : Below w2.heap.size w2 (w2.drew.alloc (.cells #[] 56)) := (Below.refl _ _).drew.alloc (Nat.le_refl _) _
      have hrow := (h.later (b3.trans (bw0.mono b3.size))).row
      have HT1 := Lib.hid ((hrow.take_ kn).news subC_len (by decide))
      have HT2 : Hid (∀ w4, Below w2.heap.size w2 w4 → ∀ ad, (if c = kn + 1 then some ⟨b, off, none⟩ else some (⟨b, off + (kn + 1) * 2, none⟩ : Addr)) = some ad → ∀ j u, ((l.drop (kn + 1)).flatMap subC)[j]? = some u → w4.cell? (ad.add j) = some u) := Lib.hid (fun w4 hb4 ad e j u hu => by
        by_cases hc : c = kn + 1
        · have : l.drop (kn + 1) = [] := List.drop_of_length_le (by omega)
          rw [this] at hu
          simp at hu
        · rw [if_neg hc] at e
          exact ((h.later (b3.trans (hb4.mono b3.size))).row.drop_ (kn + 1)).news subC_len (by decide) ad e j u hu)
      have HO0 := Lib.hid hown0
      have htl : (l.take kn).length = kn := by rw [List.length_take]; omega
      have hdl : (l.drop (kn + 1)).length = l.length - (kn + 1) := by rw [List.length_drop]
      clear hrow hown0
      go_cut [11] (fun s11 wx => ∃ A' c', s11 = .slice A' (fewL l kn).length c' ∧ Hid (SubsAt wx wx.heap.size A' (fewL l kn) ∧ Below w2.heap.size w2 wx))
      case first =>
        go_region_law (first
          | (refine step_append_src (by rfl) (.tmp 43) (.tmp 46) 30 (by rfl) w2.heap.size 56 i0 _ 2 32 Tryz.underlying30 hi hz0 hz1 hz2 rfl (by decide) _ 0 [] (by rfl) HO0.out (some ⟨b, off, none⟩) kn c ((l.take kn).flatMap subC) (by rfl) (by rw [subCs_len, htl]) (fun e => by cases e) HT1.out (subCs_one _) (by unfold maxLen; omega) (by omega) (by simp) ?_; intro v4 w4 ho4 hg4 hor4)
          | (refine step_append_src (by rfl) (.tmp 47) (.tmp 51) 30 (by rfl) w2.heap.size 56 i0 _ 2 32 Tryz.underlying30 hi hz0 hz1 hz2 rfl (by decide) v4 (0 + kn) ([] ++ (l.take kn).flatMap subC) (by rfl) ho4 (if c = kn + 1 then some ⟨b, off, none⟩ else some ⟨b, off + (kn + 1) * 2, none⟩) (l.length - (kn + 1)) (c - (kn + 1)) ((l.drop (kn + 1)).flatMap subC) (by rfl) (by rw [subCs_len, hdl]) (fun e => by split at e <;> cases e) (HT2.out _ (bw0.grown hg4 (by simp) (fun k e => by simp [Value.ownBlock] at e; omega))) (subCs_one _) (by unfold maxLen; omega) (by omega) (by have h9 := (bw0.grown hg4 (by simp) (fun k e => by simp [Value.ownBlock] at e; omega)).size; omega) ?_; intro v5 w5 ho5 hg5 hor5))
        have hd4 := bw0.grown hg4 (by simp) (fun k e => by simp [Value.ownBlock] at e; omega)
        have hd5 := hd4.grown hg5 hd4.size (fun k e => (ho4.lt k e).1)
        obtain ⟨A5, c5, rfl⟩ := own_slice ho5
        have hnn : 0 + kn + (l.length - (kn + 1)) = (fewL l kn).length := by rw [few_len hkl]; omega
        rw [hnn, List.nil_append, ← few_flat] at ho5
        have hd5D := hd5
        all_goals first | (go_step; go_step; go_meet) | (go_step; go_meet) | go_meet
        refine ⟨A5, c5, by rw [← hnn], Lib.hid ⟨⟨Flat.of_own (c := c5) subC_len (by decide) ho5, fun x hx => ?_⟩, hd5⟩⟩
        exact (h.each x (few_mem hx)).later (b3.trans (hd5D.mono b3.size))
      case rest =>
        obtain ⟨A5, c5, rfl, HF⟩ := hcut
        obtain ⟨hS5, hB5⟩ := HF.out
        have b5 := b3.trans (hB5.mono b3.size)
        have k5 := k3.below hB5 k3.lt
        have HB := Lib.hid b5
        have HK5 := Lib.hid k5
        have hst := (que_parts hqb).2.1
        have hclip : 1 ≤ clip ∧ clip ≤ 1000000 := by rcases (que_parts hqb).2.2.2 with h | h <;> (dsimp only at h; omega)
        dsimp only at hst
        have hcol := (ask_parts htb).1
        have HSl := Lib.hid (fun W' (hb : Below wc.heap.size wc W') => sumP_any columns l (some ⟨b, off, none⟩) c wh col clip step W wk W' (h.later (b5.trans (hb.mono b5.size))) hl hm (hq.lat (b5.trans (hb.mono b5.size))) hwl)
        have HSf := Lib.hid (fun W' (hb : Below wc.heap.size wc W') => sumP_any columns (fewL l kn) A5 c5 wh col clip step W wk W' (hS5.later hb) (by rw [few_len hkl]; unfold maxLen; omega) (fun x hx => hm x (few_mem hx)) (hq.lat (b5.trans (hb.mono b5.size))) hwl)
        have HSn := Lib.hid (fun W' (hb : Below wc.heap.size wc W') => sumP_any columns [] none 0 wh col clip step W wk W' ⟨fun k hk => by simp at hk, fun x hx => by cases hx⟩ (by decide) (fun x hx => by cases hx) (hq.lat (b5.trans (hb.mono b5.size))) hwl)
        have hgood : ∀ x : List SubD, tabB columns (x.map SubD.v) = true → askE columns (x.map SubD.v) ⟨wh, col, clip, step⟩ = 0 ∧ sumP columns (x.map SubD.v) ⟨wh, col, clip, step⟩ = nearN (sumN (x.map SubD.v) ⟨wh, col, clip, step⟩) step ∧ sumB columns (x.map SubD.v) ⟨wh, col, clip, step⟩ = leastN clip step := fun x hx => by
          have hE : askE columns (x.map SubD.v) ⟨wh, col, clip, step⟩ = 0 := by unfold askE; rw [if_pos hx, if_pos hqb]
          exact ⟨hE, by unfold sumP; rw [if_pos hE], by unfold sumB; rw [if_pos hE]⟩
        obtain ⟨e1, e2, e3⟩ := hgood l htb
        obtain ⟨f1, f2, f3⟩ := hgood (fewL l kn) (few_tab htb)
        obtain ⟨g1, g2, g3⟩ := hgood [] (nil_tab hcol)
        rw [e1, e2, e3] at HSl
        rw [f1, f2, f3] at HSf
        rw [g1, g2, g3] at HSn
        have hfs := few_sum hkl (ask_parts htb).2.2.1 hqb
        have hnl := near_le _ _ _ _ hst.1 hfs (by omega)
        have hnh := near_half (sumN (l.map SubD.v) ⟨wh, col, clip, step⟩) step hst.1
        have hlg := least_ge clip step hst.1
        have hnd := near_dvd (sumN (l.map SubD.v) ⟨wh, col, clip, step⟩) step
        have hld := least_dvd clip step
        dsimp only at hnl
        have hsb := sumUp_bound (l := l.map SubD.v) (q := ⟨wh, col, clip, step⟩) (fun s hs => cnt_bound ((ask_parts htb).2.2.1 s hs) hqb)
        have hsbl := hsb (l.map SubD.v).length (Nat.le_refl _)
        rw [sumUp_all, List.length_map] at hsbl
        have hfb := few_tab (k := kn) htb
        have hsbf := sumUp_bound (l := (fewL l kn).map SubD.v) (q := ⟨wh, col, clip, step⟩) (fun s hs => cnt_bound ((ask_parts hfb).2.2.1 s hs) hqb) ((fewL l kn).map SubD.v).length (Nat.le_refl _)
        rw [sumUp_all] at hsbf
        have HSB : Hid (∀ i, i ≤ l.length → 0 ≤ sumUp (l.map SubD.v) ⟨wh, col, clip, step⟩ i ∧ sumUp (l.map SubD.v) ⟨wh, col, clip, step⟩ i ≤ 24000000) := Lib.hid (fun i hi => by
          have := hsb i (by rw [List.length_map]; exact hi)
          omega)
        have HSS : Hid (∀ i, (h : i < l.length) → sumUp (l.map SubD.v) ⟨wh, col, clip, step⟩ (i + 1) = sumUp (l.map SubD.v) ⟨wh, col, clip, step⟩ i + if askB l[i].v ⟨wh, col, clip, step⟩ = true then cntQ l[i].v ⟨wh, col, clip, step⟩ else 0) := Lib.hid (fun i h => by
          have := sumUp_succ (l := l.map SubD.v) (q := ⟨wh, col, clip, step⟩) (i := i) (by rw [List.length_map]; exact h)
          simpa using this)
        have HSN : Hid (sumUp (l.map SubD.v) ⟨wh, col, clip, step⟩ l.length = sumN (l.map SubD.v) ⟨wh, col, clip, step⟩) := Lib.hid (by have := sumUp_all (l.map SubD.v) ⟨wh, col, clip, step⟩; rw [List.length_map] at this; exact this)
        have HVL : Hid (∀ i, (h : i < l.length) → (l[i].v.vals.length : Int) = columns) := Lib.hid (fun i h => (sub_parts ((ask_parts htb).2.2.1 _ (List.mem_map_of_mem (List.getElem_mem h)))).2.1)
        have HBd : Hid (∀ s ∈ l.map SubD.v, 0 ≤ cntQ s ⟨wh, col, clip, step⟩ ∧ cntQ s ⟨wh, col, clip, step⟩ ≤ 1000000) := Lib.hid (fun s hs => cnt_bound ((ask_parts htb).2.2.1 s hs) hqb)
        have HQP := Lib.hid (que_parts hqb)
        have hw10' : wh.length ≤ 10 := hw10 0 (by simp)
        have HH := Lib.hid h
        have HQq := Lib.hid hq
        have hS0 := hsbl.1
        have hS1 : sumN (l.map SubD.v) ⟨wh, col, clip, step⟩ ≤ 24000000 := by omega
        have k5c := k5.cell
        clear e1 e2 e3 f1 f2 f3 g1 g2 g3 hsb hsbl hsbf hfb hfs hgood HF hS5 hB5 b5 hst hm hl h hq HO0 HT1 HT2 bw0 HS2 b3 k3 HAs hkn hcv hv10 hw10 b1 k1
        rw [List.length_nil] at HSn
        generalize nearN (sumN (([] : List SubD).map SubD.v) ⟨wh, col, clip, step⟩) step = n0 at *
        generalize hgS : sumN (l.map SubD.v) ⟨wh, col, clip, step⟩ = S at *
        have HGS := Lib.hid hgS
        clear hgS
        generalize hga : nearN S step = na at *
        generalize nearN (sumN ((fewL l kn).map SubD.v) ⟨wh, col, clip, step⟩) step = nb at *
        generalize leastN clip step = bl at *
        clear hga
        have hstp := (HQP.out).2.1
        dsimp only at hstp
        go_upto_region 11 with (go_at_call 14; first
          | ((with_reducible refine (HSl.out _ (Below.refl _ _)).mono ?_); rintro e x1 ⟨rfl, y1⟩; have kx1 := (HK5.out.below y1 HK5.out.lt).cell)
          | ((with_reducible refine (HSf.out _ y1).mono ?_); rintro e x2 ⟨rfl, y2'⟩; have y2 := y1.trans (y2'.mono y1.size); have kx2 := (HK5.out.below y2 HK5.out.lt).cell)
          | ((with_reducible refine (HSn.out _ y2).mono ?_); rintro e x3 ⟨rfl, y3'⟩; have y3 := y2.trans (y3'.mono y2.size); have kx3 := (HK5.out.below y3 HK5.out.lt).cell))
        clear HSl HSf HSn
        have hb0 : (step == 0) = false := by rw [beq_eq_false_iff_ne]; omega
        have hw1 : IntKind.i64.wrap (bl - step) = bl - step := IntWalk.i64_in _ (by omega)
        have hlt1 : ¬ bl < clip := by omega
        have hlt2 : ¬ clip ≤ bl - step := by omega
        have KX := Lib.hid (HK5.out.below y3 HK5.out.lt)
        have HX := Lib.hid (HB.out.trans (y3.mono HB.out.size))
        go_upto_region 13 with fail
        clear y1 y2' y3' y2 y3 kx1 kx2 kx3 hlt1 hlt2 hw1 k5c
        go_wp2_with fail
        have HU0 : Hid (sumUp (l.map SubD.v) ⟨wh, col, clip, step⟩ 0 = 0) := Lib.hid (by simp [sumUp, sumL])
        go_loopw [21, 120] (fun nn ii wr => ∃ i : Nat, i ≤ l.length ∧ nn = .int .i64 (sumUp (l.map SubD.v) ⟨wh, col, clip, step⟩ i) ∧ ii = .int .i64 i ∧ Hid (Below x3.heap.size x3 wr)) (fun _ ii _ => l.length - (vInt ii).toNat)
        case atStart => exact ⟨0, Nat.zero_le _, by rw [HU0.out], rfl, Lib.hid (Below.refl _ _)⟩
        case round =>
          obtain ⟨i, hi9, rfl, rfl, hR⟩ := hrel
          have hB := hR.out
          have bw := HX.out.trans (hB.mono HX.out.size)
          have kq := KX.out.below hB KX.out.lt
          by_cases hlt : i < l.length
          · have hil : (i : Int) < (l.length : Int) := by omega
            obtain ⟨b', off', hA', hbw, c0w, c1w, hv⟩ := subs_at HH.out hlt
            simp only [Option.some.injEq, Addr.mk.injEq, and_true] at hA'
            obtain ⟨rfl, rfl⟩ := hA'
            have c0 := (bw.cell (p := ⟨b, off + i * 2, none⟩) hbw).trans c0w
            have c1 := (bw.cell (p := ⟨b, off + i * 2 + 1, none⟩) hbw).trans c1w
            have kb := Blk.new wr #[.int .i64 l[i].v.id, .slice l[i].V l[i].v.vals.length l[i].c] 56
            have bA := (Below.refl wr.heap.size wr).alloc (Nat.le_refl _) (.cells #[.int .i64 l[i].v.id, .slice l[i].V l[i].v.vals.length l[i].c] 56)
            have hvl := HVL.out i hlt
            have hcc : ∀ j, (h : j < wh.length) → ∃ k : Nat, wh[j].col = k ∧ k < l[i].v.vals.length := fun j h => by
              have := HQP.out.2.2.1 j h
              exact ⟨wh[j].col.toNat, by omega, by omega⟩
            have hc2 : col = -1 ∨ ∃ k : Nat, col = k ∧ k < l[i].v.vals.length := by
              rcases HQP.out.2.2.2 with h | h
              · exact .inl h.1
              · exact .inr ⟨col.toNat, by omega, by omega⟩
            have HA : Hid (∀ W', Below w.heap.size w W' → Calls Tryz.prog 32 #[.agg #[.int .i64 l[i].v.id, .slice l[i].V l[i].v.vals.length l[i].c], .agg #[.slice W wh.length wk, .int .i64 col, .int .i64 clip, .int .i64 step]] W' fun e w' => e = .returned (.bool (askB l[i].v ⟨wh, col, clip, step⟩)) ∧ Below W'.heap.size W' w') := Lib.hid (fun W' hb' => asked10_any l[i].v.id l[i].v.vals l[i].V l[i].c wh col clip step W wk W' (hv.later hb') (HQq.out.lat hb') hcc (by omega))
            have HCn : Hid (∀ W', Below w.heap.size w W' → Calls Tryz.prog 33 #[.agg #[.int .i64 l[i].v.id, .slice l[i].V l[i].v.vals.length l[i].c], .agg #[.slice W wh.length wk, .int .i64 col, .int .i64 clip, .int .i64 step]] W' fun e w' => e = .returned (.int .i64 (cntQ l[i].v ⟨wh, col, clip, step⟩)) ∧ Below W'.heap.size W' w') := Lib.hid (fun W' h => counts10_any l[i].v.id l[i].v.vals l[i].V l[i].c wh col clip step W wk W' (hv.later h) hc2)
            have hss := HSS.out i hlt
            have hsb := HSB.out i hi9
            have hcb := HBd.out _ (List.mem_map_of_mem (List.getElem_mem hlt))
            generalize cntQ l[i].v ⟨wh, col, clip, step⟩ = cn at *
            generalize sumUp (l.map SubD.v) ⟨wh, col, clip, step⟩ i = sn at *
            clear c0w c1w hcc hc2 hv hvl
            have kqA := kq.below bA kq.lt
            have bwA := bw.trans (bA.mono bw.size)
            cases hask : askB l[i].v ⟨wh, col, clip, step⟩ with
            | false =>
              rw [hask] at HA hss
              rw [if_neg (by decide)] at hss
              have HN := Lib.hid hss
              clear hss hask
              go_upto_region 17 with fail
              generalize hWA : wr.alloc (.cells #[.int .i64 l[i].v.id, .slice l[i].V l[i].v.vals.length l[i].c] 56) = WA at *
              have hWs : wr.heap.size ≤ WA.heap.size := by rw [← hWA]; simp
              clear hWA
              have kbc := kb.cell
              have kqc := kqA.cell
              go_wp2_with (go_at_call 32; (with_reducible refine (HA.out _ bwA).mono ?_); rintro e x5 ⟨rfl, y5⟩)
              go_roundw
              case rel => exact ⟨i + 1, by omega, by rw [HN.out, Int.add_zero], by go_num, Lib.hid (hB.trans ((bA.trans (y5.mono hWs)).mono hB.size))⟩
              case measure => simp [vInt]; omega
            | true =>
              rw [hask] at HA hss
              rw [if_pos rfl] at hss
              have HN := Lib.hid hss
              clear hss hask
              have hw1 : IntKind.i64.wrap (sn + cn) = sn + cn := IntWalk.i64_in _ (by omega)
              go_upto_region 17 with fail
              generalize hWA : wr.alloc (.cells #[.int .i64 l[i].v.id, .slice l[i].V l[i].v.vals.length l[i].c] 56) = WA at *
              have hWs : wr.heap.size ≤ WA.heap.size := by rw [← hWA]; simp
              clear hWA
              have kbc := kb.cell
              have kqc := kqA.cell
              go_wp2_with (first
                | (go_at_call 32; (with_reducible refine (HA.out _ bwA).mono ?_); rintro e x5 ⟨rfl, y5⟩; have b5 := bwA.trans (y5.mono bwA.size); have kb5 := (kb.below y5 kb.lt).cell; have kq5 := (kqA.below y5 kqA.lt).cell)
                | (go_at_call 33; (with_reducible refine (HCn.out _ b5).mono ?_); rintro e x6 ⟨rfl, y6⟩))
              go_roundw
              case rel => exact ⟨i + 1, by omega, by rw [HN.out], by go_num, Lib.hid (hB.trans (((bA.trans (y5.mono hWs)).trans (y6.mono (Nat.le_trans hWs y5.size))).mono hB.size))⟩
              case measure => simp [vInt]; omega
          · have hil : ¬ (i : Int) < (l.length : Int) := by omega
            obtain rfl : i = l.length := by omega
            have hn := HSN.out
            rw [hn]
            have kqc := kq.cell
            have w1' : IntKind.i64.wrap (na - nb) = na - nb := IntWalk.i64_in _ (by omega)
            have w2' : IntKind.i64.wrap (na - S) = na - S := IntWalk.i64_in _ (by omega)
            have w3' : IntKind.i64.wrap (S - na) = S - na := IntWalk.i64_in _ (by omega)
            have w4' : IntKind.i64.wrap (2 * (na - S)) = 2 * (na - S) := IntWalk.i64_in _ (by omega)
            have w5' : IntKind.i64.wrap (2 * (S - na)) = 2 * (S - na) := IntWalk.i64_in _ (by omega)
            have t1 : nb ≤ na := hnl.1
            have t2 : na - nb ≤ bl := hnl.2
            have t3 := hnh.1
            have t4 := hnh.2
            clear HSB HSS HSN HBd HVL
            go_wp2_with fail
            go_ret
            exact ⟨ret_bool (by simp), bw⟩
end Go.Proofs.YtbkekdbabkncfaaGreat
