/- The twin of a model, by the reference: its rows lie apart. Written by a program. -/
import Derived.Test.YtpahcbhikmfamaaGreatWQ1

namespace Go.Proofs.YtpahcbhikmfamaaGreat
open Go.RowKit Go.Maps

theorem TTB.fr {b0 lo n t1 : Nat} {w w' : World} {T1 : Option Addr} {tl ml : List TreD} (h : TTB b0 lo w T1 n t1 tl ml) (hF : Fr (fun b => b < b0 ∨ b0 + 1 < b) w w') (hlo : b0 + 1 < lo) : TTB b0 lo w' T1 n t1 tl ml := ⟨h.eq, h.len, own_fr h.own hF (fun g e => .inr (by have := (h.own.lt g e).1; omega)), fun x hx => (h.each x hx).move (hF.imp (fun b hp => hp.1))⟩
theorem mod4_put2 {w : World} {g : Nat} {a0 a1 a2 a3 c2 : Value} {t : TypeId} (h : Blk w g #[a0, a1, a2, a3] t) : Blk (w.setCell ⟨g, 2, none⟩ c2) g #[a0, a1, c2, a3] t := by
  have := h.set 2 c2
  simpa using this
theorem mod4_all {w : World} {g : Nat} {a0 a1 a2 a3 c0 c1 c2 c3 : Value} {t : TypeId} (h : Blk w g #[a0, a1, a2, a3] t) : Blk ((((w.setCell ⟨g, 0, none⟩ c0).setCell ⟨g, 1, none⟩ c1).setCell ⟨g, 2, none⟩ c2).setCell ⟨g, 3, none⟩ c3) g #[c0, c1, c2, c3] t := by
  have := (((h.set 0 c0).set 1 c1).set 2 c2).set 3 c3
  simpa using this
set_option maxRecDepth 100000 in
set_option maxHeartbeats 8000000 in
theorem twinN_all (traits need : Int) (cl : List CrdD) (tl : List TreD) (C T : Option Addr) (c t : Nat) (w : World) (h : MdlAt w w.heap.size ⟨traits, cl, C, c, tl, T, t, need⟩) (hls : MdlLe ⟨traits, cl, C, c, tl, T, t, need⟩) :
    Calls Tryz.prog 7 #[.agg #[.int .i64 traits, .slice C cl.length c, .slice T tl.length t, .int .i64 need]] w fun e w' => TwinN w traits need cl tl e w' := by
  obtain ⟨i0, hi0, hz0, hz1, hz2⟩ := info_parts cardInfo
  obtain ⟨i3, hi3, hs0, hs1, hs2⟩ := info_parts scaleInfo
  obtain ⟨i4, hi4, hq0, hq1, hq2⟩ := info_parts intInfo
  have l61 : cl.length ≤ 6 := hls.cards
  have b1 := (Below.refl w.heap.size w).alloc (Nat.le_refl _) (.cells #[.int .i64 traits, .slice C cl.length c, .slice T tl.length t, .int .i64 need] 25)
  have b2 := b1.alloc b1.size (.cells #[.int .i64 0, .slice none 0 0, .slice none 0 0, .int .i64 0] 25)
  have k1 := (Blk.new w #[.int .i64 traits, .slice C cl.length c, .slice T tl.length t, .int .i64 need] 25).alloc (.cells #[.int .i64 0, .slice none 0 0, .slice none 0 0, .int .i64 0] 25)
  have k2 := newAt' (w.alloc (.cells #[.int .i64 traits, .slice C cl.length c, .slice T tl.length t, .int .i64 need] 25)) #[.int .i64 0, .slice none 0 0, .slice none 0 0, .int .i64 0] 25 (g := w.heap.size + 1) (by simp)
  have hs2 : ((w.alloc (.cells #[.int .i64 traits, .slice C cl.length c, .slice T tl.length t, .int .i64 need] 25)).alloc (.cells #[.int .i64 0, .slice none 0 0, .slice none 0 0, .int .i64 0] 25)).heap.size = w.heap.size + 1 + 1 := by simp
  have hown0 := own_empty ((w.alloc (.cells #[.int .i64 traits, .slice C cl.length c, .slice T tl.length t, .int .i64 need] 25)).alloc (.cells #[.int .i64 0, .slice none 0 0, .slice none 0 0, .int .i64 0] 25)) 37 3 (w.heap.size + 1 + 1) (by rw [hs2]; exact Nat.le_refl _)
  rw [hs2] at hown0
  have k1a := k1.alloc (.cells #[] 37)
  have h3 := h.later (b2.alloc b2.size (.cells #[] 37))
  have k1c := k1.cell
  have k1ac := k1a.cell
  have hr3 := h3.cards.row
  go_enter Tryz.func7, Tryz.ntmps7
  go_wp2_with (at_builtin; refine wpList_append_src _ rfl (.tmp 7) (.tmp 9) 22 rfl (w.heap.size + 1 + 1) 37 i0 _ 3 40 Tryz.underlying22 hi0 hz0 hz1 hz2 rfl (by decide) _ 0 [] rfl hown0 C cl.length c (cl.flatMap crdC) rfl (flat_len crdC_len cl) (fun e => by subst e; exact Flat.none_ hr3) (Flat.news crdC_len (by decide) hr3) (flat_ones crdC_one cl) (by unfold maxLen; omega) (by omega) (by simp) ?_; intro v1 w3 hown1 hg1 ho1; obtain ⟨A1, c1, rfl⟩ := own_slice hown1; have hb3 := (b2.alloc b2.size (.cells #[] 37)).grown hg1 (by simp; omega) (fun k e => by have := (hown0.lt k e).1; omega); have k3 := k1a.grown hg1 (fun e => by have := (hown0.lt _ e.symm).1; omega); have kr3 := (k2.alloc (.cells #[] 37)).grown hg1 (fun e => by have := (hown0.lt _ e.symm).1; omega); have k3c := k3.cell; have z1 := k3.free 1)
  simp only [Nat.zero_add, List.nil_append] at hown1
  have hown2 := own_far hown1 (p := ⟨w.heap.size, 1, none⟩) (by simp; omega) (.slice A1 cl.length c1)
  have k4 := mod4_put (c1 := .slice A1 cl.length c1) k3
  have kr4 := kr3.far (p := ⟨w.heap.size, 1, none⟩) (by simp) (.slice A1 cl.length c1)
  have hb4 := hb3.setCell (p := ⟨w.heap.size, 1, none⟩) (Nat.le_refl _) (.slice A1 cl.length c1)
  clear hown0 hown1 k1 k2 b1 b2 k1a h3 k1c k1ac hr3 hb3 k3 kr3 k3c z1 hg1 ho1 hs2
  generalize w3.setCell ⟨w.heap.size, 1, none⟩ (.slice A1 cl.length c1) = W4 at *
  have HT0 : Hid (TB w.heap.size W4 A1 cl.length c1 cl cl) := Lib.hid ⟨rfl, rfl, hown2, fun x hx => SclsP.of_at ((h.cards.each x hx).below hb4) hb4.size (fun b hb => ⟨.inl hb, fun e => by have := (hown2.lt b e.symm).1; omega⟩)⟩
  have hg4 := k4.lt
  have hpp : w.heap.size + 1 + 1 ≤ W4.heap.size := kr4.lt
  have HrowC : Hid (∀ b, (Value.slice A1 cl.length c1).ownBlock = some b → b < W4.heap.size) := Lib.hid (fun b hb => (hown2.lt b hb).2)
  have HC0 : Hid (Chain (CrdN W4) W4.heap.size W4.heap.size (cl.take 0)) := Lib.hid (Nat.le_refl _)
  clear hown2
  go_loopw [3] (fun ii wr => ∃ (i : Nat) (ml : List CrdD), i ≤ cl.length ∧ ii = .int .i64 i ∧ Hid (TB w.heap.size wr A1 cl.length c1 cl ml) ∧ Hid (Blk wr w.heap.size #[.int .i64 traits, .slice A1 cl.length c1, .slice T tl.length t, .int .i64 need] 25 ∧ Blk wr (w.heap.size + 1) #[.int .i64 0, .slice none 0 0, .slice none 0 0, .int .i64 0] 25 ∧ Below w.heap.size w wr) ∧ Hid (Chain (CrdN wr) W4.heap.size wr.heap.size (ml.take i))) (fun ii _ => cl.length - (vInt ii).toNat)
  case atStart => exact ⟨0, cl, Nat.zero_le _, rfl, HT0, Lib.hid ⟨k4, kr4, hb4⟩, HC0⟩
  clear HT0 k4 kr4 hb4 hg4 HC0
  generalize W4.heap.size = pp at *
  case round =>
    obtain ⟨i, ml, hi, rfl, HT, hR, HCc⟩ := hrel
    obtain ⟨km, kr, hB⟩ := hR.out
    have kmc := km.cell
    by_cases hlt : i < cl.length
    · have hil : (i : Int) < (cl.length : Int) := by omega
      have hi1 := Lib.hid (show i + 1 ≤ cl.length by omega)
      have hml := HT.out.len
      have hltm : i < ml.length := by omega
      obtain ⟨g, cap, hvv, hgb, hglt⟩ := HT.out.own.form (by omega)
      simp only [Value.slice.injEq, true_and] at hvv
      obtain ⟨rfl, rfl⟩ := hvv
      have hfr := HT.out.own.frozenAt
      have a2 : wr.cell? ⟨g, i * 3 + 2, none⟩ = some (.slice ml[i].S ml[i].scales.length ml[i].s) := (HT.out.own.cellAt (i * 3 + 2) (by omega)).trans (by rw [flat_get crdC_len ml i hltm 2 (by omega)]; rfl)
      have HX := Lib.hid (HT.out.each _ (List.getElem_mem hltm))
      generalize hyv : ml[i] = y at *
      obtain ⟨wt, base, sl, S, s⟩ := y
      dsimp only at *
      have hsl : sl.length ≤ 10 := by
        have h5 := List.getElem_of_eq HT.out.eq (i := i) (by simpa using hltm)
        rw [List.getElem_map, List.getElem_map, hyv] at h5
        have h6 := congrArg (fun q => q.scales.length) h5
        simp only [CrdD.v, List.length_map] at h6
        rw [h6]
        exact hls.scales _ (List.getElem_mem hlt)
      have HYv := Lib.hid hyv
      clear hyv
      have hnone : S = none → sl.length = 0 := fun e => by subst e; exact FlatP.none_ HX.out.row
      have hgm : w.heap.size < wr.heap.size := km.lt
      have hownE := own_drew (own_empty wr 42 3 wr.heap.size (Nat.le_refl _))
      have hrowE := HX.out.row.flat.later (((Below.refl _ _).alloc (Nat.le_refl _) (.cells #[] 42)).drew)
      have kma := (km.alloc (.cells #[] 42)).cell
      have ba := (Below.refl wr.heap.size wr).alloc (Nat.le_refl _) (.cells #[] 42)
      have a2a := (ba.cell (p := ⟨g, i * 3 + 2, none⟩) hglt).trans a2
      have hfg := hfr (i * 3 + 2)
      go_upto_region 5 with fail
      go_cut [] (fun wx => Hid (∃ S1 s1, wx.ownsRow (w.heap.size + 1 + 1) 37 3 (.slice (some ⟨g, 0, none⟩) cl.length c1) cl.length ((ml.flatMap crdC).set (i * 3 + 2) (.slice S1 sl.length s1)) ∧ wx.ownsRow wr.heap.size 42 3 (.slice S1 sl.length s1) sl.length (sl.flatMap sclC) ∧ Fr (fun b => b ≠ g) wr wx ∧ Below w.heap.size w wx))
      case first =>
        go_region_law (first
          | (refine step_append_src (by rfl) _ _ _ (by rfl) wr.heap.size 42 i3 _ 3 56 Tryz.underlying35 hi3 hs0 hs1 hs2 rfl (by decide) _ 0 [] (by rfl) hownE S sl.length s (sl.flatMap sclC) (by rfl) (flat_len sclC_len sl) hnone (Flat.news sclC_len (by decide) hrowE) (flat_ones sclC_one sl) (by unfold maxLen; omega) (by omega) (by simp) ?_; intro v8 w8 hown8 hg8 _; obtain ⟨S1, s1, rfl⟩ := own_slice hown8; have hb8 := (ba.drew).grown hg8 (by simp) (fun k e => (hownE.lt k e).1); have k8c := (km.below hb8 hgm).cell; have a28 := (hb8.cell (p := ⟨g, i * 3 + 2, none⟩) hglt).trans a2; have z8 := ((bcell hb8).2 g (i * 3 + 2) hglt).trans hfg))
        all_goals first | (go_step; go_step; go_meet) | (go_step; go_meet) | go_meet
        all_goals simp only [Nat.zero_add, List.nil_append] at hown8
        all_goals exact Lib.hid ⟨S1, s1, ((own_below HT.out.own hb8).stored (i * 3 + 2) (.slice S1 sl.length s1)).1, own_far hown8 (p := ⟨g, i * 3 + 2, none⟩) hglt (.slice S1 sl.length s1), (Fr.below hb8).trans (Fr.set (p := ⟨g, i * 3 + 2, none⟩) (fun e => e rfl) (.slice S1 sl.length s1)), (hB.trans (hb8.mono hB.size)).setCell (p := ⟨g, i * 3 + 2, none⟩) (by show w.heap.size ≤ g; omega) (.slice S1 sl.length s1)⟩
      case rest =>
        obtain ⟨S1, s1, oC, oS, hF, hB2⟩ := hcut.out
        have hgm1 : w.heap.size + 1 < wr.heap.size := kr.lt
        have hgg : w.heap.size ≠ g := by omega
        have hgg2 : w.heap.size + 1 ≠ g := by omega
        have kmw : Blk wc w.heap.size #[.int .i64 traits, .slice (some ⟨g, 0, none⟩) cl.length c1, .slice T tl.length t, .int .i64 need] 25 := (hF.blk _ hgm hgg).trans km
        have krw : Blk wc (w.heap.size + 1) #[.int .i64 0, .slice none 0 0, .slice none 0 0, .int .i64 0] 25 := (hF.blk _ kr.lt hgg2).trans kr
        have hwc := hF.size
        have HS0 : Hid (SI w.heap.size g wr.heap.size wc S1 sl.length s1 sl sl) := Lib.hid ⟨rfl, rfl, oS, fun x hx => ((HX.out.each x hx).imp (fun b hb hp => (⟨hp, fun e => by have := (oS.lt b e.symm).1; omega⟩ : Nt w.heap.size (some g) b ∧ some b ≠ (Value.slice S1 sl.length s1).ownBlock))).move (hF.imp (fun b hp e => hp.1.2 (by rw [e])))⟩
        have HB2 := Lib.hid hB2
        have HOC := Lib.hid oC
        have HF := Lib.hid hF
        have HrowN : Hid (∀ b, b < wr.heap.size → some b ≠ (Value.slice S1 sl.length s1).ownBlock) := Lib.hid (fun b hb e => by have := (oS.lt b e.symm).1; omega)
        have hcg : wc.cell? ⟨g, i * 3 + 2, none⟩ = some (.slice S1 sl.length s1) := by
          rw [oC.cellAt (i * 3 + 2) (by omega), List.getElem?_set_self (by rw [flat_len crdC_len]; omega)]
        have hgc : g < wc.heap.size := by omega
        have hgp : g < pp := HrowC.out g rfl
        have HrowS : Hid (∀ b, (Value.slice S1 sl.length s1).ownBlock = some b → b < wc.heap.size) := Lib.hid (fun b hb => (oS.lt b hb).2)
        have HS00 : Hid (Chain (SclN wc) wc.heap.size wc.heap.size (sl.take 0)) := Lib.hid (Nat.le_refl _)
        clear hcut oC oS hF hB2 hfr a2 hfg hrowE hownE kma ba a2a kmc
        go_wp2_with fail
        go_loopw [4] (fun kk wq => ∃ (k : Nat) (sl2 : List SclD), k ≤ sl.length ∧ kk = .int .i64 k ∧ Hid (SI w.heap.size g wr.heap.size wq S1 sl.length s1 sl sl2) ∧ Hid (Fr (fun b => some b ≠ (Value.slice S1 sl.length s1).ownBlock) wc wq ∧ Below w.heap.size w wq) ∧ Hid (Chain (SclN wq) wc.heap.size wq.heap.size (sl2.take k))) (fun kk _ => sl.length - (vInt kk).toNat)
        case atStart => exact ⟨0, sl, Nat.zero_le _, rfl, HS0, Lib.hid ⟨Fr.refl _ _, HB2.out⟩, HS00⟩
        clear HS0 HB2 HS00
        case round =>
          obtain ⟨k, sl2, hk, rfl, HS, hRk, HCs⟩ := hrel
          obtain ⟨hFk, hBk⟩ := hRk.out
          have hn1 := HrowN.out _ hgm
          have hn2 := HrowN.out _ hglt
          have kmc := Blk.cell ((hFk.blk _ kmw.lt hn1).trans kmw)
          have cg := (hFk.cell (o := i * 3 + 2) hgc hn2).trans hcg
          by_cases hkl : k < sl.length
          · have hki : (k : Int) < (sl.length : Int) := by omega
            have hk1 := Lib.hid (show k + 1 ≤ sl.length by omega)
            have hlen2 := HS.out.len
            have hkl2 : k < sl2.length := by omega
            obtain ⟨gs, cap, hvv, hgsb, hgslt⟩ := HS.out.own.form (by omega)
            simp only [Value.slice.injEq, true_and] at hvv
            obtain ⟨rfl, rfl⟩ := hvv
            have hgsp : gs < wc.heap.size := HrowS.out gs rfl
            have hfr := HS.out.own.frozenAt
            have e0 : wr.cell? ⟨gs, k * 3, none⟩ = some (.slice sl2[k].A sl2[k].v.cuts.length sl2[k].a) := (HS.out.own.cellAt (k * 3) (by omega)).trans (by have := flat_get sclC_len sl2 k hkl2 0 (by omega); rw [Nat.add_zero] at this; rw [this]; rfl)
            have e1 : wr.cell? ⟨gs, k * 3 + 1, none⟩ = some (.slice sl2[k].B sl2[k].v.pts.length sl2[k].b) := (HS.out.own.cellAt (k * 3 + 1) (by omega)).trans (by rw [flat_get sclC_len sl2 k hkl2 1 (by omega)]; rfl)
            have hX2 := HS.out.each _ (List.getElem_mem hkl2)
            have hLe : SclLe sl2[k].v := by
              have h5 := List.getElem_of_eq HS.out.eq (i := k) (by simpa using hkl2)
              rw [List.getElem_map, List.getElem_map] at h5
              have h6 := List.getElem_of_eq HT.out.eq (i := i) (by simpa using hltm)
              rw [List.getElem_map, List.getElem_map, HYv.out] at h6
              have h7 : sl.map SclD.v = cl[i].scales.map SclD.v := congrArg Crd.scales h6
              have h8 := List.getElem_of_eq h7 (i := k) (by simpa using hkl)
              rw [List.getElem_map, List.getElem_map] at h8
              rw [h5, h8]
              exact hls.scl _ (List.getElem_mem hlt) _ (List.getElem_mem _)
            generalize hzv : sl2[k] = z at *
            obtain ⟨v, A, a, B, b⟩ := z
            dsimp only at *
            have Hzv := Lib.hid hzv
            clear hzv
            have l7 := hLe.cuts
            have l8 := hLe.pts
            have hfA := hX2.cuts.flat
            have hfB := hX2.pts.flat
            have hnA : A = none → v.cuts.length = 0 := fun e => by subst e; exact Flat.none_ hfA
            have hnB : B = none → v.pts.length = 0 := fun e => by subst e; exact Flat.none_ hfB
            have hf0 := hfr (k * 3)
            have hf1 := hfr (k * 3 + 1)
            have d0 : Below wr.heap.size wr wr.drew := (Below.refl _ _).drew
            clear hfr hX2 hLe
            go_upto_region 10 with fail
            have hz1 : ∀ o, wr.heap.size + 1 = (wr.alloc o).heap.size := fun o => by simp
            have x0 := (Below.refl wr.heap.size wr).alloc (Nat.le_refl _) (.cells #[] 3)
            have x1 := x0.alloc x0.size (.cells #[] 3)
            have y00 := (x0.cell (p := ⟨gs, k * 3, none⟩) hgslt).trans e0
            have y01 := (x0.cell (p := ⟨gs, k * 3 + 1, none⟩) hgslt).trans e1
            have y10 := (x1.cell (p := ⟨gs, k * 3, none⟩) hgslt).trans e0
            have y11 := (x1.cell (p := ⟨gs, k * 3 + 1, none⟩) hgslt).trans e1
            go_region_law (first
              | (refine step_append_src (by rfl) (.tmp 53) (.tmp 57) _ (by rfl) wr.heap.size 3 i4 _ 1 8 Tryz.underlying26 hi4 hq0 hq1 hq2 rfl (by decide) _ 0 [] (by rfl) (own_blk (by first | with_reducible assumption | exact (Blk.new _ _ _).drew | exact Blk.new _ _ _ | exact ((Blk.new _ _ _).alloc _).drew | exact (Blk.new _ _ _).alloc _ | exact (newAt' _ _ _ (hz1 _)).drew | exact newAt' _ _ _ (hz1 _)) (by first | omega | (simp; done) | (simp; omega))) A v.cuts.length a (v.cuts.flatMap intC) (by rfl) (flat_len intC_len v.cuts) hnA (Flat.news intC_len (by decide) (hfA.later (by repeat (first | with_reducible assumption | with_reducible exact Below.refl _ _ | with_reducible refine Below.drew ?_ | with_reducible refine Below.alloc ?_ (by first | omega | (simp; done) | (simp; omega)) _)))) (flat_ones intC_one v.cuts) (by unfold maxLen; omega) (by omega) (by first | omega | (simp; done) | (simp; omega)) ?_; intro v8 w8 hown8 hg8 ho8; obtain ⟨A8, q8, rfl⟩ := own_slice hown8; have hb8 := grown_fresh hg8 (show Below wr.heap.size wr _ from (by repeat (first | with_reducible assumption | with_reducible exact Below.refl _ _ | with_reducible refine Below.drew ?_ | with_reducible refine Below.alloc ?_ (by first | omega | (simp; done) | (simp; omega)) _))) (by first | omega | (simp; done) | (simp; omega)) (by first | omega | (simp; done) | (simp; omega)); have c80 := (hb8.cell (p := ⟨gs, k * 3, none⟩) hgslt).trans e0; have c81 := (hb8.cell (p := ⟨gs, k * 3 + 1, none⟩) hgslt).trans e1; have hv8 := hb8.size; have ha8 := hb8.alloc hv8 (.cells #[] 3); have c8a := (ha8.cell (p := ⟨gs, k * 3, none⟩) hgslt).trans e0; have c8b := (ha8.cell (p := ⟨gs, k * 3 + 1, none⟩) hgslt).trans e1; have z80 := ((bcell hb8).2 gs (k * 3) hgslt).trans hf0; have z81 := ((bcell hb8).2 gs (k * 3 + 1) hgslt).trans hf1; (try have E8 := blk_fresh (g' := wr.heap.size) (cs := #[]) (t := 3) hg8 (by first | with_reducible assumption | exact (Blk.new _ _ _).drew | exact Blk.new _ _ _ | exact ((Blk.new _ _ _).alloc _).drew | exact (Blk.new _ _ _).alloc _ | exact (newAt' _ _ _ (hz1 _)).drew | exact newAt' _ _ _ (hz1 _)) (by omega)); (try have F8 := blk_fresh (g' := wr.heap.size + 1) (cs := #[]) (t := 3) hg8 (by first | with_reducible assumption | exact (Blk.new _ _ _).drew | exact Blk.new _ _ _ | exact ((Blk.new _ _ _).alloc _).drew | exact (Blk.new _ _ _).alloc _ | exact (newAt' _ _ _ (hz1 _)).drew | exact newAt' _ _ _ (hz1 _)) (by omega)))
              | (refine step_append_src (by rfl) (.tmp 59) (.tmp 63) _ (by rfl) wr.heap.size 3 i4 _ 1 8 Tryz.underlying26 hi4 hq0 hq1 hq2 rfl (by decide) _ 0 [] (by rfl) (own_blk (by first | with_reducible assumption | exact (Blk.new _ _ _).drew | exact Blk.new _ _ _ | exact ((Blk.new _ _ _).alloc _).drew | exact (Blk.new _ _ _).alloc _ | exact (newAt' _ _ _ (hz1 _)).drew | exact newAt' _ _ _ (hz1 _)) (by first | omega | (simp; done) | (simp; omega))) B v.pts.length b (v.pts.flatMap intC) (by rfl) (flat_len intC_len v.pts) hnB (Flat.news intC_len (by decide) (hfB.later (by repeat (first | with_reducible assumption | with_reducible exact Below.refl _ _ | with_reducible refine Below.drew ?_ | with_reducible refine Below.alloc ?_ (by first | omega | (simp; done) | (simp; omega)) _)))) (flat_ones intC_one v.pts) (by unfold maxLen; omega) (by omega) (by first | omega | (simp; done) | (simp; omega)) ?_; intro v9 w9 hown9 hg9 ho9; obtain ⟨A9, q9, rfl⟩ := own_slice hown9; have hb9 := grown_fresh hg9 (show Below wr.heap.size wr _ from (by repeat (first | with_reducible assumption | with_reducible exact Below.refl _ _ | with_reducible refine Below.drew ?_ | with_reducible refine Below.alloc ?_ (by first | omega | (simp; done) | (simp; omega)) _))) (by first | omega | (simp; done) | (simp; omega)) (by first | omega | (simp; done) | (simp; omega)); have c90 := (hb9.cell (p := ⟨gs, k * 3, none⟩) hgslt).trans e0; have c91 := (hb9.cell (p := ⟨gs, k * 3 + 1, none⟩) hgslt).trans e1; have hv9 := hb9.size; have ha9 := hb9.alloc hv9 (.cells #[] 3); have c9a := (ha9.cell (p := ⟨gs, k * 3, none⟩) hgslt).trans e0; have c9b := (ha9.cell (p := ⟨gs, k * 3 + 1, none⟩) hgslt).trans e1; have z90 := ((bcell hb9).2 gs (k * 3) hgslt).trans hf0; have z91 := ((bcell hb9).2 gs (k * 3 + 1) hgslt).trans hf1; (try have E9 := blk_fresh (g' := wr.heap.size) (cs := #[]) (t := 3) hg9 (by first | with_reducible assumption | exact (Blk.new _ _ _).drew | exact Blk.new _ _ _ | exact ((Blk.new _ _ _).alloc _).drew | exact (Blk.new _ _ _).alloc _ | exact (newAt' _ _ _ (hz1 _)).drew | exact newAt' _ _ _ (hz1 _)) (by omega)); (try have F9 := blk_fresh (g' := wr.heap.size + 1) (cs := #[]) (t := 3) hg9 (by first | with_reducible assumption | exact (Blk.new _ _ _).drew | exact Blk.new _ _ _ | exact ((Blk.new _ _ _).alloc _).drew | exact (Blk.new _ _ _).alloc _ | exact (newAt' _ _ _ (hz1 _)).drew | exact newAt' _ _ _ (hz1 _)) (by omega))))
            all_goals simp only [Nat.zero_add, List.nil_append] at hown8 hown9
            all_goals (first
              | (have o8 := own_over hown8 (by first | with_reducible exact Below.refl _ _ | with_reducible exact (Below.refl _ _).alloc (Nat.le_refl _) _) hg9 rfl (fun b hb => by have h1 := (hown8.lt b hb).2; have h2 := hg8.size; rcases ho8 with e | e <;> (rw [Nat.zero_add, hb] at e; have e := Option.some.inj e; (try simp at e); (try simp at h2); (try dsimp only); omega)); have o9 := hown9; have hbn := hb9; have HSn := Lib.hid (si_put HS.out hkl2 Hzv.out hgslt hgsb (by have := hFk.size; omega) (by have := hFk.size; omega) hbn o8 o9); (have hne : ∀ b, (Value.slice A8 v.cuts.length q8).ownBlock = some b → (Value.slice A9 v.pts.length q9).ownBlock ≠ some b := fun b hb hb9 => by (have h1 := (hown8.lt b hb).2; have h2 := hg8.size; rcases ho8 with e | e <;> rcases ho9 with e9 | e9 <;> (rw [Nat.zero_add, hb] at e; rw [Nat.zero_add, hb9] at e9; have e := Option.some.inj e; have e9 := Option.some.inj e9; (try simp at e); (try simp at e9); (try simp at h2); (try dsimp only at h1); (try simp at h1); omega))); have HCn := Lib.hid (sn_put HCs.out hkl2 hgsp hbn o8 o9 hne))
              | (have o9 := own_over hown9 (by first | with_reducible exact Below.refl _ _ | with_reducible exact (Below.refl _ _).alloc (Nat.le_refl _) _) hg8 rfl (fun b hb => by have h1 := (hown9.lt b hb).2; have h2 := hg9.size; rcases ho9 with e | e <;> (rw [Nat.zero_add, hb] at e; have e := Option.some.inj e; (try simp at e); (try simp at h2); (try dsimp only); omega)); have o8 := hown8; have hbn := hb8; have HSn := Lib.hid (si_put HS.out hkl2 Hzv.out hgslt hgsb (by have := hFk.size; omega) (by have := hFk.size; omega) hbn o8 o9); (have hne : ∀ b, (Value.slice A8 v.cuts.length q8).ownBlock = some b → (Value.slice A9 v.pts.length q9).ownBlock ≠ some b := fun b hb hb9 => by (have h1 := (hown9.lt b hb9).2; have h2 := hg9.size; rcases ho8 with e | e <;> rcases ho9 with e9 | e9 <;> (rw [Nat.zero_add, hb] at e; rw [Nat.zero_add, hb9] at e9; have e := Option.some.inj e; have e9 := Option.some.inj e9; (try simp at e); (try simp at e9); (try simp at h2); (try dsimp only at h1); (try simp at h1); omega))); have HCn := Lib.hid (sn_put HCs.out hkl2 hgsp hbn o8 o9 hne)))
            all_goals have HFn := Lib.hid (hFk.trans ((Fr.below (P := fun b => some b ≠ (Value.slice (some ⟨gs, 0, none⟩) sl.length s1).ownBlock) hbn).trans ((Fr.set (p := ⟨gs, k * 3, none⟩) (fun e => e rfl) (.slice A8 v.cuts.length q8)).trans (Fr.set (p := ⟨gs, k * 3 + 1, none⟩) (fun e => e rfl) (.slice A9 v.pts.length q9)))))
            all_goals have HBn := Lib.hid (((hBk.trans (hbn.mono hBk.size)).setCell (p := ⟨gs, k * 3, none⟩) (by show w.heap.size ≤ gs; omega) (.slice A8 v.cuts.length q8)).setCell (p := ⟨gs, k * 3 + 1, none⟩) (by show w.heap.size ≤ gs; omega) (.slice A9 v.pts.length q9))
            all_goals clear hown8 hown9 hg8 hg9 ho8 ho9 hb8 hb9 c80 c81 c90 c91 hv8 hv9 ha8 ha9 c8a c8b c9a c9b z80 z81 z90 z91 o8 o9 hbn x0 x1 y00 y01 y10 y11
            all_goals (go_wp2_with fail)
            all_goals go_roundw
            all_goals (try (case rel => exact ⟨k + 1, _, hk1.out, by go_num, HSn, Lib.hid ⟨HFn.out, HBn.out⟩, HCn⟩))
            all_goals (case measure => have h9 := hk1.out; simp [vInt]; omega)
          · have hki : ¬ (k : Int) < (sl.length : Int) := by omega
            obtain rfl : k = sl.length := by omega
            go_wp2_with fail
            have HE := Lib.hid (tb_set HT.out hltm HYv.out HOC.out HF.out hFk HS.out hgm1 hglt)
            have HCe := Lib.hid (cn_put (wt := wt) (base := base) HCc.out hltm hgp HF.out hFk HS.out.own HS.out.len rfl HrowS.out HCs.out)
            have kmE : Blk wr w.heap.size #[.int .i64 traits, .slice (some ⟨g, 0, none⟩) cl.length c1, .slice T tl.length t, .int .i64 need] 25 := (hFk.blk _ kmw.lt hn1).trans kmw
            have krE : Blk wr (w.heap.size + 1) #[.int .i64 0, .slice none 0 0, .slice none 0 0, .int .i64 0] 25 := (hFk.blk _ krw.lt (HrowN.out _ hgm1)).trans krw
            go_roundw
            case rel => exact ⟨i + 1, _, hi1.out, by go_num, HE, Lib.hid ⟨kmE, krE, hBk⟩, HCe⟩
            case measure => have h9 := hi1.out; simp [vInt]; omega
    · have hil : ¬ (i : Int) < (cl.length : Int) := by omega
      obtain rfl : i = cl.length := by omega
      obtain ⟨i5, hi5, hr0, hr1, hr2⟩ := info_parts treeInfo
      have l62 : tl.length ≤ 6 := hls.trees
      have hg0 : w.heap.size < wr.heap.size := km.lt
      have hg1' : w.heap.size + 1 < wr.heap.size := kr.lt
      have HCP : Hid (OwnIn wr (w.heap.size + 1 + 1) pp 37 3 (.slice A1 cl.length c1) cl.length (ml.flatMap crdC) ∧ Chain (CrdN wr) pp wr.heap.size ml) := Lib.hid ⟨⟨HT.out.own, HrowC.out⟩, by have h1 := HCc.out; rw [← HT.out.len, List.take_length] at h1; exact h1⟩
      have HHt := Lib.hid h.trees
      have Hls := Lib.hid hls
      have hown0 := own_empty wr 45 2 wr.heap.size (Nat.le_refl _)
      have ba := (Below.refl wr.heap.size wr).alloc (Nat.le_refl _) (.cells #[] 45)
      have hrT := ((h.trees.later hB).later ba).row
      have kmac := (km.alloc (.cells #[] 45)).cell
      clear h hls
      go_upto_region 12 with (at_builtin; refine wpList_append_src _ rfl (.tmp 69) (.tmp 71) 23 rfl wr.heap.size 45 i5 _ 2 32 Tryz.underlying23 hi5 hr0 hr1 hr2 rfl (by decide) _ 0 [] rfl hown0 T tl.length t (tl.flatMap treC) rfl (flat_len treC_len tl) (fun e => by subst e; exact Flat.none_ hrT) (Flat.news treC_len (by decide) hrT) (flat_ones treC_one tl) (by unfold maxLen; omega) (by omega) (by simp) ?_; intro v1 w3 hown1 hg1 ho1; obtain ⟨T1, t1, rfl⟩ := own_slice hown1; have hb3 := ba.grown hg1 ba.size (fun k e => (hown0.lt k e).1); have k3 := km.below hb3 km.lt; have k3c := k3.cell; have z1 := k3.free 2)
      simp only [Nat.zero_add, List.nil_append] at hown1
      have hown2 := own_far hown1 (p := ⟨w.heap.size, 2, none⟩) hg0 (.slice T1 tl.length t1)
      have k4 := mod4_put2 (c2 := .slice T1 tl.length t1) k3
      have kr4 := (kr.below hb3 kr.lt).far (p := ⟨w.heap.size, 2, none⟩) (by simp) (.slice T1 tl.length t1)
      have hb4 := (hB.trans (hb3.mono hB.size)).setCell (p := ⟨w.heap.size, 2, none⟩) (Nat.le_refl _) (.slice T1 tl.length t1)
      have hF4 : Fr (fun b => b < w.heap.size ∨ w.heap.size + 1 < b) wr (w3.setCell ⟨w.heap.size, 2, none⟩ (.slice T1 tl.length t1)) := (Fr.below hb3).trans (Fr.set (by show ¬ (w.heap.size < w.heap.size ∨ w.heap.size + 1 < w.heap.size); omega) _)
      have hsz4 : wr.heap.size ≤ (w3.setCell ⟨w.heap.size, 2, none⟩ (.slice T1 tl.length t1)).heap.size := hF4.size
      clear hown0 hown1 hrT kmac ba hb3 k3 k3c z1 hg1 ho1 kmc
      generalize w3.setCell ⟨w.heap.size, 2, none⟩ (.slice T1 tl.length t1) = W4 at *
      have HCP4 : Hid (OwnIn W4 (w.heap.size + 1 + 1) pp 37 3 (.slice A1 cl.length c1) cl.length (ml.flatMap crdC) ∧ Chain (CrdN W4) pp wr.heap.size ml) := Lib.hid ⟨HCP.out.1.fr hF4 (fun b h1 _ => .inr (by omega)), crds_fr HCP.out.2 hF4 (fun b h1 _ => .inr (by omega))⟩
      have HrowT : Hid (∀ b, (Value.slice T1 tl.length t1).ownBlock = some b → b < W4.heap.size) := Lib.hid (fun b hb => (hown2.lt b hb).2)
      have HCt0 : Hid (Chain (TreN W4) W4.heap.size W4.heap.size (tl.take 0)) := Lib.hid (Nat.le_refl _)
      have HT0 : Hid (TTB w.heap.size wr.heap.size W4 T1 tl.length t1 tl tl) := Lib.hid ⟨rfl, rfl, hown2, fun x hx => FlatP.of_flat ((HHt.out.each x hx).below hb4) hb4.size (fun b hb => ⟨.inl hb, fun e => by have := (hown2.lt b e.symm).1; omega⟩)⟩
      have hml := HT.out.len
      have hmv := HT.out.eq
      have HB4 := Lib.hid hb4
      have HK4 := Lib.hid k4
      have HR4 := Lib.hid kr4
      have Hmv := Lib.hid hmv
      have Hml := Lib.hid hml
      clear hown2 hF4 HCP HT hR km kr hB hmv hml hb4 k4 kr4 HCc HrowC
      generalize hlo : wr.heap.size = lo at *
      clear hlo
      go_wp2_with fail
      go_loopw [6] (fun ii wq => ∃ (j : Nat) (nl : List TreD), j ≤ tl.length ∧ ii = .int .i64 j ∧ Hid (TTB w.heap.size lo wq T1 tl.length t1 tl nl) ∧ Hid (Below lo W4 wq) ∧ Hid (Chain (TreN wq) W4.heap.size wq.heap.size (nl.take j))) (fun ii _ => tl.length - (vInt ii).toNat)
      case atStart => exact ⟨0, tl, Nat.zero_le _, rfl, HT0, Lib.hid (Below.refl _ _), HCt0⟩
      clear HT0 HCt0
      case round =>
        obtain ⟨j, nl, hj, rfl, HTT, hRj, HCt⟩ := hrel
        have hBj := hRj.out
        have kmj := HK4.out.below hBj hg0
        have kmc := kmj.cell
        have krj := HR4.out.below hBj hg1'
        by_cases hjl : j < tl.length
        · have hjil : (j : Int) < (tl.length : Int) := by omega
          have hj1 := Lib.hid (show j + 1 ≤ tl.length by omega)
          have hnl := HTT.out.len
          have hltm : j < nl.length := by omega
          obtain ⟨g, cap, hvv, hgb, hglt⟩ := HTT.out.own.form (by omega)
          simp only [Value.slice.injEq, true_and] at hvv
          obtain ⟨rfl, rfl⟩ := hvv
          have hgt : g < W4.heap.size := HrowT.out g rfl
          have hfr := HTT.out.own.frozenAt
          have a2 : wr.cell? ⟨g, j * 2 + 1, none⟩ = some (.slice nl[j].T nl[j].v.nodes.length nl[j].t) := (HTT.out.own.cellAt (j * 2 + 1) (by omega)).trans (by rw [flat_get treC_len nl j hltm 1 (by omega)]; rfl)
          have HX := Lib.hid (HTT.out.each _ (List.getElem_mem hltm))
          generalize hyv : nl[j] = y at *
          obtain ⟨v, S, s⟩ := y
          dsimp only at *
          have hsl : v.nodes.length ≤ 20 := by
            have h5 := List.getElem_of_eq HTT.out.eq (i := j) (by simpa using hltm)
            rw [List.getElem_map, List.getElem_map, hyv] at h5
            have h6 := congrArg (fun q => q.nodes.length) h5
            simp only at h6
            rw [h6]
            exact Hls.out.nodes _ (List.getElem_mem hjl)
          have HYv := Lib.hid hyv
          clear hyv
          have hnone : S = none → v.nodes.length = 0 := fun e => by subst e; exact FlatP.none_ HX.out
          have hgm1 : w.heap.size + 1 < wr.heap.size := krj.lt
          have hgm : w.heap.size < wr.heap.size := kmj.lt
          have hownE := own_drew (own_empty wr 48 5 wr.heap.size (Nat.le_refl _))
          have hrowE := HX.out.flat.later (((Below.refl _ _).alloc (Nat.le_refl _) (.cells #[] 48)).drew)
          have kma := (kmj.alloc (.cells #[] 48)).cell
          have ba := (Below.refl wr.heap.size wr).alloc (Nat.le_refl _) (.cells #[] 48)
          have a2a := (ba.cell (p := ⟨g, j * 2 + 1, none⟩) hglt).trans a2
          have hfg := hfr (j * 2 + 1)
          obtain ⟨i6, hi6, hn0, hn1, hn2⟩ := info_parts nodeInfo
          go_upto_region 15 with fail
          go_region_law (first
            | (refine step_append_src (by rfl) _ _ _ (by rfl) wr.heap.size 48 i6 _ 5 40 Tryz.underlying43 hi6 hn0 hn1 hn2 rfl (by decide) _ 0 [] (by rfl) hownE S v.nodes.length s (v.nodes.flatMap nodC) (by rfl) (flat_len nodC_len v.nodes) hnone (Flat.news nodC_len (by decide) hrowE) (flat_ones nodC_one v.nodes) (by unfold maxLen; omega) (by omega) (by simp) ?_; intro v8 w8 hown8 hg8 _; obtain ⟨S1, s1, rfl⟩ := own_slice hown8; have hb8 := (ba.drew).grown hg8 (by simp) (fun k e => (hownE.lt k e).1); have k8c := (kmj.below hb8 hgm).cell; have a28 := (hb8.cell (p := ⟨g, j * 2 + 1, none⟩) hglt).trans a2; have z8 := ((bcell hb8).2 g (j * 2 + 1) hglt).trans hfg))
          all_goals simp only [Nat.zero_add, List.nil_append] at hown8
          all_goals have HN := Lib.hid (tt_put HTT.out hltm HYv.out hglt hgm1 hb8 hown8)
          all_goals have HCn := Lib.hid (tn_put HCt.out hltm hgt hb8 hown8)
          all_goals have HBn := Lib.hid ((hBj.trans (hb8.mono (Nat.le_trans hsz4 hBj.size))).setCell (p := ⟨g, j * 2 + 1, none⟩) (by show lo ≤ g; omega) (.slice S1 v.nodes.length s1))
          all_goals clear hown8 hg8 hb8 k8c a28 z8 hownE hrowE kma ba a2a hfg kmc a2 hfr
          all_goals (go_wp2_with fail)
          all_goals go_roundw
          all_goals (try (case rel => exact ⟨j + 1, _, hj1.out, by go_num, HN, HBn, HCn⟩))
          all_goals (case measure => have h9 := hj1.out; simp [vInt]; omega)
        · have hjil : ¬ (j : Int) < (tl.length : Int) := by omega
          obtain rfl : j = tl.length := by omega
          have krf := krj.free
          have krc := krj.cell
          have z0 := krf 0
          have z1 := krf 1
          have z2 := krf 2
          have z3 := krf 3
          have hsz := hBj.size
          go_wp2_with fail
          have hrc := (mod4_all (c0 := .int .i64 traits) (c1 := .slice A1 cl.length c1) (c2 := .slice T1 tl.length t1) (c3 := .int .i64 need) krj).cell
          have hbe := (((((HB4.out.trans (hBj.mono (by have := HB4.out.size; omega))).setCell (p := ⟨w.heap.size + 1, 0, none⟩) (by simp) (.int .i64 traits)).setCell (p := ⟨w.heap.size + 1, 1, none⟩) (by simp) (.slice A1 cl.length c1)).setCell (p := ⟨w.heap.size + 1, 2, none⟩) (by simp) (.slice T1 tl.length t1)).setCell (p := ⟨w.heap.size + 1, 3, none⟩) (by simp) (.int .i64 need))
          have hFe : ∀ (P : Nat → Prop), ¬ P (w.heap.size + 1) → Fr P wr ((((wr.setCell ⟨w.heap.size + 1, 0, none⟩ (.int .i64 traits)).setCell ⟨w.heap.size + 1, 1, none⟩ (.slice A1 cl.length c1)).setCell ⟨w.heap.size + 1, 2, none⟩ (.slice T1 tl.length t1)).setCell ⟨w.heap.size + 1, 3, none⟩ (.int .i64 need)) := fun P hP => (((Fr.set (p := ⟨w.heap.size + 1, 0, none⟩) hP _).trans (Fr.set (p := ⟨w.heap.size + 1, 1, none⟩) hP _)).trans (Fr.set (p := ⟨w.heap.size + 1, 2, none⟩) hP _)).trans (Fr.set (p := ⟨w.heap.size + 1, 3, none⟩) hP _)
          exact bodyPost_ret (v := .agg #[.int .i64 traits, .slice A1 cl.length c1, .slice T1 tl.length t1, .int .i64 need]) (by simp [results, Tryz.results7, go_sem, hrc]) rfl ⟨ml, nl, A1, c1, T1, t1, pp, lo, W4.heap.size, by rw [Hml.out, HTT.out.len], Hmv.out, HTT.out.eq, mn_end HCP4.out Hml.out hBj (hFe (fun b => b ≠ w.heap.size + 1) (fun e => e rfl)) (by omega) hpp HTT.out.own HTT.out.len HrowT.out hsz4 HCt.out (by simp), hbe⟩
end Go.Proofs.YtpahcbhikmfamaaGreat
