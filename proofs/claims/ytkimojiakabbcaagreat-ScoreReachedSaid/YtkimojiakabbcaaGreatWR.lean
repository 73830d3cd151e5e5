/- ScoreReached: the law returns true for any model and spans. -/
import Derived.Test.YtkimojiakabbcaaGreatWP1

namespace Go.Proofs.YtkimojiakabbcaaGreat
open Go.RowKit Go.Maps

/-- What the law asks of the three answers. -/
def PartF (M : Mdl) (x : List Spn) : Prop := ∀ (q : Nat) (cut : Int), q < x.length → (x.getD q default).lo ≤ cut → cut < (x.getD q default).hi →
  betE M (x.set q ⟨(x.getD q default).lo, cut⟩) = 0 ∧ betE M (x.set q ⟨cut + 1, (x.getD q default).hi⟩) = 0 ∧ (betV M x).lo = min (betV M (x.set q ⟨(x.getD q default).lo, cut⟩)).lo (betV M (x.set q ⟨cut + 1, (x.getD q default).hi⟩)).lo ∧ (betV M x).hi = max (betV M (x.set q ⟨(x.getD q default).lo, cut⟩)).hi (betV M (x.set q ⟨cut + 1, (x.getD q default).hi⟩)).hi

set_option maxRecDepth 100000 in
set_option maxHeartbeats 8000000 in
theorem scoreReached_any (traits need : Int) (cl : List CrdD) (tl : List TreD) (C T : Option Addr) (c t : Nat) (x : List Spn) (X : Option Addr) (xc : Nat) (wc wr0 : Int) (w : World) (h : MdlAt w w.heap.size ⟨traits, cl, C, c, tl, T, t, need⟩) (hx : SpnsAt w w.heap.size X x) (hxm : x.length ≤ maxLen) (hwc : 0 ≤ wc ∧ wc < 256) (hwr : 0 ≤ wr0 ∧ wr0 < 4294967296)
    (HAL : ∀ (W : World), Calls Tryz.prog 11 #[] W fun e w' => e = .returned (.bool true) ∧ Below W.heap.size W w')
    (HSP : ∀ (lo hi : Int) (W : World), Calls Tryz.prog 18 #[.int .i64 lo, .int .i64 hi] W fun e w' => e = .returned (.agg #[.int .i64 lo, .int .i64 hi]) ∧ Below W.heap.size W w')
    (HBP : ∀ (W : World) (X1 : Option Addr) (x1 : Nat) (sp : List Spn), MdlAt W W.heap.size ⟨traits, cl, C, c, tl, T, t, need⟩ → MdlLe ⟨traits, cl, C, c, tl, T, t, need⟩ → SpnsAt W W.heap.size X1 sp → sp.length ≤ 10 → Calls Tryz.prog 17 #[.agg #[.int .i64 traits, .slice C cl.length c, .slice T tl.length t, .int .i64 need], .slice X1 sp.length x1] W fun e w' => e = .returned (.tuple #[.agg #[.int .i64 (betV ⟨traits, cl.map CrdD.v, tl.map TreD.v, need⟩ sp).lo, .int .i64 (betV ⟨traits, cl.map CrdD.v, tl.map TreD.v, need⟩ sp).hi], .int .i64 (betE ⟨traits, cl.map CrdD.v, tl.map TreD.v, need⟩ sp)]) ∧ Below W.heap.size W w')
    (HPT : mdlB ⟨traits, cl.map CrdD.v, tl.map TreD.v, need⟩ = true → spnsB traits x = true → PartF ⟨traits, cl.map CrdD.v, tl.map TreD.v, need⟩ x) :
    Calls Tryz.prog 9 #[.agg #[.int .i64 traits, .slice C cl.length c, .slice T tl.length t, .int .i64 need], .slice X x.length xc, .int .u8 wc, .int .u32 wr0] w fun e w' => e = .returned (.bool true) ∧ Below w.heap.size w w' := by
  have b1 := (Below.refl w.heap.size w).alloc (Nat.le_refl _) (.cells #[.int .i64 traits, .slice C cl.length c, .slice T tl.length t, .int .i64 need] 29)
  have k1 := Blk.new w #[.int .i64 traits, .slice C cl.length c, .slice T tl.length t, .int .i64 need] 29
  have HGr := Lib.hid (fun W hb => great6_all traits need cl tl C T c t W (h.later hb))
  have HAl := Lib.hid HAL
  have HSp := Lib.hid HSP
  have q1 := k1.lt
  have k1c := k1.cell
  have hxm1 : IntKind.i64.wrap (x.length : Int) = (x.length : Int) := by unfold maxLen at hxm; exact IntWalk.i64_in _ (by omega)
  clear HAL HSP
  cases hg : mdlLeB ⟨traits, cl, C, c, tl, T, t, need⟩ with
  | false =>
    rw [hg] at HGr
    clear h hx HBP HPT hg
    go_enter Tryz.func9, Tryz.ntmps9
    go_wp2_with (first
      | (go_at_call 11; (with_reducible refine (HAl.out _).mono ?_); rintro e w1 ⟨rfl, h1⟩; have b2 := b1.trans (h1.mono b1.size); have k2c := (k1.below h1 q1).cell)
      | (go_at_call 20; (with_reducible refine (HGr.out _ b2).mono ?_); rintro e w2 ⟨rfl, h2⟩))
    go_ret
    exact ⟨rfl, b2.trans (h2.mono b2.size)⟩
  | true =>
    rw [hg] at HGr
    have hls := mdlLe_of hg
    have HCk := Lib.hid (fun W hb => check6_all traits need cl tl C T c t W (h.later hb) hls)
    clear hg
    by_cases hM : mdlB ⟨traits, cl.map CrdD.v, tl.map TreD.v, need⟩ = true
    rotate_left
    · have hE : mdlE ⟨traits, cl.map CrdD.v, tl.map TreD.v, need⟩ = 60 := by unfold mdlE; exact if_neg hM
      rw [hE] at HCk
      clear h hx HBP HPT hls hM hE
      go_enter Tryz.func9, Tryz.ntmps9
      go_wp2_with (first
        | (go_at_call 11; (with_reducible refine (HAl.out _).mono ?_); rintro e w1 ⟨rfl, h1⟩; have b2 := b1.trans (h1.mono b1.size); have k2 := k1.below h1 q1; have k2c := k2.cell)
        | (go_at_call 20; (with_reducible refine (HGr.out _ b2).mono ?_); rintro e w2 ⟨rfl, h2⟩; have b3 := b2.trans (h2.mono b2.size); have k3 := k2.below h2 k2.lt; have k3c := k3.cell)
        | (go_at_call 27; (with_reducible refine (HCk.out _ b3).mono ?_); rintro e w4 ⟨rfl, h4⟩))
      go_ret
      exact ⟨rfl, b3.trans (h4.mono b3.size)⟩
    have hE : mdlE ⟨traits, cl.map CrdD.v, tl.map TreD.v, need⟩ = 0 := by unfold mdlE; exact if_pos hM
    rw [hE] at HCk
    clear hE
    by_cases hlt : (x.length : Int) = traits
    rotate_left
    · have hl0 : ((x.length : Int) != traits) = true := by simpa using hlt
      clear h hx HBP HPT hls hM
      go_enter Tryz.func9, Tryz.ntmps9
      go_wp2_with (first
        | (go_at_call 11; (with_reducible refine (HAl.out _).mono ?_); rintro e w1 ⟨rfl, h1⟩; have b2 := b1.trans (h1.mono b1.size); have k2 := k1.below h1 q1; have k2c := k2.cell)
        | (go_at_call 20; (with_reducible refine (HGr.out _ b2).mono ?_); rintro e w2 ⟨rfl, h2⟩; have b3 := b2.trans (h2.mono b2.size); have k3 := k2.below h2 k2.lt; have k3c := k3.cell)
        | (go_at_call 27; (with_reducible refine (HCk.out _ b3).mono ?_); rintro e w4 ⟨rfl, h4⟩; have k4c := (k3.below h4 k3.lt).cell))
      go_ret
      exact ⟨rfl, b3.trans (h4.mono b3.size)⟩
    have hl0 : ((x.length : Int) != traits) = false := by simpa using hlt
    have htr := (mdlB_parts hM).1
    have hx1 : 1 ≤ x.length := by dsimp only at htr; omega
    have hx5 : x.length ≤ 5 := by dsimp only at htr; omega
    have HM := Lib.hid hM
    have HP := Lib.hid (HPT hM)
    have Hh := Lib.hid (fun W (hb : Below w.heap.size w W) => h.later hb)
    have Hx := Lib.hid (fun W (hb : Below w.heap.size w W) => hx.later hb)
    have Hbp := Lib.hid (fun W X1 x1 sp hb => HBP W X1 x1 sp (h.later hb) hls)
    have HT := Lib.hid hlt
    clear h hx HBP HPT hls hM htr hlt
    go_enter Tryz.func9, Tryz.ntmps9
    go_wp2_with (first
      | (go_at_call 11; (with_reducible refine (HAl.out _).mono ?_); rintro e w1 ⟨rfl, h1⟩; have b2 := b1.trans (h1.mono b1.size); have k2 := k1.below h1 q1; have k2c := k2.cell)
      | (go_at_call 20; (with_reducible refine (HGr.out _ b2).mono ?_); rintro e w2 ⟨rfl, h2⟩; have b3 := b2.trans (h2.mono b2.size); have k3 := k2.below h2 k2.lt; have k3c := k3.cell)
      | (go_at_call 27; (with_reducible refine (HCk.out _ b3).mono ?_); rintro e w4 ⟨rfl, h4⟩; have b4 := b3.trans (h4.mono b3.size); have k4 := k3.below h4 k3.lt; have k4c := k4.cell))
    clear k1c k2c k3c k1 k2 k3 h1 h2 h4 b1 b2 b3 HGr HCk HAl
    have HB4 := Lib.hid b4
    have HK4 := Lib.hid k4
    clear b4 k4 k4c
    go_loopw [42] (fun ii wr => ∃ i : Nat, i ≤ x.length ∧ ii = .int .i64 i ∧ Hid ((∀ k, k < i → spnB (x.getD k default) = true) ∧ Below w4.heap.size w4 wr)) (fun ii _ => x.length - (vInt ii).toNat)
    case atStart => exact ⟨0, Nat.zero_le _, rfl, Lib.hid ⟨fun k hk => by omega, Below.refl _ _⟩⟩
    case round =>
      obtain ⟨i, hi, rfl, hR⟩ := hrel
      obtain ⟨hS, hB⟩ := hR.out
      have b5 := HB4.out.trans (hB.mono HB4.out.size)
      by_cases hlt : i < x.length
      · have hil : (i : Int) < (x.length : Int) := by omega
        obtain ⟨b, off, rfl, hb, hc⟩ := (Hx.out _ b5) i hlt
        have c0 : wr.cell? ⟨b, off + i * 2, none⟩ = some (.int .i64 x[i].lo) := by have := hc 0 (by omega); simpa [spnC] using this
        have c1 : wr.cell? ⟨b, off + i * 2 + 1, none⟩ = some (.int .i64 x[i].hi) := by have := hc 1 (by omega); simpa [spnC] using this
        have hgd : x.getD i default = x[i] := getD_lt _ _ hlt
        have kn := (Blk.new wr #[.int .i64 x[i].lo, .int .i64 x[i].hi] 43).cell
        have b6 := b5.alloc b5.size (.cells #[.int .i64 x[i].lo, .int .i64 x[i].hi] 43)
        have b7 := hB.alloc hB.size (.cells #[.int .i64 x[i].lo, .int .i64 x[i].hi] 43)
        cases hv : spnB x[i] with
        | false =>
          have hq := spnB_no hv
          clear hc hgd hv hS hR
          generalize x[i].lo = lo at *
          generalize x[i].hi = hi at *
          rcases hq with hq | ⟨hq, hq2⟩ | ⟨hq, hq2, hq3⟩
          · go_wp2_with fail
            go_ret
            exact ⟨rfl, b6⟩
          · go_wp2_with fail
            go_ret
            exact ⟨rfl, b6⟩
          · go_wp2_with fail
            go_ret
            exact ⟨rfl, b6⟩
        | true =>
          have HJ : Hid (∀ k, k < i + 1 → spnB (x.getD k default) = true) := Lib.hid (fun k hk => by
            rcases Nat.lt_or_ge k i with h9 | h9
            · exact hS k h9
            · obtain rfl : k = i := by omega
              rw [hgd]; exact hv)
          have hq := spnB_yes hv
          have hq1 : ¬ x[i].lo < 0 := by omega
          have hq2 : ¬ x[i].hi < x[i].lo := by omega
          have hq3 : ¬ 1000000 < x[i].hi := by omega
          clear hc hgd hv hS hR hq
          generalize x[i].lo = lo at *
          generalize x[i].hi = hi at *
          go_wp2_with fail
          go_roundw
          case rel => exact ⟨i + 1, by omega, by go_num, Lib.hid ⟨HJ.out, b7⟩⟩
          case measure => simp [vInt]; omega
      · have hil : ¬ (i : Int) < (x.length : Int) := by omega
        obtain rfl : i = x.length := by omega
        have hsp : spnsB traits x = true := by
          unfold spnsB
          simp only [Bool.and_eq_true, decide_eq_true_eq, List.all_eq_true]
          refine ⟨HT.out, fun s hs => ?_⟩
          obtain ⟨k, hk, rfl⟩ := List.mem_iff_getElem.1 hs
          have := hS k hk
          rw [getD_lt _ _ hk] at this
          exact this
        have HF := Lib.hid (HP.out hsp)
        obtain ⟨q, hq⟩ : ∃ q : Nat, (q : Int) = wc % (x.length : Int) := ⟨(wc % (x.length : Int)).toNat, by have := Int.emod_nonneg wc (b := (x.length : Int)) (by omega); omega⟩
        have hql : q < x.length := by have := Int.emod_lt_of_pos wc (b := (x.length : Int)) (by omega); omega
        have hqi : (q : Int) < (x.length : Int) := by omega
        have hm1 : wc.tmod (x.length : Int) = (q : Int) := by rw [hq]; exact Int.tmod_eq_emod_of_nonneg hwc.1
        have hm2 : IntKind.i64.wrap (q : Int) = (q : Int) := IntWalk.i64_in _ (by omega)
        have hm3 : IntKind.i64.wrap wc = wc := IntWalk.i64_in _ (by omega)
        have hm4 : ((x.length : Int) == 0) = false := beq_eq_false_iff_ne.2 (by omega)
        have hm5 : ¬ (x.length : Int) = 0 := by omega
        have HX := Lib.hid (Hx.out _ b5)
        have hgq : x.getD q default = x[q] := getD_lt _ _ hql
        have hbd := spnB_yes (hS q hql)
        obtain ⟨d, hd⟩ := cutFit hbd.1 hbd.2.1 hbd.2.2 hwr
        rw [hgq] at hbd hd
        obtain ⟨b, off, hXe, hb, hc⟩ := HX.out q hql
        have c0 : wr.cell? ⟨b, off + q * 2, none⟩ = some (.int .i64 x[q].lo) := by have := hc 0 (by omega); simpa [spnC] using this
        have c1 : wr.cell? ⟨b, off + q * 2 + 1, none⟩ = some (.int .i64 x[q].hi) := by have := hc 1 (by omega); simpa [spnC] using this
        have hbw : b < wr.heap.size := hb
        clear hq hc hb hS hR HP HT hil hi
        have HB5 := Lib.hid b5
        clear b5
        obtain ⟨i4, hi4, hz0, hz1, hz2⟩ := info_parts spanInfoR
        subst hXe
        have hE1 := own_empty wr 43 2 wr.heap.size (Nat.le_refl _)
        have D1 := (Below.refl wr.heap.size wr).alloc (Nat.le_refl _) (.cells #[] 43)
        have HX1 := Lib.hid (HX.out.later D1)
        go_upto_region 14 with (first
          | (at_builtin; refine wpList_append_src _ rfl (.tmp 68) (.tmp 69) 47 rfl wr.heap.size 43 i4 _ 2 16 Tryz.underlying47 hi4 hz0 hz1 hz2 rfl (by decide) _ 0 [] rfl hE1 _ x.length xc (x.flatMap spnC) rfl (flat_len spnC_len x) (fun e => by cases e) (Flat.news spnC_len (by decide) HX1.out) (flat_ones spnC_oneR x) (by unfold maxLen; omega) (by omega) (by simp) ?_; intro v1 w5 hown1 hg1 _; rw [Nat.zero_add, List.nil_append] at hown1; obtain ⟨A1, a1, rfl⟩ := own_slice hown1; have e5 : Below wr.heap.size wr w5 := D1.grown hg1 D1.size (fun k e => (hE1.lt k e).1); have hE2 := own_empty w5 43 2 w5.heap.size (Nat.le_refl _); have D2 := (Below.refl w5.heap.size w5).alloc (Nat.le_refl _) (.cells #[] 43); have HX2 := Lib.hid ((HX.out.later e5).later D2))
          | (at_builtin; refine wpList_append_src _ rfl (.tmp 71) (.tmp 72) 47 rfl w5.heap.size 43 i4 _ 2 16 Tryz.underlying47 hi4 hz0 hz1 hz2 rfl (by decide) _ 0 [] rfl hE2 _ x.length xc (x.flatMap spnC) rfl (flat_len spnC_len x) (fun e => by cases e) (Flat.news spnC_len (by decide) HX2.out) (flat_ones spnC_oneR x) (by unfold maxLen; omega) (by omega) (by simp) ?_; intro v2 w6 hown2 hg2 _; rw [Nat.zero_add, List.nil_append] at hown2; obtain ⟨A2, a2, rfl⟩ := own_slice hown2; have e6 : Below w5.heap.size w5 w6 := D2.grown hg2 D2.size (fun k e => (hE2.lt k e).1)))
        have e56 := e5.trans (e6.mono e5.size)
        obtain ⟨g1, r1, hv1, hB1, hl1⟩ := hown1.form (by omega)
        obtain ⟨g2, r2, hv2, hB2, hl2⟩ := hown2.form (by omega)
        simp only [Value.slice.injEq, true_and] at hv1 hv2
        obtain ⟨rfl, rfl⟩ := hv1
        obtain ⟨rfl, rfl⟩ := hv2
        have hown16 := own_below hown1 e6
        have hf1 := hown16.frozenAt (q * 2 + 1)
        have hf2 := hown2.frozenAt (q * 2)
        have y0 := (bcell e56).1 b (off + q * 2) hbw |>.trans c0
        have y1 := (bcell e56).1 b (off + q * 2 + 1) hbw |>.trans c1
        have hgg : g1 ≠ g2 := by omega
        have HXQ : Hid (x[q] = ⟨x[q].lo, x[q].hi⟩) := Lib.hid rfl
        have HF2 : Hid (∀ cut, x[q].lo ≤ cut → cut < x[q].hi → betE ⟨traits, cl.map CrdD.v, tl.map TreD.v, need⟩ (x.set q ⟨x[q].lo, cut⟩) = 0 ∧ betE ⟨traits, cl.map CrdD.v, tl.map TreD.v, need⟩ (x.set q ⟨cut + 1, x[q].hi⟩) = 0 ∧ (betV ⟨traits, cl.map CrdD.v, tl.map TreD.v, need⟩ x).lo = min (betV ⟨traits, cl.map CrdD.v, tl.map TreD.v, need⟩ (x.set q ⟨x[q].lo, cut⟩)).lo (betV ⟨traits, cl.map CrdD.v, tl.map TreD.v, need⟩ (x.set q ⟨cut + 1, x[q].hi⟩)).lo ∧ (betV ⟨traits, cl.map CrdD.v, tl.map TreD.v, need⟩ x).hi = max (betV ⟨traits, cl.map CrdD.v, tl.map TreD.v, need⟩ (x.set q ⟨x[q].lo, cut⟩)).hi (betV ⟨traits, cl.map CrdD.v, tl.map TreD.v, need⟩ (x.set q ⟨cut + 1, x[q].hi⟩)).hi) := Lib.hid (by
          have h9 := HF.out q
          rw [hgq] at h9
          exact fun cut h1 h2 => h9 cut hql h1 h2)
        have hbE : betE ⟨traits, cl.map CrdD.v, tl.map TreD.v, need⟩ x = 0 := by unfold betE; rw [if_pos HM.out]; exact if_pos hsp
        have HBE := Lib.hid hbE
        clear hgq HF hbE hsp
        generalize x[q].lo = lo at *
        generalize x[q].hi = hi at *
        obtain ⟨d1, d2, d3, d4, d5, d6, d7, d8, d9, d10, d11⟩ := hd
        clear c0 c1 hE1 hE2 D1 D2 HX1 HX2 hg1 hg2
        by_cases hcu : lo + d = hi
        · have hcu2 : (lo + d == hi) = true := by simpa using hcu
          clear hcu HF2 HXQ
          go_region
          go_wp2_with fail
          go_ret
          exact ⟨rfl, HB5.out.trans (e56.mono HB5.out.size).drew⟩
        have hcu2 : (lo + d == hi) = false := by simpa using hcu
        obtain ⟨z1, z2, z3, z4⟩ := HF2.out (lo + d) (by omega) (by omega)
        have HZ1 := Lib.hid z1
        have HZ2 := Lib.hid z2
        have HZ3 := Lib.hid z3
        have HZ4 := Lib.hid z4
        clear HF2 z1 z2 z3 z4
        go_region
        go_upto_region 17 with fail
        have hownA := own_drew hown16
        have hownB := own_drew hown2
        have hf3 : w6.drew.frozen? ⟨g1, q * 2 + 1, none⟩ = false := hf1
        have hf4 : w6.drew.frozen? ⟨g2, q * 2, none⟩ = false := hf2
        have ca1 : w6.drew.cell? ⟨g1, q * 2 + 1, none⟩ = some (.int .i64 hi) := by rw [hownA.cellAt (q * 2 + 1) (by omega), flat_get spnC_len x q hql 1 (by decide), HXQ.out]; rfl
        have cb1 : w6.drew.cell? ⟨g2, q * 2, none⟩ = some (.int .i64 lo) := by
          have h9 := flat_get spnC_len x q hql 0 (by decide)
          rw [Nat.add_zero] at h9
          rw [hownB.cellAt (q * 2) (by omega), h9, HXQ.out]; rfl
        have hk6 := ((HK4.out.below (hB.trans (e56.mono hB.size)) HK4.out.lt).drew : Blk w6.drew w.heap.size _ _)
        have hb6 : Below w.heap.size w w6.drew := HB5.out.trans (e56.mono HB5.out.size).drew
        have hs6 : w5.heap.size ≤ w6.drew.heap.size := e6.size
        have hxd := (HX.out.later e56.drew : SpnsAt w6.drew w6.drew.heap.size _ x)
        clear hf1 hf2 hown1 hown2 hown16 y0 y1 e56 e6 e5 HX
        generalize hW7 : w6.drew = w7 at *
        clear hW7
        go_upto_region 18 with fail
        have hws : w.heap.size ≤ wr.heap.size := HB5.out.size
        have hkg : w.heap.size < w4.heap.size := HK4.out.lt
        have hwg : w4.heap.size ≤ wr.heap.size := hB.size
        have hne : w.heap.size ≠ g1 ∧ w.heap.size ≠ g2 := by omega
        have k8 : Blk ((w7.setCell ⟨g1, q * 2 + 1, none⟩ (.int .i64 (lo + d))).setCell ⟨g2, q * 2, none⟩ (.int .i64 (lo + d + 1))) w.heap.size _ _ := (hk6.far (p := ⟨g1, q * 2 + 1, none⟩) hne.1 _).far (p := ⟨g2, q * 2, none⟩) hne.2 _
        have b8 : Below w.heap.size w ((w7.setCell ⟨g1, q * 2 + 1, none⟩ (.int .i64 (lo + d))).setCell ⟨g2, q * 2, none⟩ (.int .i64 (lo + d + 1))) := (hb6.setCell (p := ⟨g1, q * 2 + 1, none⟩) (by show w.heap.size ≤ g1; omega) _).setCell (p := ⟨g2, q * 2, none⟩) (by show w.heap.size ≤ g2; omega) _
        have oA := ownsRow_setCell_other ((hownA.stored (q * 2 + 1) (.int .i64 (lo + d))).1) (a := ⟨g2, q * 2, none⟩) (by simpa [Value.ownBlock] using hgg) (.int .i64 (lo + d + 1))
        have oB := ((own_far hownB (p := ⟨g1, q * 2 + 1, none⟩) (by show g1 < w5.heap.size; omega) (.int .i64 (lo + d))).stored (q * 2) (.int .i64 (lo + d + 1))).1
        rw [← flat_set spnC_len x q hql ⟨lo, lo + d⟩ 1 (.int .i64 (lo + d)) (by decide) (by rw [HXQ.out]; rfl)] at oA
        rw [show q * 2 = q * 2 + 0 from rfl, ← flat_set spnC_len x q hql ⟨lo + d + 1, hi⟩ 0 (.int .i64 (lo + d + 1)) (by decide) (by rw [HXQ.out]; rfl)] at oB
        have hlA : (x.set q ⟨lo, lo + d⟩).length = x.length := List.length_set
        have hlB : (x.set q ⟨lo + d + 1, hi⟩).length = x.length := List.length_set
        have sA := Flat.of_own (f := spnC) (l := x.set q ⟨lo, lo + d⟩) (c := a1) spnC_len (by decide) (by rw [hlA]; exact oA)
        have sB := Flat.of_own (f := spnC) (l := x.set q ⟨lo + d + 1, hi⟩) (c := a2) spnC_len (by decide) (by rw [hlB]; exact oB)
        clear oA oB hownA hownB hf3 hf4 hk6 hb6 hxd ca1 cb1
        rw [show q * 2 + 0 = q * 2 from rfl] at sB
        generalize hW8 : (w7.setCell ⟨g1, q * 2 + 1, none⟩ (.int .i64 (lo + d))).setCell ⟨g2, q * 2, none⟩ (.int .i64 (lo + d + 1)) = w8 at *
        clear hW8
        have HB8 := Lib.hid b8
        have Ca := Lib.hid (fun W (hb : Below w8.heap.size w8 W) => by
          have h9 := Hbp.out W _ xc x (HB8.out.trans (hb.mono HB8.out.size)) (Hx.out _ (HB8.out.trans (hb.mono HB8.out.size))) (by omega)
          rw [HBE.out] at h9
          exact h9)
        have Cb := Lib.hid (fun W (hb : Below w8.heap.size w8 W) => by
          have h9 := Hbp.out W _ a1 _ (HB8.out.trans (hb.mono HB8.out.size)) (sA.later hb) (by rw [hlA]; omega)
          rw [HZ1.out, hlA] at h9
          exact h9)
        have Cc := Lib.hid (fun W (hb : Below w8.heap.size w8 W) => by
          have h9 := Hbp.out W _ a2 _ (HB8.out.trans (hb.mono HB8.out.size)) (sB.later hb) (by rw [hlB]; omega)
          rw [HZ2.out, hlB] at h9
          exact h9)
        clear sA sB hlA hlB HZ1 HZ2 HBE Hbp HXQ Hh Hx HM
        generalize betV ⟨traits, cl.map CrdD.v, tl.map TreD.v, need⟩ x = va at *
        generalize betV ⟨traits, cl.map CrdD.v, tl.map TreD.v, need⟩ (x.set q ⟨lo, lo + d⟩) = vb at *
        generalize betV ⟨traits, cl.map CrdD.v, tl.map TreD.v, need⟩ (x.set q ⟨lo + d + 1, hi⟩) = vc at *
        obtain ⟨alo, ahi⟩ := va
        obtain ⟨blo, bhi⟩ := vb
        obtain ⟨clo, chi⟩ := vc
        dsimp only at *
        have k8c := k8.cell
        go_upto_region 19 with (go_at_call 17; (with_reducible refine (Ca.out _ (Below.refl _ _)).mono ?_); rintro e w9 ⟨rfl, h9⟩)
        have k10 := (k8.below h9 k8.lt).alloc (.cells #[.int .i64 alo, .int .i64 ahi] 43)
        have e10 := h9.alloc h9.size (.cells #[.int .i64 alo, .int .i64 ahi] 43)
        have ka := Blk.new w9 #[.int .i64 alo, .int .i64 ahi] 43
        generalize hW : w9.alloc (.cells #[.int .i64 alo, .int .i64 ahi] 43) = w10 at *
        clear hW k8c h9
        generalize w9.heap.size = ga at *
        have k10c := k10.cell
        go_upto_region 20 with (go_at_call 17; (with_reducible refine (Cb.out _ e10).mono ?_); rintro e w11 ⟨rfl, h11⟩)
        have e12 := (e10.trans (h11.mono e10.size)).alloc (e10.trans (h11.mono e10.size)).size (.cells #[.int .i64 blo, .int .i64 bhi] 43)
        have k12 := (k10.below h11 k10.lt).alloc (.cells #[.int .i64 blo, .int .i64 bhi] 43)
        have ka2 := (ka.below h11 ka.lt).alloc (.cells #[.int .i64 blo, .int .i64 bhi] 43)
        have kb := Blk.new w11 #[.int .i64 blo, .int .i64 bhi] 43
        generalize hW : w11.alloc (.cells #[.int .i64 blo, .int .i64 bhi] 43) = w12 at *
        clear hW k10c h11 ka
        generalize w11.heap.size = gb at *
        have k12c := k12.cell
        go_upto_region 21 with (go_at_call 17; (with_reducible refine (Cc.out _ e12).mono ?_); rintro e w13 ⟨rfl, h13⟩)
        have e14 := (e12.trans (h13.mono e12.size)).alloc (e12.trans (h13.mono e12.size)).size (.cells #[.int .i64 clo, .int .i64 chi] 43)
        have ka3 := (ka2.below h13 ka2.lt).alloc (.cells #[.int .i64 clo, .int .i64 chi] 43)
        have kb2 := (kb.below h13 kb.lt).alloc (.cells #[.int .i64 clo, .int .i64 chi] 43)
        have kc := Blk.new w13 #[.int .i64 clo, .int .i64 chi] 43
        generalize hW : w13.alloc (.cells #[.int .i64 clo, .int .i64 chi] 43) = w14 at *
        clear hW k12c h13 ka2 kb
        generalize w13.heap.size = gc at *
        have b14 := HB8.out.trans (e14.mono HB8.out.size)
        have hmn : (if clo < blo then clo else blo) = alo := by rw [HZ3.out]; split <;> omega
        have hmx : (if chi > bhi then chi else bhi) = ahi := by rw [HZ4.out]; split <;> omega
        have HS21 := Lib.hid (fun z : After w14.heap.size w14 => HSp.out alo ahi z.val)
        have xa := After.cells (B := w14.heap.size) ka3.cell ka3.lt
        have xb := After.cells (B := w14.heap.size) kb2.cell kb2.lt
        have xd := After.cells (B := w14.heap.size) kc.cell kc.lt
        refine wp_region_class_lit (C := fun w' => ∃ z : After w14.heap.size w14, w' = z.val) (by kernel_rfl) (by kernel_rfl) ⟨⟨_, (Below.refl _ _).drew⟩, rfl⟩ ?_
        repeat (go_big_quiet_step ((first
          | (go_at_call 18; with_reducible exact after_of (Nat.le_refl _) _ (HS21.out _)))))
        refine wpQuiet_nil ?_
        intro wq hw'
        obtain ⟨⟨wz, hz⟩, hw''⟩ := hw'
        dsimp only at hw''
        subst hw''
        go_wp2_with fail
        go_ret
        exact ⟨rfl, b14.trans (hz.mono b14.size)⟩
end Go.Proofs.YtkimojiakabbcaaGreat
