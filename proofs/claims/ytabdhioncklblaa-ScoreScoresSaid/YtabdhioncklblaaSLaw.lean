/- The law on scores. Written by a program. -/
import Derived.Test.YtabdhioncklblaaSSaidP4
import Derived.Test.YtabdhioncklblaaSSame1
import Derived.Test.YtabdhioncklblaaSGreat

namespace Go.Proofs.Ytabdhioncklblaa
open Go.RowKit Go.Maps

theorem ptL_len {m : Mdl} (x : List Int) (h1 : m.cards.length ≤ 6) (h2 : m.trees.length ≤ 6) : (ptL m x).length ≤ 1000 := by
  unfold ptL
  split
  · unfold ptsL; simp only [List.length_append, List.length_map]; omega
  · simp

set_option maxRecDepth 100000 in
set_option maxHeartbeats 8000000 in
theorem scoreScores_any (traits need : Int) (cl : List CrdD) (tl : List TreD) (C T : Option Addr) (c t : Nat) (x : List Int) (X : Option Addr) (xc : Nat) (w : World) (h : MdlAt w w.heap.size ⟨traits, cl, C, c, tl, T, t, need⟩) (hx : IntsAt w w.heap.size X x) (hxm : x.length ≤ maxLen)
    (HTW : ∀ (W : World), MdlAt W W.heap.size ⟨traits, cl, C, c, tl, T, t, need⟩ → MdlLe ⟨traits, cl, C, c, tl, T, t, need⟩ → Calls Try.prog 5 #[.agg #[.int .i64 traits, .slice C cl.length c, .slice T tl.length t, .int .i64 need]] W fun e w' => TwinS W traits need cl tl e w') :
    Calls Try.prog 3 #[.agg #[.int .i64 traits, .slice C cl.length c, .slice T tl.length t, .int .i64 need], .slice X x.length xc] w fun e w' => e = .returned (.bool true) ∧ Below w.heap.size w w' := by
  have b1 := (Below.refl w.heap.size w).alloc (Nat.le_refl _) (.cells #[.int .i64 traits, .slice C cl.length c, .slice T tl.length t, .int .i64 need] 25)
  have k1 := Blk.new w #[.int .i64 traits, .slice C cl.length c, .slice T tl.length t, .int .i64 need] 25
  have HGr := Lib.hid (fun W hb => great6_all traits need cl tl C T c t W (h.later hb))
  have q1 := k1.lt
  have k1c := k1.cell
  have hxm1 : IntKind.i64.wrap (x.length : Int) = (x.length : Int) := by unfold maxLen at hxm; exact IntWalk.i64_in _ (by omega)
  cases hg : mdlLeB ⟨traits, cl, C, c, tl, T, t, need⟩ with
  | false =>
    rw [hg] at HGr
    clear h hx HTW hg
    go_enter Try.func3, Try.ntmps3
    go_wp2_with (go_at_call 4; (with_reducible refine (HGr.out _ b1).mono ?_); rintro e w1 ⟨rfl, h1⟩)
    go_ret
    exact ⟨rfl, b1.trans (h1.mono b1.size)⟩
  | true =>
    rw [hg] at HGr
    have hls := mdlLe_of hg
    clear hg
    by_cases hx10 : x.length ≤ 10
    rotate_left
    · have hi10 : (10 : Int) < (x.length : Int) := by omega
      clear h hx HTW
      go_enter Try.func3, Try.ntmps3
      go_wp2_with (go_at_call 4; (with_reducible refine (HGr.out _ b1).mono ?_); rintro e w1 ⟨rfl, h1⟩)
      go_ret
      exact ⟨rfl, b1.trans (h1.mono b1.size)⟩
    have hi10 : ¬ (10 : Int) < (x.length : Int) := by omega
    have HTw := Lib.hid (fun W hb => HTW W (h.later hb) hls)
    have Hh := Lib.hid h
    have Hx := Lib.hid hx
    have Hls := Lib.hid hls
    have np : Hid ((ptL ⟨traits, cl.map CrdD.v, tl.map TreD.v, need⟩ x).length ≤ 1000) := Lib.hid (ptL_len x (by have := hls.cards; simpa using this) (by have := hls.trees; simpa using this))
    have HsR := Lib.hid (fun W hb => scoreR_all traits need cl tl C T c t x X xc W (h.later hb) hls (hx.later hb) hx10)
    have HpR := Lib.hid (fun W hb => pointsR_all traits need cl tl C T c t x X xc W (h.later hb) hls (hx.later hb) hx10)
    have HcR := Lib.hid (fun W hb => check6_all traits need cl tl C T c t W (h.later hb) hls)
    have Hx10 := Lib.hid hx10
    have HsP := Lib.hid (fun cl1 tl1 C1 T1 c1 t1 (hc : List.map CrdD.v cl1 = cl.map CrdD.v) (ht : List.map TreD.v tl1 = tl.map TreD.v) X1 x1 W (hm : MdlAt W W.heap.size ⟨traits, cl1, C1, c1, tl1, T1, t1, need⟩) hx1 => by
      have := scoreP_all traits need cl1 tl1 C1 T1 c1 t1 x X1 x1 W hm (hls.twin hc ht) hx1 hx10
      rw [hc, ht] at this
      exact this)
    have HpP := Lib.hid (fun cl1 tl1 C1 T1 c1 t1 (hc : List.map CrdD.v cl1 = cl.map CrdD.v) (ht : List.map TreD.v tl1 = tl.map TreD.v) X1 x1 W (hm : MdlAt W W.heap.size ⟨traits, cl1, C1, c1, tl1, T1, t1, need⟩) hx1 => by
      have := pointsP_all traits need cl1 tl1 C1 T1 c1 t1 x X1 x1 W hm (hls.twin hc ht) hx1 hx10
      rw [hc, ht] at this
      exact this)
    have HcP := Lib.hid (fun cl1 tl1 C1 T1 c1 t1 (hc : List.map CrdD.v cl1 = cl.map CrdD.v) (ht : List.map TreD.v tl1 = tl.map TreD.v) W (hm : MdlAt W W.heap.size ⟨traits, cl1, C1, c1, tl1, T1, t1, need⟩) => by
      have : Calls Try.prog 10 #[.agg #[.int .i64 traits, .slice C1 cl1.length c1, .slice T1 tl1.length t1, .int .i64 need]] W fun e w' => e = .returned (.int .i64 (mdlE ⟨traits, cl1.map CrdD.v, tl1.map TreD.v, need⟩)) ∧ Below W.heap.size W w' := checkP_any ⟨traits, cl1, C1, c1, tl1, T1, t1, need⟩ W hm (hls.twin hc ht)
      rw [hc, ht] at this
      exact this)
    obtain ⟨i4, hi4, hq0, hq1, hq2⟩ := info_parts intInfo
    clear h hx HTW hls
    generalize ptL ⟨traits, cl.map CrdD.v, tl.map TreD.v, need⟩ x = pl at *
    generalize scN ⟨traits, cl.map CrdD.v, tl.map TreD.v, need⟩ x = sn at *
    generalize scY ⟨traits, cl.map CrdD.v, tl.map TreD.v, need⟩ x = sy at *
    generalize forE ⟨traits, cl.map CrdD.v, tl.map TreD.v, need⟩ x = se at *
    generalize mdlE ⟨traits, cl.map CrdD.v, tl.map TreD.v, need⟩ = ce at *
    go_enter Try.func3, Try.ntmps3
    go_upto_region 1 with fail
    generalize hW1 : w.alloc (.cells #[.int .i64 traits, .slice C cl.length c, .slice T tl.length t, .int .i64 need] 25) = W1 at *
    clear hW1
    go_upto_region 3 with (go_at_call 4; (with_reducible refine (HGr.out _ b1).mono ?_); rintro e w1 ⟨rfl, h1⟩; have b2 := b1.trans (h1.mono b1.size); have k2 := k1.below h1 q1; have k2c := k2.cell)
    clear k1c k1
    go_upto_region 4 with (first
      | (go_at_call 5; (with_reducible refine (HTw.out _ b2).mono ?_); rintro e w2 ⟨cl1, tl1, C1, c1, T1, t1, rfl, hc, ht, hm, h2⟩; have b3 := b2.trans (h2.mono b2.size); have k3 := k2.below h2 k2.lt; have hown0 := own_empty w2 3 1 w2.heap.size (Nat.le_refl _); have be := (Below.refl w2.heap.size w2).alloc (Nat.le_refl _) (.cells #[] 3); have h0 := Hx.out.later (b3.alloc b3.size (.cells #[] 3)))
      | (at_builtin; refine wpList_append_src _ rfl (.tmp 26) (.tmp 27) 26 rfl w2.heap.size 3 i4 _ 1 8 Try.underlying26 hi4 hq0 hq1 hq2 rfl (by decide) _ 0 [] rfl hown0 X x.length xc (x.flatMap intC) rfl (flat_len intC_len x) (by rintro rfl; exact h0.none_) (h0.news intC_len (by decide)) (flat_ones intC_one x) (by unfold maxLen; omega) (by omega) (by simp) ?_; intro v3 w3 hown3 hg3 _; rw [Nat.zero_add, List.nil_append] at hown3; obtain ⟨X1, x1, rfl⟩ := own_slice hown3; have h3 : Below w2.heap.size w2 w3 := be.grown hg3 be.size (fun k e => (hown0.lt k e).1)))
    have b4 := b3.trans (h3.mono b3.size)
    have bx := b4.alloc b4.size (.cells #[.int .i64 traits, .slice C1 cl1.length c1, .slice T1 tl1.length t1, .int .i64 need] 25)
    have kx := Blk.new w3 #[.int .i64 traits, .slice C1 cl1.length c1, .slice T1 tl1.length t1, .int .i64 need] 25
    have k4 := (k3.below h3 k3.lt).alloc (.cells #[.int .i64 traits, .slice C1 cl1.length c1, .slice T1 tl1.length t1, .int .i64 need] 25)
    have ba := (Below.refl w3.heap.size w3).alloc (Nat.le_refl _) (.cells #[.int .i64 traits, .slice C1 cl1.length c1, .slice T1 tl1.length t1, .int .i64 need] 25)
    have HM := Lib.hid ((hm.later h3).later ba)
    have hx4 : IntsAt w3 w3.heap.size X1 x := Flat.of_own intC_len (by decide) hown3
    have HX := Lib.hid (hx4.later ba)
    have Hc := Lib.hid hc
    have Ht := Lib.hid ht
    clear hown3 hg3 hown0 h0 be hm h2 h3 b3 b4 k3 k2 k2c h1 b2 hx4 ba hc ht
    generalize hW2 : w3.alloc (.cells #[.int .i64 traits, .slice C1 cl1.length c1, .slice T1 tl1.length t1, .int .i64 need] 25) = W2 at *
    clear hW2
    have kxc := kx.cell
    have k4c := k4.cell
    go_upto_region 5 with (go_at_call 6; (with_reducible refine (HsP.out cl1 tl1 C1 T1 c1 t1 Hc.out Ht.out X1 x1 _ HM.out HX.out).mono ?_); rintro e w5 ⟨rfl, h5⟩; have b5 := bx.trans (h5.mono bx.size); have k5 := k4.below h5 k4.lt; have kx5 := kx.below h5 kx.lt; have k5c := k5.cell; have kx5c := kx5.cell; have HM5 := Lib.hid (HM.out.later h5); have HX5 := Lib.hid (HX.out.later h5))
    clear kxc k4c
    go_upto_region 6 with (go_at_call 7; (with_reducible refine (HsR.out _ b5).mono ?_); rintro e w6 ⟨rfl, h6⟩; have b6 := b5.trans (h6.mono b5.size); have k6 := k5.below h6 k5.lt; have kx6 := kx5.below h6 kx5.lt; have k6c := k6.cell; have kx6c := kx6.cell; have HM6 := Lib.hid (HM5.out.later h6); have HX6 := Lib.hid (HX5.out.later h6))
    clear k5c kx5c
    go_upto_region 7 with (go_at_call 8; (with_reducible refine (HpP.out cl1 tl1 C1 T1 c1 t1 Hc.out Ht.out X1 x1 _ HM6.out HX6.out).mono ?_); rintro e w7 ⟨A7, c7, rfl, o7, h7⟩; have b7 := b6.trans (h7.mono b6.size); have k7 := k6.below h7 k6.lt; have kx7 := kx6.below h7 kx6.lt; have k7c := k7.cell; have kx7c := kx7.cell; have HM7 := Lib.hid (HM6.out.later h7); have HX7 := Lib.hid (HX6.out.later h7); have f7 : IntsAt w7 w7.heap.size A7 pl := Flat.of_own intC_len (by decide) o7)
    clear k6c kx6c
    go_upto_region 8 with (go_at_call 9; (with_reducible refine (HpR.out _ b7).mono ?_); rintro e w8 ⟨A8, c8, rfl, o8, h8⟩; have b8 := b7.trans (h8.mono b7.size); have k8 := k7.below h8 k7.lt; have kx8 := kx7.below h8 kx7.lt; have HM8 := Lib.hid (HM7.out.later h8); have HX8 := Lib.hid (HX7.out.later h8); have f78 := f7.later h8; have f8 : IntsAt w8 w8.heap.size A8 pl := Flat.of_own intC_len (by decide) o8)
    clear k7c kx7c
    have k8a := After.cells (B := w8.heap.size) k8.cell k8.lt
    have kx8a := After.cells (B := w8.heap.size) kx8.cell kx8.lt
    have G1 : Hid (∀ z : After w8.heap.size w8, Calls Try.prog 10 #[.agg #[.int .i64 traits, .slice C1 cl1.length c1, .slice T1 tl1.length t1, .int .i64 need]] z.val fun e w' => e = .returned (.int .i64 ce) ∧ Below z.val.heap.size z.val w') := Lib.hid (fun z => HcP.out cl1 tl1 C1 T1 c1 t1 Hc.out Ht.out z.val (HM8.out.later z.property))
    have G2 : Hid (∀ z : After w8.heap.size w8, Calls Try.prog 11 #[.agg #[.int .i64 traits, .slice C cl.length c, .slice T tl.length t, .int .i64 need]] z.val fun e w' => e = .returned (.int .i64 ce) ∧ Below z.val.heap.size z.val w') := Lib.hid (fun z => HcR.out z.val (b8.trans (z.property.mono b8.size)))
    have G3 : Hid (∀ z : After w8.heap.size w8, Calls Try.prog 12 #[.slice A7 pl.length c7, .slice A8 pl.length c8] z.val fun e w' => e = .returned (.bool true) ∧ Below z.val.heap.size z.val w') := Lib.hid (fun z => sameInts_any pl A7 A8 c7 c8 z.val (f78.later z.property) (f8.later z.property) np.out)
    have G4 : Hid (∀ z : After w8.heap.size w8, Calls Try.prog 13 #[.agg #[.int .i64 traits, .slice C1 cl1.length c1, .slice T1 tl1.length t1, .int .i64 need], .agg #[.int .i64 traits, .slice C cl.length c, .slice T tl.length t, .int .i64 need]] z.val fun e w' => e = .returned (.bool true) ∧ Below z.val.heap.size z.val w') := Lib.hid (fun z => same6_all traits need cl1 cl tl1 tl C1 T1 C T c1 t1 c t z.val (HM8.out.later z.property) (Hh.out.later (b8.trans (z.property.mono b8.size))) Hls.out Hc.out Ht.out)
    have G5 : Hid (∀ z : After w8.heap.size w8, Calls Try.prog 12 #[.slice X1 x.length x1, .slice X x.length xc] z.val fun e w' => e = .returned (.bool true) ∧ Below z.val.heap.size z.val w') := Lib.hid (fun z => sameInts_any x X1 X x1 xc z.val (HX8.out.later z.property) (Hx.out.later (b8.trans (z.property.mono b8.size))) (by have := Hx10.out; omega))
    clear k8 kx8 f7 f78 f8 o7 o8 k7 kx7 k6 kx6 k5 kx5 k4 kx HsP HpP HcP HsR HpR HcR HTw HGr hi4 hq0 hq1 hq2
    refine wp_region_class_lit (C := fun w' => ∃ z : After w8.heap.size w8, w' = z.val) (by kernel_rfl) (by kernel_rfl) ⟨⟨_, (Below.refl _ _).drew⟩, rfl⟩ ?_
    repeat (go_big_quiet_step ((first
      | (go_at_call 10; with_reducible exact after_of (Nat.le_refl _) _ (G1.out _))
      | (go_at_call 11; with_reducible exact after_of (Nat.le_refl _) _ (G2.out _))
      | (go_at_call 12; with_reducible exact after_of (Nat.le_refl _) _ (G3.out _))
      | (go_at_call 12; with_reducible exact after_of (Nat.le_refl _) _ (G5.out _))
      | (go_at_call 13; with_reducible exact after_of (Nat.le_refl _) _ (G4.out _)))))
    refine wpQuiet_nil ?_
    intro wq hw'
    obtain ⟨⟨wz, hz⟩, hw''⟩ := hw'
    dsimp only at hw''
    subst hw''
    go_wp2_with fail
    go_ret
    exact ⟨rfl, b8.trans (hz.mono b8.size)⟩
end Go.Proofs.Ytabdhioncklblaa
