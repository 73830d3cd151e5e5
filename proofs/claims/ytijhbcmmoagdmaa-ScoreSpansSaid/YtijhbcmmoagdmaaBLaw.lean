/- The law on spans. Written by a program. -/
import Derived.Test.YtijhbcmmoagdmaaSTwC
import Derived.Test.YtijhbcmmoagdmaaBAll
import Derived.Test.YtijhbcmmoagdmaaSSame1
import Derived.Test.YtijhbcmmoagdmaaSGreat

namespace Go.Proofs.Ytijhbcmmoagdmaa
open Go.RowKit Go.Maps

theorem spanInfo : (Try.prog.info? 45).map (fun i => (i.zero, i.size, i.bytes)) = some (some (.agg #[.int .i64 0, .int .i64 0]), 2, 16) := by kernel_rfl
theorem spnC_one (x : Spn) : ∀ u ∈ spnC x, u.oneCell' = true := fun u hu => by
  simp only [spnC, List.mem_cons, List.not_mem_nil, or_false] at hu
  rcases hu with rfl | rfl <;> rfl

set_option maxRecDepth 100000 in
set_option maxHeartbeats 8000000 in
theorem scoreSpans_any (traits need : Int) (cl : List CrdD) (tl : List TreD) (C T : Option Addr) (c t : Nat) (x : List Spn) (X : Option Addr) (xc : Nat) (w : World) (h : MdlAt w w.heap.size ⟨traits, cl, C, c, tl, T, t, need⟩) (hx : SpnsAt w w.heap.size X x) (hxm : x.length ≤ maxLen)
    (HTW : ∀ (W : World), MdlAt W W.heap.size ⟨traits, cl, C, c, tl, T, t, need⟩ → MdlLe ⟨traits, cl, C, c, tl, T, t, need⟩ → Calls Try.prog 6 #[.agg #[.int .i64 traits, .slice C cl.length c, .slice T tl.length t, .int .i64 need]] W fun e w' => TwinS W traits need cl tl e w')
    (HBR : ∀ (W : World), MdlAt W W.heap.size ⟨traits, cl, C, c, tl, T, t, need⟩ → MdlLe ⟨traits, cl, C, c, tl, T, t, need⟩ → SpnsAt W W.heap.size X x → x.length ≤ 10 → Calls Try.prog 16 #[.agg #[.int .i64 traits, .slice C cl.length c, .slice T tl.length t, .int .i64 need], .slice X x.length xc] W fun e w' => e = .returned (.tuple #[.agg #[.int .i64 (betV ⟨traits, cl.map CrdD.v, tl.map TreD.v, need⟩ x).lo, .int .i64 (betV ⟨traits, cl.map CrdD.v, tl.map TreD.v, need⟩ x).hi], .int .i64 (betE ⟨traits, cl.map CrdD.v, tl.map TreD.v, need⟩ x)]) ∧ Below W.heap.size W w') :
    Calls Try.prog 4 #[.agg #[.int .i64 traits, .slice C cl.length c, .slice T tl.length t, .int .i64 need], .slice X x.length xc] w fun e w' => e = .returned (.bool true) ∧ Below w.heap.size w w' := by
  have b1 := (Below.refl w.heap.size w).alloc (Nat.le_refl _) (.cells #[.int .i64 traits, .slice C cl.length c, .slice T tl.length t, .int .i64 need] 25)
  have k1 := Blk.new w #[.int .i64 traits, .slice C cl.length c, .slice T tl.length t, .int .i64 need] 25
  have HGr := Lib.hid (fun W hb => great6_all traits need cl tl C T c t W (h.later hb))
  have q1 := k1.lt
  have k1c := k1.cell
  have hxm1 : IntKind.i64.wrap (x.length : Int) = (x.length : Int) := by unfold maxLen at hxm; exact IntWalk.i64_in _ (by omega)
  cases hg : mdlLeB ⟨traits, cl, C, c, tl, T, t, need⟩ with
  | false =>
    rw [hg] at HGr
    clear h hx HTW HBR hg
    go_enter Try.func4, Try.ntmps4
    go_wp2_with (go_at_call 5; (with_reducible refine (HGr.out _ b1).mono ?_); rintro e w1 ⟨rfl, h1⟩)
    go_ret
    exact ⟨rfl, b1.trans (h1.mono b1.size)⟩
  | true =>
    rw [hg] at HGr
    have hls := mdlLe_of hg
    clear hg
    by_cases hx10 : x.length ≤ 10
    rotate_left
    · have hi10 : (10 : Int) < (x.length : Int) := by omega
      clear h hx HTW HBR
      go_enter Try.func4, Try.ntmps4
      go_wp2_with (go_at_call 5; (with_reducible refine (HGr.out _ b1).mono ?_); rintro e w1 ⟨rfl, h1⟩)
      go_ret
      exact ⟨rfl, b1.trans (h1.mono b1.size)⟩
    have hi10 : ¬ (10 : Int) < (x.length : Int) := by omega
    have HTw := Lib.hid (fun W hb => HTW W (h.later hb) hls)
    have HbR := Lib.hid (fun W hb => HBR W (h.later hb) hls (hx.later hb) hx10)
    have Hh := Lib.hid h
    have Hx := Lib.hid hx
    have Hls := Lib.hid hls
    have HbP := Lib.hid (fun cl1 tl1 C1 T1 c1 t1 (hc : List.map CrdD.v cl1 = cl.map CrdD.v) (ht : List.map TreD.v tl1 = tl.map TreD.v) X1 x1 W (hm : MdlAt W W.heap.size ⟨traits, cl1, C1, c1, tl1, T1, t1, need⟩) hx1 => by
      have := betweenP_all traits need cl1 tl1 C1 T1 c1 t1 x X1 x1 W hm (hls.twin hc ht) hx1 hx10
      rw [hc, ht] at this
      exact this)
    have HSm := Lib.hid (fun cl1 tl1 C1 T1 c1 t1 (hc : List.map CrdD.v cl1 = cl.map CrdD.v) (ht : List.map TreD.v tl1 = tl.map TreD.v) W (hm : MdlAt W W.heap.size ⟨traits, cl1, C1, c1, tl1, T1, t1, need⟩) hm2 => same6_all traits need cl1 cl tl1 tl C1 T1 C T c1 t1 c t W hm hm2 hls hc ht)
    obtain ⟨i4, hi4, hq0, hq1, hq2⟩ := info_parts spanInfo
    clear h hx HTW HBR hls
    generalize betE ⟨traits, cl.map CrdD.v, tl.map TreD.v, need⟩ x = be at *
    generalize betV ⟨traits, cl.map CrdD.v, tl.map TreD.v, need⟩ x = bv at *
    obtain ⟨lo, hi⟩ := bv
    dsimp only at *
    go_enter Try.func4, Try.ntmps4
    go_upto_region 1 with fail
    generalize hW1 : w.alloc (.cells #[.int .i64 traits, .slice C cl.length c, .slice T tl.length t, .int .i64 need] 25) = W1 at *
    clear hW1
    go_upto_region 3 with (go_at_call 5; (with_reducible refine (HGr.out _ b1).mono ?_); rintro e w1 ⟨rfl, h1⟩; have b2 := b1.trans (h1.mono b1.size); have k2 := k1.below h1 q1; have k2c := k2.cell)
    clear k1c k1
    go_upto_region 4 with (go_at_call 6; (with_reducible refine (HTw.out _ b2).mono ?_); rintro e w2 ⟨cl1, tl1, C1, c1, T1, t1, rfl, hc, ht, hm, h2⟩; have b3 := b2.trans (h2.mono b2.size); have k3 := k2.below h2 k2.lt)
    have bx := b3.alloc b3.size (.cells #[.int .i64 traits, .slice C1 cl1.length c1, .slice T1 tl1.length t1, .int .i64 need] 25)
    have kx := Blk.new w2 #[.int .i64 traits, .slice C1 cl1.length c1, .slice T1 tl1.length t1, .int .i64 need] 25
    have k4 := k3.alloc (.cells #[.int .i64 traits, .slice C1 cl1.length c1, .slice T1 tl1.length t1, .int .i64 need] 25)
    have HM := Lib.hid (hm.later ((Below.refl w2.heap.size w2).alloc (Nat.le_refl _) (.cells #[.int .i64 traits, .slice C1 cl1.length c1, .slice T1 tl1.length t1, .int .i64 need] 25)))
    have Hc := Lib.hid hc
    have Ht := Lib.hid ht
    clear hm h2 b3 k3 k2 k2c h1 b2 hc ht
    have gx := kx.lt
    generalize hW2 : w2.alloc (.cells #[.int .i64 traits, .slice C1 cl1.length c1, .slice T1 tl1.length t1, .int .i64 need] 25) = W2 at *
    clear hW2
    have D1 : Below W2.heap.size W2 ((W2.alloc (.cells #[] 45)).drew) := ((Below.refl _ _).alloc (Nat.le_refl _) _).drew
    have HX1 := Lib.hid (Hx.out.later (bx.trans (D1.mono bx.size)))
    have kD1 := (kx.below D1 gx).cell
    have D2 : Below W2.heap.size W2 (((W2.alloc (.cells #[.int .i64 0, .int .i64 0] 45)).alloc (.cells #[] 45)).drew) := (((Below.refl _ _).alloc (Nat.le_refl _) _).alloc (by simp) _).drew
    have HX2 := Lib.hid (Hx.out.later (bx.trans (D2.mono bx.size)))
    have kD2 := (kx.below D2 gx).cell
    have D3 : Below W2.heap.size W2 (((W2.alloc (.cells #[] 45)).alloc (.cells #[.int .i64 0, .int .i64 0] 45)).drew) := (((Below.refl _ _).alloc (Nat.le_refl _) _).alloc (by simp) _).drew
    have HX3 := Lib.hid (Hx.out.later (bx.trans (D3.mono bx.size)))
    have kD3 := (kx.below D3 gx).cell
    have hE1 := own_drew (own_empty W2 45 2 W2.heap.size (Nat.le_refl _))
    have hE2 := own_drew (own_empty (W2.alloc (.cells #[.int .i64 0, .int .i64 0] 45)) 45 2 W2.heap.size (by simp))
    rw [World.size_alloc] at hE2
    have hE3 := own_drew (own_below (own_empty W2 45 2 W2.heap.size (Nat.le_refl _)) ((Below.refl _ _).alloc (Nat.le_refl _) (.cells #[.int .i64 0, .int .i64 0] 45)))
    have kxs := (kx.alloc (.cells #[.int .i64 0, .int .i64 0] 45)).cell
    have kxc := kx.cell
    go_cut [6, 7] (fun p6 p7 wx => ∃ gs, p6 = .pointer (some ⟨gs, 0, none⟩) ∧ p7 = .int .i64 be ∧ Hid (Blk wx gs #[.int .i64 lo, .int .i64 hi] 45 ∧ Below W2.heap.size W2 wx))
    case first =>
      go_region_law (first
        | (refine step_append_src (by rfl) _ _ _ (by rfl) W2.heap.size 45 i4 _ 2 16 Try.underlying43 hi4 hq0 hq1 hq2 rfl (by decide) _ 0 [] (by rfl) hE1 X x.length xc (x.flatMap spnC) (by rfl) (flat_len spnC_len x) (by rintro rfl; exact HX1.out.none_) (HX1.out.news spnC_len (by decide)) (flat_ones spnC_one x) (by unfold maxLen; omega) (by omega) (by first | (simp; done) | (simp; omega)) ?_; intro v3 w3 hown3 hg3 _; rw [Nat.zero_add, List.nil_append] at hown3; obtain ⟨X1, x1, rfl⟩ := own_slice hown3; have h3 : Below W2.heap.size W2 w3 := D1.grown hg3 D1.size (fun k e => (hE1.lt k e).1); have kx3 := (kx.below h3 gx); have kx3c := kx3.cell; have kx3a := (kx3.alloc (.cells #[.int .i64 0, .int .i64 0] 45)).cell; have hx3 : SpnsAt w3 w3.heap.size X1 x := Flat.of_own spnC_len (by decide) hown3)
        | (refine step_append_src (by rfl) _ _ _ (by rfl) W2.heap.size 45 i4 _ 2 16 Try.underlying43 hi4 hq0 hq1 hq2 rfl (by decide) _ 0 [] (by rfl) hE2 X x.length xc (x.flatMap spnC) (by rfl) (flat_len spnC_len x) (by rintro rfl; exact HX2.out.none_) (HX2.out.news spnC_len (by decide)) (flat_ones spnC_one x) (by unfold maxLen; omega) (by omega) (by first | (simp; done) | (simp; omega)) ?_; intro v3 w3 hown3 hg3 _; rw [Nat.zero_add, List.nil_append] at hown3; obtain ⟨X1, x1, rfl⟩ := own_slice hown3; have h3 : Below W2.heap.size W2 w3 := D2.grown hg3 D2.size (fun k e => (hE2.lt k e).1); have kx3 := (kx.below h3 gx); have kx3c := kx3.cell; have kx3a := (kx3.alloc (.cells #[.int .i64 0, .int .i64 0] 45)).cell; have hx3 : SpnsAt w3 w3.heap.size X1 x := Flat.of_own spnC_len (by decide) hown3; have ks3 := ((Blk.new W2 #[.int .i64 0, .int .i64 0] 45).alloc (.cells #[] 45)).drew.grown hg3 (fun e => by have e2 := Option.some.inj e; first | (simp at e2; done) | (simp at e2; omega)))
        | (refine step_append_src (by rfl) _ _ _ (by rfl) W2.heap.size 45 i4 _ 2 16 Try.underlying43 hi4 hq0 hq1 hq2 rfl (by decide) _ 0 [] (by rfl) hE3 X x.length xc (x.flatMap spnC) (by rfl) (flat_len spnC_len x) (by rintro rfl; exact HX3.out.none_) (HX3.out.news spnC_len (by decide)) (flat_ones spnC_one x) (by unfold maxLen; omega) (by omega) (by first | (simp; done) | (simp; omega)) ?_; intro v3 w3 hown3 hg3 _; rw [Nat.zero_add, List.nil_append] at hown3; obtain ⟨X1, x1, rfl⟩ := own_slice hown3; have h3 : Below W2.heap.size W2 w3 := D3.grown hg3 D3.size (fun k e => (hE3.lt k e).1); have kx3 := (kx.below h3 gx); have kx3c := kx3.cell; have kx3a := (kx3.alloc (.cells #[.int .i64 0, .int .i64 0] 45)).cell; have hx3 : SpnsAt w3 w3.heap.size X1 x := Flat.of_own spnC_len (by decide) hown3; have ks3 := (newAt' (W2.alloc (.cells #[] 45)) #[.int .i64 0, .int .i64 0] 45 (g := W2.heap.size + 1) (by simp)).drew.grown hg3 (fun e => by have e2 := Option.some.inj e; dsimp only at e2; omega))
        | (go_simp; go_at_call 15; (with_reducible refine (HbP.out cl1 tl1 C1 T1 c1 t1 Hc.out Ht.out X1 x1 _ (HM.out.later h3) hx3).mono ?_); rintro e w5 ⟨rfl, h5⟩; have h35 := h3.trans (h5.mono h3.size); have kn5 := Blk.new w5 #[.int .i64 0, .int .i64 0] 45; have kn5c := kn5.cell; have y0 := kn5.free 0; have y1 := kn5.free 1; (first | (have ks5 := ks3.below h5 ks3.lt; have ks5c := ks5.cell; have z0 := ks5.free 0; have z1 := ks5.free 1) | skip))
        | (go_simp; go_at_call 15; (with_reducible refine (HbP.out cl1 tl1 C1 T1 c1 t1 Hc.out Ht.out X1 x1 _ (HM.out.later (h3.alloc h3.size (.cells #[.int .i64 0, .int .i64 0] 45))) (hx3.later ((Below.refl _ _).alloc (Nat.le_refl _) (.cells #[.int .i64 0, .int .i64 0] 45)))).mono ?_); rintro e w5 ⟨rfl, h5⟩; have h35 := (h3.alloc h3.size (.cells #[.int .i64 0, .int .i64 0] 45)).trans (h5.mono (Nat.le_trans h3.size (by simp))); have ks5 := (Blk.new w3 #[.int .i64 0, .int .i64 0] 45).below h5 (by simp); have ks5c := ks5.cell; have z0 := ks5.free 0; have z1 := ks5.free 1))
      all_goals first | (go_step; go_step; go_meet) | (go_step; go_meet) | go_meet
      all_goals first
        | exact ⟨w5.heap.size, rfl, rfl, Lib.hid ⟨Blk.new w5 _ _, h35.alloc h35.size _⟩⟩
        | exact ⟨W2.heap.size, rfl, rfl, Lib.hid ⟨sp_put ks5, (h35.setCell (p := ⟨W2.heap.size, 0, none⟩) (Nat.le_refl _) _).setCell (p := ⟨W2.heap.size, 1, none⟩) (Nat.le_refl _) _⟩⟩
        | exact ⟨W2.heap.size + 1, rfl, rfl, Lib.hid ⟨sp_put ks5, (h35.setCell (p := ⟨W2.heap.size + 1, 0, none⟩) (Nat.le_succ _) _).setCell (p := ⟨W2.heap.size + 1, 1, none⟩) (Nat.le_succ _) _⟩⟩
        | exact ⟨w3.heap.size, rfl, rfl, Lib.hid ⟨sp_put ks5, (h35.setCell (p := ⟨w3.heap.size, 0, none⟩) h3.size _).setCell (p := ⟨w3.heap.size, 1, none⟩) h3.size _⟩⟩
    case rest =>
      obtain ⟨gs, rfl, rfl, HH⟩ := hcut
      have h6 := HH.out.2
      have kp := HH.out.1
      have b6 := bx.trans (h6.mono bx.size)
      have k6 := k4.below h6 k4.lt
      have kx6 := kx.below h6 gx
      have HM6 := Lib.hid (HM.out.later h6)
      have k6c := k6.cell
      clear D1 D2 D3 HX1 HX2 HX3 kD1 kD2 kD3 hE1 hE2 hE3 kxs kxc
      go_upto_region 6 with (go_at_call 16; (with_reducible refine (HbR.out _ b6).mono ?_); rintro e w7 ⟨rfl, h7⟩; have b7 := b6.trans (h7.mono b6.size))
      have b8 := b7.alloc b7.size (.cells #[.int .i64 lo, .int .i64 hi] 45)
      have ba := (Below.refl w7.heap.size w7).alloc (Nat.le_refl _) (.cells #[.int .i64 lo, .int .i64 hi] 45)
      have k8 := ((k6.below h7 k6.lt).alloc (.cells #[.int .i64 lo, .int .i64 hi] 45)).cell
      have kx8 := ((kx6.below h7 kx6.lt).alloc (.cells #[.int .i64 lo, .int .i64 hi] 45)).cell
      have kp8 := ((kp.below h7 kp.lt).alloc (.cells #[.int .i64 lo, .int .i64 hi] 45)).cell
      have kq8 := (Blk.new w7 #[.int .i64 lo, .int .i64 hi] 45).cell
      have HM8 := Lib.hid ((HM6.out.later h7).later ba)
      have Hh8 := Lib.hid (Hh.out.later b8)
      go_wp2_with (go_at_call 14; (with_reducible refine (HSm.out cl1 tl1 C1 T1 c1 t1 Hc.out Ht.out _ HM8.out Hh8.out).mono ?_); rintro e w9 ⟨rfl, h9⟩)
      go_ret
      exact ⟨rfl, b8.trans (h9.mono b8.size)⟩
end Go.Proofs.Ytijhbcmmoagdmaa
