/- The law on reasons. Written by a program. -/
import Derived.Test.YtkimojiakabbcaaGreatWQ1
import Derived.Test.YtkimojiakabbcaaGreatWQ2
import Derived.Test.YtkimojiakabbcaaGreatWP4
import Derived.Deep.LoopGhost

namespace Go.Proofs.YtkimojiakabbcaaGreat
open Go.RowKit Go.Maps

set_option maxRecDepth 100000 in
set_option maxHeartbeats 8000000 in
theorem scoreReasons_any (traits need : Int) (cl : List CrdD) (tl : List TreD) (C T : Option Addr) (c t : Nat) (x : List Int) (X : Option Addr) (xc : Nat) (S V : List Int) (E : Int) (w : World) (h : MdlAt w w.heap.size ⟨traits, cl, C, c, tl, T, t, need⟩) (hx : IntsAt w w.heap.size X x) (hxm : x.length ≤ maxLen) (hS : x.length ≤ 10 → S.length ≤ 1000 ∧ V.length ≤ 1000)
    (HTW : ∀ (W : World), MdlAt W W.heap.size ⟨traits, cl, C, c, tl, T, t, need⟩ → MdlLe ⟨traits, cl, C, c, tl, T, t, need⟩ → Calls Tryz.prog 21 #[.agg #[.int .i64 traits, .slice C cl.length c, .slice T tl.length t, .int .i64 need]] W fun e w' => TwinS W traits need cl tl e w')
    (HRR : ∀ (W : World), MdlAt W W.heap.size ⟨traits, cl, C, c, tl, T, t, need⟩ → MdlLe ⟨traits, cl, C, c, tl, T, t, need⟩ → IntsAt W W.heap.size X x → x.length ≤ 10 → Calls Tryz.prog 22 #[.agg #[.int .i64 traits, .slice C cl.length c, .slice T tl.length t, .int .i64 need], .slice X x.length xc] W fun e w' => ∃ A a B b, e = .returned (.tuple #[.slice A S.length a, .slice B V.length b, .int .i64 E]) ∧ IntsAt w' w'.heap.size A S ∧ IntsAt w' w'.heap.size B V ∧ Below W.heap.size W w')
    (HRP : ∀ cl1 tl1 C1 T1 c1 t1, List.map CrdD.v cl1 = cl.map CrdD.v → List.map TreD.v tl1 = tl.map TreD.v → ∀ X1 x1 (W : World), MdlAt W W.heap.size ⟨traits, cl1, C1, c1, tl1, T1, t1, need⟩ → MdlLe ⟨traits, cl, C, c, tl, T, t, need⟩ → IntsAt W W.heap.size X1 x → x.length ≤ 10 → Calls Tryz.prog 15 #[.agg #[.int .i64 traits, .slice C1 cl1.length c1, .slice T1 tl1.length t1, .int .i64 need], .slice X1 x.length x1] W fun e w' => ∃ A a B b, e = .returned (.tuple #[.slice A S.length a, .slice B V.length b, .int .i64 E]) ∧ IntsAt w' w'.heap.size A S ∧ IntsAt w' w'.heap.size B V ∧ Below W.heap.size W w') :
    Calls Tryz.prog 4 #[.agg #[.int .i64 traits, .slice C cl.length c, .slice T tl.length t, .int .i64 need], .slice X x.length xc] w fun e w' => e = .returned (.bool true) ∧ Below w.heap.size w w' := by
  have b1 := (Below.refl w.heap.size w).alloc (Nat.le_refl _) (.cells #[.int .i64 traits, .slice C cl.length c, .slice T tl.length t, .int .i64 need] 29)
  have k1 := Blk.new w #[.int .i64 traits, .slice C cl.length c, .slice T tl.length t, .int .i64 need] 29
  have HGr := Lib.hid (fun W hb => great6_all traits need cl tl C T c t W (h.later hb))
  have q1 := k1.lt
  have k1c := k1.cell
  have hxm1 : IntKind.i64.wrap (x.length : Int) = (x.length : Int) := by unfold maxLen at hxm; exact IntWalk.i64_in _ (by omega)
  cases hg : mdlLeB ⟨traits, cl, C, c, tl, T, t, need⟩ with
  | false =>
    rw [hg] at HGr
    clear h hx HTW HRR HRP hg
    go_enter Tryz.func4, Tryz.ntmps4
    go_wp2_with (go_at_call 20; (with_reducible refine (HGr.out _ b1).mono ?_); rintro e w1 ⟨rfl, h1⟩)
    go_ret
    exact ⟨rfl, b1.trans (h1.mono b1.size)⟩
  | true =>
    rw [hg] at HGr
    have hls := mdlLe_of hg
    clear hg
    by_cases hx10 : x.length ≤ 10
    rotate_left
    · have hi10 : (10 : Int) < (x.length : Int) := by omega
      clear h hx HTW HRR HRP
      go_enter Tryz.func4, Tryz.ntmps4
      go_wp2_with (go_at_call 20; (with_reducible refine (HGr.out _ b1).mono ?_); rintro e w1 ⟨rfl, h1⟩)
      go_ret
      exact ⟨rfl, b1.trans (h1.mono b1.size)⟩
    have hi10 : ¬ (10 : Int) < (x.length : Int) := by omega
    have HTw := Lib.hid (fun W hb => HTW W (h.later hb) hls)
    have HbR := Lib.hid (fun W hb => HRR W (h.later hb) hls (hx.later hb) hx10)
    have Hh := Lib.hid h
    have Hx := Lib.hid hx
    have HbP := Lib.hid (fun cl1 tl1 C1 T1 c1 t1 hc ht X1 x1 W hm hx1 => HRP cl1 tl1 C1 T1 c1 t1 hc ht X1 x1 W hm hls hx1 hx10)
    have HSm := Lib.hid (fun cl1 tl1 C1 T1 c1 t1 (hc : List.map CrdD.v cl1 = cl.map CrdD.v) (ht : List.map TreD.v tl1 = tl.map TreD.v) W (hm : MdlAt W W.heap.size ⟨traits, cl1, C1, c1, tl1, T1, t1, need⟩) hm2 => same6_all traits need cl1 cl tl1 tl C1 T1 C T c1 t1 c t W hm hm2 hls hc ht)
    obtain ⟨hS1, hV1⟩ := hS hx10
    have HI1 := Lib.hid (fun A B a b W h1 h2 => sameInts_any S A B a b W h1 h2 hS1)
    have HI2 := Lib.hid (fun A B a b W h1 h2 => sameInts_any V A B a b W h1 h2 hV1)
    have HI3 := Lib.hid (fun A B a b W h1 h2 => sameInts_any x A B a b W h1 h2 (by omega))
    obtain ⟨i0, hi0, hy0, hy1, hy2⟩ := info_parts intInfo
    clear h hx HTW HRR HRP hls hS hS1 hV1
    go_enter Tryz.func4, Tryz.ntmps4
    go_upto_region 1 with fail
    generalize hW1 : w.alloc (.cells #[.int .i64 traits, .slice C cl.length c, .slice T tl.length t, .int .i64 need] 29) = W1 at *
    clear hW1
    go_upto_region 3 with (go_at_call 20; (with_reducible refine (HGr.out _ b1).mono ?_); rintro e w1 ⟨rfl, h1⟩; have b2 := b1.trans (h1.mono b1.size); have k2 := k1.below h1 q1; have k2c := k2.cell)
    clear k1c k1
    go_upto_region 4 with (first
      | (go_at_call 21; (with_reducible refine (HTw.out _ b2).mono ?_); rintro e w2 ⟨cl1, tl1, C1, c1, T1, t1, rfl, hc, ht, hm, h2⟩; have b3 := b2.trans (h2.mono b2.size); have k3 := k2.below h2 k2.lt; have HM2 := Lib.hid hm; have hE1 := own_empty w2 3 1 w2.heap.size (Nat.le_refl _); have D1 := (Below.refl w2.heap.size w2).alloc (Nat.le_refl _) (.cells #[] 3); have HX1 := Lib.hid ((Hx.out.later b3).later D1))
      | (at_builtin; refine wpList_append_src _ rfl (.tmp 22) (.tmp 23) 31 rfl w2.heap.size 3 i0 _ 1 8 Tryz.underlying31 hi0 hy0 hy1 hy2 rfl (by decide) _ 0 [] rfl hE1 _ x.length xc (x.flatMap intC) rfl (by rw [flat_len intC_len]) (fun e => by cases e; exact HX1.out.none_) (HX1.out.news intC_len (by decide)) (flat_ones intC_one x) (by unfold maxLen; omega) (by omega) (by simp) ?_; intro v1 w3 hown1 hg1 _; rw [Nat.zero_add, List.nil_append] at hown1; obtain ⟨X1, x1, rfl⟩ := own_slice hown1; have e3 : Below w2.heap.size w2 w3 := D1.grown hg1 D1.size (fun k e => (hE1.lt k e).1)))
    have b4 := b3.trans (e3.mono b3.size)
    have HX3 := Lib.hid (show IntsAt w3 w3.heap.size X1 x from Flat.of_own intC_len (by decide) hown1)
    have ba := (Below.refl w3.heap.size w3).alloc (Nat.le_refl _) (.cells #[.int .i64 traits, .slice C1 cl1.length c1, .slice T1 tl1.length t1, .int .i64 need] 29)
    have bx := b4.trans (ba.mono b4.size)
    have kx := Blk.new w3 #[.int .i64 traits, .slice C1 cl1.length c1, .slice T1 tl1.length t1, .int .i64 need] 29
    have k4 := (k3.below e3 k3.lt).alloc (.cells #[.int .i64 traits, .slice C1 cl1.length c1, .slice T1 tl1.length t1, .int .i64 need] 29)
    have HM := Lib.hid ((HM2.out.later e3).later ba)
    have HXX := Lib.hid (HX3.out.later ba)
    have Hc := Lib.hid hc
    have Ht := Lib.hid ht
    clear hc ht hm h2 b3 k3 hE1 D1 HX1 hown1 hg1 e3 b4 HX3 ba HM2 k2 k2c h1 b2
    generalize hW3 : w3.alloc (.cells #[.int .i64 traits, .slice C1 cl1.length c1, .slice T1 tl1.length t1, .int .i64 need] 29) = W3 at *
    clear hW3
    have kxc := kx.cell
    have k4c := k4.cell
    go_upto_region 5 with (go_at_call 15; (with_reducible refine (HbP.out cl1 tl1 C1 T1 c1 t1 Hc.out Ht.out X1 x1 _ HM.out HXX.out).mono ?_); rintro e w5 ⟨A1, a1, B1, bb1, rfl, hA1, hB1, h5⟩)
    have b5 := bx.trans (h5.mono bx.size)
    have kx5 := kx.below h5 kx.lt
    have k45 := k4.below h5 k4.lt
    have HM5 := Lib.hid (HM.out.later h5)
    have HX5 := Lib.hid (HXX.out.later h5)
    have HA1 := Lib.hid hA1
    have HB1 := Lib.hid hB1
    clear hA1 hB1 kx k4 kxc k4c HM HXX h5 bx
    have k45c := k45.cell
    go_upto_region 6 with (go_at_call 22; (with_reducible refine (HbR.out _ b5).mono ?_); rintro e w6 ⟨A2, a2, B2, bb2, rfl, hA2, hB2, h6⟩)
    have b6 := b5.trans (h6.mono b5.size)
    have kx6 := kx5.below h6 kx5.lt
    have k46 := k45.below h6 k45.lt
    have kx6c := kx6.cell
    have k46c := k46.cell
    have HM6 := Lib.hid (HM5.out.later h6)
    have HX6 := Lib.hid (HX5.out.later h6)
    have HA6 := Lib.hid (HA1.out.later h6)
    have HB6 := Lib.hid (HB1.out.later h6)
    have HC6 := Lib.hid hA2
    have HD6 := Lib.hid hB2
    clear hA2 hB2 kx5 k45 k45c HM5 HX5 HA1 HB1 h6 b5
    have HF := Lib.hid (HI1.out A1 A2 a1 a2 w6 HA6.out HC6.out)
    go_wp2_with (first
      | (go_at_call 16; (with_reducible refine (HF.out).mono ?_); rintro e w7 ⟨rfl, h7⟩; clear HF; have HG := Lib.hid (HI2.out B1 B2 bb1 bb2 w7 (HB6.out.later h7) (HD6.out.later h7)))
      | (go_at_call 16; (with_reducible refine (HG.out).mono ?_); rintro e w8 ⟨rfl, h8⟩; clear HG; have h68 := h7.trans (h8.mono h7.size); have b8 := b6.trans (h68.mono b6.size); have kx8 := (kx6.below h68 kx6.lt).cell; have k48 := (k46.below h68 k46.lt).cell; have HS8 := Lib.hid (HSm.out cl1 tl1 C1 T1 c1 t1 Hc.out Ht.out w8 (HM6.out.later h68) (Hh.out.later b8)))
      | (go_at_call 23; (with_reducible refine (HS8.out).mono ?_); rintro e w9 ⟨rfl, h9⟩; clear HS8; have h69 := h68.trans (h9.mono h68.size); have b9 := b6.trans (h69.mono b6.size); have HL := Lib.hid (HI3.out X1 _ x1 xc w9 (HX6.out.later h69) (Hx.out.later b9)))
      | (go_at_call 16; (with_reducible refine (HL.out).mono ?_); rintro e w10 ⟨rfl, h10⟩))
    go_ret
    exact ⟨rfl, b9.trans (h10.mono b9.size)⟩
end Go.Proofs.YtkimojiakabbcaaGreat
