/- ScoreMore: the law returns true for any model, values and numbers. Written by a program. -/
import Derived.Test.YtpahcbhikmfamaaGreatWQ3
import Derived.Test.YtpahcbhikmfamaaGreatWP4
import Derived.Deep.AppendSrc

namespace Go.Proofs.YtpahcbhikmfamaaGreat
open Go.RowKit Go.Maps

set_option maxRecDepth 100000 in
set_option maxHeartbeats 8000000 in
theorem scoreMore_any (traits need : Int) (cl : List CrdD) (tl : List TreD) (C T : Option Addr) (c t : Nat) (x : List Int) (X : Option Addr) (xc : Nat) (l : List Int) (L : Option Addr) (lc : Nat) (w : World) (h : MdlAt w w.heap.size ⟨traits, cl, C, c, tl, T, t, need⟩) (hx : IntsAt w w.heap.size X x) (hxm : x.length ≤ maxLen) (hl : U32At w w.heap.size L l) (hlm : l.length ≤ maxLen) (hlb : ∀ z ∈ l, 0 ≤ z ∧ z < 4294967296)
    (HAL : ∀ (W : World), Calls Tryz.prog 4 #[] W fun e w' => e = .returned (.bool true) ∧ Below W.heap.size W w')
    (HTW : ∀ (W : World), MdlAt W W.heap.size ⟨traits, cl, C, c, tl, T, t, need⟩ → MdlLe ⟨traits, cl, C, c, tl, T, t, need⟩ → Calls Tryz.prog 7 #[.agg #[.int .i64 traits, .slice C cl.length c, .slice T tl.length t, .int .i64 need]] W fun e w' => TwinN W traits need cl tl e w') :
    Calls Tryz.prog 3 #[.agg #[.int .i64 traits, .slice C cl.length c, .slice T tl.length t, .int .i64 need], .slice X x.length xc, .slice L l.length lc] w fun e w' => e = .returned (.bool true) ∧ Below w.heap.size w w' := by
  have b1 := (Below.refl w.heap.size w).alloc (Nat.le_refl _) (.cells #[.int .i64 traits, .slice C cl.length c, .slice T tl.length t, .int .i64 need] 25)
  have k1 := Blk.new w #[.int .i64 traits, .slice C cl.length c, .slice T tl.length t, .int .i64 need] 25
  have HRd := Lib.hid (fun W hb => ready_all traits need cl tl C T c t x X xc W (h.later hb) (hx.later hb) hxm)
  have HAl := Lib.hid HAL
  have q1 := k1.lt
  have k1c := k1.cell
  have hxm1 : IntKind.i64.wrap (x.length : Int) = (x.length : Int) := by unfold maxLen at hxm; exact IntWalk.i64_in _ (by omega)
  clear HAL
  cases hr : rdyB ⟨traits, cl, C, c, tl, T, t, need⟩ ⟨traits, cl.map CrdD.v, tl.map TreD.v, need⟩ x with
  | false =>
    rw [hr] at HRd
    clear h hx hl HTW hr
    go_enter Tryz.func3, Tryz.ntmps3
    go_wp2_with (first
      | (go_at_call 4; (with_reducible refine (HAl.out _).mono ?_); rintro e w1 ⟨rfl, h1⟩; have b2 := b1.trans (h1.mono b1.size); have k2c := (k1.below h1 q1).cell)
      | (go_at_call 5; (with_reducible refine (HRd.out _ b2).mono ?_); rintro e w2 ⟨rfl, h2⟩))
    go_ret
    exact ⟨rfl, b2.trans (h2.mono b2.size)⟩
  | true =>
    rw [hr] at HRd
    unfold rdyB at hr
    simp only [Bool.and_eq_true] at hr
    obtain ⟨hg, hM, hv⟩ := hr
    have hls := mdlLe_of hg
    have htr := (mdlB_parts hM).1
    have hnd := (mdlB_parts hM).2.1
    have hvl : (x.length : Int) = traits := by unfold valsB at hv; simp only [Bool.and_eq_true, decide_eq_true_eq] at hv; exact hv.1
    have hc2 : cl.length ≤ 2 := by have := (mdlB_parts hM).2.2.1; simpa using this
    have ht2 : tl.length ≤ 2 := by have := (mdlB_parts hM).2.2.2.1; simpa using this
    dsimp only at htr hnd
    have HM := Lib.hid hM
    have HV := Lib.hid hv
    have Hh := Lib.hid (fun W (hb : Below w.heap.size w W) => h.later hb)
    have Hx := Lib.hid (fun W (hb : Below w.heap.size w W) => hx.later hb)
    have Hl := Lib.hid (fun W (hb : Below w.heap.size w W) => hl.later hb)
    have Htw := Lib.hid (fun W (hb : Below w.heap.size w W) => HTW W (h.later hb) hls)
    have Hat := Lib.hid (fun W (hb : Below w.heap.size w W) (i : Int) h0 h1 => at6_any l L lc i W (hl.later hb) hlm h0 h1)
    have Hsc : Hid (∀ W, Below w.heap.size w W → Calls Tryz.prog 6 #[.agg #[.int .i64 traits, .slice C cl.length c, .slice T tl.length t, .int .i64 need], .slice X x.length xc] W fun e w' => e = .returned (.tuple #[.int .i64 (scoreM ⟨traits, cl.map CrdD.v, tl.map TreD.v, need⟩ x), .bool (decide (1000 * need ≤ scoreM ⟨traits, cl.map CrdD.v, tl.map TreD.v, need⟩ x)), .int .i64 0]) ∧ Below W.heap.size W w') := Lib.hid (fun W hb => score_ok (m := ⟨traits, cl, C, c, tl, T, t, need⟩) hM hv (h.later hb) (hx.later hb))
    have Hlb := Lib.hid hlb
    clear h hx hl HTW hg hM hv hls hlb
    have HSC : ∃ sn, sn = scoreM ⟨traits, cl.map CrdD.v, tl.map TreD.v, need⟩ x := ⟨_, rfl⟩
    obtain ⟨sn, hsn⟩ := HSC
    rw [← hsn] at Hsc
    obtain ⟨sy, hsy⟩ : ∃ sy, sy = decide (1000 * need ≤ sn) := ⟨_, rfl⟩
    rw [← hsy] at Hsc
    have Hsn := Lib.hid hsn
    have Hsy := Lib.hid hsy
    clear hsn hsy
    go_enter Tryz.func3, Tryz.ntmps3
    go_upto_region 6 with (first
      | (go_at_call 4; (with_reducible refine (HAl.out _).mono ?_); rintro e w1 ⟨rfl, h1⟩; have b2 := b1.trans (h1.mono b1.size); have k2 := k1.below h1 q1; have k2c := k2.cell)
      | (go_at_call 5; (with_reducible refine (HRd.out _ b2).mono ?_); rintro e w2 ⟨rfl, h2⟩; have b3 := b2.trans (h2.mono b2.size); have k3 := k2.below h2 k2.lt; have k3c := k3.cell))
    go_upto_region 7 with (go_at_call 6; (with_reducible refine (Hsc.out _ b3).mono ?_); rintro e w3 ⟨rfl, h3⟩; have b4 := b3.trans (h3.mono b3.size); have k4 := k3.below h3 k3.lt; have k4c := k4.cell)
    have HTw1 := Lib.hid (Htw.out _ b4)
    go_upto_region 8 with (go_at_call 7; (with_reducible refine (HTw1.out).mono ?_); rintro e w4 ⟨cl1, tl1, C1, c1, T1, t1, p, q, r, rfl, hc, ht, hn, h4⟩)
    have b5 := b4.trans (h4.mono b4.size)
    obtain ⟨hV1, hX5⟩ := mr_start (m := ⟨traits, cl, C, c, tl, T, t, need⟩) (m1 := ⟨traits, cl1, C1, c1, tl1, T1, t1, need⟩) HM.out rfl rfl hc ht hn b5 (k4.below h4 k4.lt)
    have Hok : Hid (mdlB (mdlV ⟨traits, cl1, C1, c1, tl1, T1, t1, need⟩) = true) := Lib.hid (by rw [hV1]; exact HM.out)
    have HV1 := Lib.hid hV1
    have hc1 : cl1.length ≤ 2 := by have := congrArg List.length hc; simp at this; omega
    have ht1 : tl1.length ≤ 2 := by have := congrArg List.length ht; simp at this; omega
    have hlo : w.heap.size < w3.heap.size + 1 + 1 := by have := b4.size; omega
    have HX5 := Lib.hid hX5
    clear hc ht hn h4 b5 b4 k4 k4c h3 b3 k3 k3c b2 k2 k2c h1 h2 b1 k1 k1c HTw1 HRd Hsc hV1 hX5 q1 HAl
    generalize hgm : w4.heap.size = gm at *
    generalize hlow : w3.heap.size + 1 + 1 = lo at *
    have HX6 : Hid (MrX w (w4.alloc (.cells #[.int .i64 traits, .slice C1 cl1.length c1, .slice T1 tl1.length t1, .int .i64 need] 25)) lo p q r gm ⟨traits, cl, C, c, tl, T, t, need⟩ ⟨traits, cl1, C1, c1, tl1, T1, t1, need⟩) := HX5
    clear HX5
    have kx5 : Blk (w4.alloc (.cells #[.int .i64 traits, .slice C1 cl1.length c1, .slice T1 tl1.length t1, .int .i64 need] 25)) gm #[.int .i64 traits, .slice C1 cl1.length c1, .slice T1 tl1.length t1, .int .i64 need] 25 := by rw [← hgm]; exact Blk.new _ _ _
    have kx5c := kx5.cell
    generalize w4.alloc (.cells #[.int .i64 traits, .slice C1 cl1.length c1, .slice T1 tl1.length t1, .int .i64 need] 25) = W5 at *
    clear hlow hgm
    go_wp2_with fail
    go_loopw [52] (fun ii wr => ∃ i : Nat, i ≤ cl1.length ∧ ii = .int .i64 i ∧ Hid (MrX w wr lo p q r gm ⟨traits, cl, C, c, tl, T, t, need⟩ ⟨traits, cl1, C1, c1, tl1, T1, t1, need⟩)) (fun ii _ => cl1.length - (vInt ii).toNat)
    case atStart => exact ⟨0, Nat.zero_le _, rfl, HX6⟩
    clear HX6 kx5 kx5c
    case round =>
      obtain ⟨i, hi, rfl, HX⟩ := hrel
      have kxc : ∀ j, wr.cell? ⟨gm, j, none⟩ = (#[.int .i64 traits, .slice C1 cl1.length c1, .slice T1 tl1.length t1, .int .i64 need] : Array Value)[j]? := HX.out.kxc
      by_cases hlt : i < cl1.length
      · as_aux_lemma =>
          have hil : (i : Int) < (cl1.length : Int) := by omega
          have hi1 := Lib.hid (show i + 1 ≤ cl1.length by omega)
          obtain ⟨g, S, s, bs, hC, c1b, c1s, f1, hbs, hst⟩ := HX.out.drew.card Hok.out hlo hvl (i := i) hlt
          obtain rfl : C1 = some ⟨g, 0, none⟩ := hC
          have c1b : wr.cell? ⟨g, i * 3 + 1, none⟩ = some (.int .i64 bs) := c1b
          have c1s : wr.cell? ⟨g, i * 3 + 2, none⟩ = some (.slice S x.length s) := c1s
          have f1 : wr.frozen? ⟨g, i * 3 + 1, none⟩ = false := f1
          have ha := atL_bd Hlb.out (i : Int)
          have HA := Lib.hid (Hat.out wr.drew HX.out.bel.drew (i : Int) (by omega) (by omega))
          generalize atL l (i : Int) = a at *
          have hbp := bump hbs.1 hbs.2 ha.1
          obtain ⟨d, hd⟩ : ∃ d, d = 1000000 - bs + 1 := ⟨_, rfl⟩
          rw [← hd] at hbp
          have hw1 : IntKind.i64.wrap a = a := IntWalk.i64_in _ (by omega)
          have hw2 : IntKind.i64.wrap (1000000 - bs) = 1000000 - bs := IntWalk.i64_in _ (by omega)
          have hw3 : IntKind.i64.wrap (1000000 - bs + 1) = d := by rw [hd]; exact IntWalk.i64_in _ (by omega)
          have hw4 : ¬ d = 0 := by omega
          have hw8 : (d == 0) = false := beq_eq_false_iff_ne.2 hw4
          have hw5 : a.tmod d = a % d := Int.tmod_eq_emod_of_nonneg ha.1
          generalize a % d = rm at *
          have hw6 : IntKind.i64.wrap rm = rm := IntWalk.i64_in _ (by omega)
          have hw7 : IntKind.i64.wrap (bs + rm) = bs + rm := IntWalk.i64_in _ (by omega)
          clear hd
          have HST := Lib.hid (hst _ hbp.1 hbp.2)
          clear hst
          go_upto_region 12 with fail
          refine wp_region_still_tail 18 (by kernel_rfl) (by kernel_rfl) ?_
          simp only [List.take_succ_cons, List.take_zero, List.drop_succ_cons, List.drop_zero]
          repeat still_step
          still_call (HA.out)
          repeat still_step
          refine wpStill_nil ?_
          change wpList _ _ _ _ _ wr.drew
          go_upto_region 13 with fail
          have HX6 : Hid (MrX w (wr.setCell ⟨g, i * 3 + 1, none⟩ (.int .i64 (bs + rm))).drew lo p q r gm ⟨traits, cl, C, c, tl, T, t, need⟩ ⟨traits, cl1, some ⟨g, 0, none⟩, c1, tl1, T1, t1, need⟩) := Lib.hid HST.out.1
          have c6 : (wr.setCell ⟨g, i * 3 + 1, none⟩ (.int .i64 (bs + rm))).drew.cell? ⟨g, i * 3 + 2, none⟩ = some (.slice S x.length s) := HST.out.2
          have kxc6 : ∀ j, (wr.setCell ⟨g, i * 3 + 1, none⟩ (.int .i64 (bs + rm))).drew.cell? ⟨gm, j, none⟩ = (#[.int .i64 traits, .slice (some ⟨g, 0, none⟩) cl1.length c1, .slice T1 tl1.length t1, .int .i64 need] : Array Value)[j]? := HX6.out.kxc
          clear HST c1b c1s f1 kxc HA
          generalize hW6 : (wr.setCell ⟨g, i * 3 + 1, none⟩ (.int .i64 (bs + rm))).drew = W6 at *
          clear hW6
          go_wp2_with fail
          go_loopw [82] (fun kk wr => ∃ k : Nat, k ≤ x.length ∧ kk = .int .i64 k ∧ Hid (MrX w wr lo p q r gm ⟨traits, cl, C, c, tl, T, t, need⟩ ⟨traits, cl1, some ⟨g, 0, none⟩, c1, tl1, T1, t1, need⟩)) (fun kk _ => x.length - (vInt kk).toNat)
          case atStart => exact ⟨0, Nat.zero_le _, rfl, HX6⟩
          clear HX6 c6 kxc6 HX hw1 hw2 hw3 hw4 hw5 hw6 hw7 hw8 ha hbp hbs
          case round =>
            obtain ⟨k, hk, rfl, HX⟩ := hrel
            by_cases hkl : k < x.length
            · as_aux_lemma =>
                have hkl2 : (k : Int) < (x.length : Int) := by omega
                have hk1 := Lib.hid (show k + 1 ≤ x.length by omega)
                obtain ⟨gs, s2, no, cS, hS, cno, f2, hno, hst⟩ := HX.out.drew.scale Hok.out hlo hvl (i := i) hlt hkl rfl
                have cS : wr.cell? ⟨g, i * 3 + 2, none⟩ = some (.slice (some ⟨gs, 0, none⟩) x.length s2) := cS
                have cno : wr.cell? ⟨gs, k * 3 + 2, none⟩ = some (.int .i64 no) := cno
                have f2 : wr.frozen? ⟨gs, k * 3 + 2, none⟩ = false := f2
                have ha := atL_bd Hlb.out ((i : Int) + (k : Int))
                have HA := Lib.hid (Hat.out wr.drew HX.out.bel.drew ((i : Int) + (k : Int)) (by omega) (by omega))
                have hw0 : IntKind.i64.wrap ((i : Int) + (k : Int)) = (i : Int) + (k : Int) := IntWalk.i64_in _ (by omega)
                generalize atL l ((i : Int) + (k : Int)) = a at *
                have hbp := bump hno.1 hno.2 ha.1
                obtain ⟨d, hd⟩ : ∃ d, d = 1000000 - no + 1 := ⟨_, rfl⟩
                rw [← hd] at hbp
                have hw1 : IntKind.i64.wrap a = a := IntWalk.i64_in _ (by omega)
                have hw2 : IntKind.i64.wrap (1000000 - no) = 1000000 - no := IntWalk.i64_in _ (by omega)
                have hw3 : IntKind.i64.wrap (1000000 - no + 1) = d := by rw [hd]; exact IntWalk.i64_in _ (by omega)
                have hw4 : ¬ d = 0 := by omega
                have hw8 : (d == 0) = false := beq_eq_false_iff_ne.2 hw4
                have hw5 : a.tmod d = a % d := Int.tmod_eq_emod_of_nonneg ha.1
                generalize a % d = rm at *
                have hw6 : IntKind.i64.wrap rm = rm := IntWalk.i64_in _ (by omega)
                have hw7 : IntKind.i64.wrap (no + rm) = no + rm := IntWalk.i64_in _ (by omega)
                clear hd
                have HST := Lib.hid (hst _ hbp.1 hbp.2)
                have HS := Lib.hid hS
                clear hst hS
                go_upto_region 17 with fail
                refine wp_region_still_tail 20 (by kernel_rfl) (by kernel_rfl) ?_
                simp only [List.take_succ_cons, List.take_zero, List.drop_succ_cons, List.drop_zero]
                repeat still_step
                still_call (HA.out)
                repeat still_step
                refine wpStill_nil ?_
                change wpList _ _ _ _ _ wr.drew
                go_upto_region 18 with fail
                have HST : Hid (MrX w (wr.setCell ⟨gs, k * 3 + 2, none⟩ (.int .i64 (no + rm))).drew lo p q r gm ⟨traits, cl, C, c, tl, T, t, need⟩ ⟨traits, cl1, some ⟨g, 0, none⟩, c1, tl1, T1, t1, need⟩) := HST
                obtain ⟨B, b, cp⟩ := HST.out.points Hok.out hvl (i := i) hlt hkl HS.out
                have hnp := npM_le (m1 := ⟨traits, cl1, some ⟨g, 0, none⟩, c1, tl1, T1, t1, need⟩) Hok.out hvl (i := i) hlt hkl
                have HJ := Lib.hid (fun W (h : MrX w W lo p q r gm ⟨traits, cl, C, c, tl, T, t, need⟩ ⟨traits, cl1, some ⟨g, 0, none⟩, c1, tl1, T1, t1, need⟩) (j : Nat) (hj : j < npM ⟨traits, cl1, some ⟨g, 0, none⟩, c1, tl1, T1, t1, need⟩ i k) => h.point Hok.out hlo hvl hlt hkl HS.out hj)
                generalize npM ⟨traits, cl1, some ⟨g, 0, none⟩, c1, tl1, T1, t1, need⟩ i k = np at *
                have HX7 := Lib.hid HST.out
                clear HST cS cno f2 HA
                generalize hW7 : (wr.setCell ⟨gs, k * 3 + 2, none⟩ (.int .i64 (no + rm))).drew = W7 at *
                clear hW7
                go_wp2_with fail
                go_loopw [116] (fun jj wr => ∃ j : Nat, j ≤ np ∧ jj = .int .i64 j ∧ Hid (MrX w wr lo p q r gm ⟨traits, cl, C, c, tl, T, t, need⟩ ⟨traits, cl1, some ⟨g, 0, none⟩, c1, tl1, T1, t1, need⟩)) (fun jj _ => np - (vInt jj).toNat)
                case atStart => exact ⟨0, Nat.zero_le _, rfl, HX7⟩
                clear HX7 cp HX hw1 hw2 hw3 hw4 hw5 hw6 hw7 hw8 ha hbp hno hw0
                case round =>
                  obtain ⟨j, hj, rfl, HX⟩ := hrel
                  by_cases hjl : j < np
                  · as_aux_lemma =>
                      have hjl2 : (j : Int) < (np : Int) := by omega
                      have hj1 := Lib.hid (show j + 1 ≤ np by omega)
                      obtain ⟨gb, b2, pt, cb, cpt, f3, hpt, hst⟩ := HJ.out _ HX.out.drew j hjl
                      have cb : wr.cell? ⟨gs, k * 3 + 1, none⟩ = some (.slice (some ⟨gb, 0, none⟩) np b2) := cb
                      have cpt : wr.cell? ⟨gb, j, none⟩ = some (.int .i64 pt) := cpt
                      have f3 : wr.frozen? ⟨gb, j, none⟩ = false := f3
                      have ha := atL_bd Hlb.out ((i : Int) + (k : Int) + (j : Int))
                      have HA := Lib.hid (Hat.out wr.drew HX.out.bel.drew ((i : Int) + (k : Int) + (j : Int)) (by omega) (by omega))
                      have hw0 : IntKind.i64.wrap ((i : Int) + (k : Int)) = (i : Int) + (k : Int) := IntWalk.i64_in _ (by omega)
                      have hw9 : IntKind.i64.wrap ((i : Int) + (k : Int) + (j : Int)) = (i : Int) + (k : Int) + (j : Int) := IntWalk.i64_in _ (by omega)
                      generalize atL l ((i : Int) + (k : Int) + (j : Int)) = a at *
                      have hbp := bump hpt.1 hpt.2 ha.1
                      obtain ⟨d, hd⟩ : ∃ d, d = 1000000 - pt + 1 := ⟨_, rfl⟩
                      rw [← hd] at hbp
                      have hw1 : IntKind.i64.wrap a = a := IntWalk.i64_in _ (by omega)
                      have hw2 : IntKind.i64.wrap (1000000 - pt) = 1000000 - pt := IntWalk.i64_in _ (by omega)
                      have hw3 : IntKind.i64.wrap (1000000 - pt + 1) = d := by rw [hd]; exact IntWalk.i64_in _ (by omega)
                      have hw4 : ¬ d = 0 := by omega
                      have hw8 : (d == 0) = false := beq_eq_false_iff_ne.2 hw4
                      have hw5 : a.tmod d = a % d := Int.tmod_eq_emod_of_nonneg ha.1
                      generalize a % d = rm at *
                      have hw6 : IntKind.i64.wrap rm = rm := IntWalk.i64_in _ (by omega)
                      have hw7 : IntKind.i64.wrap (pt + rm) = pt + rm := IntWalk.i64_in _ (by omega)
                      clear hd
                      have HST := Lib.hid (hst _ hbp.1 hbp.2)
                      clear hst
                      go_upto_region 21 with fail
                      refine wp_region_still_tail 27 (by kernel_rfl) (by kernel_rfl) ?_
                      simp only [List.take_succ_cons, List.take_zero, List.drop_succ_cons, List.drop_zero]
                      repeat still_step
                      still_call (HA.out)
                      repeat still_step
                      refine wpStill_nil ?_
                      change wpList _ _ _ _ _ wr.drew
                      go_upto_region 22 with fail
                      have HX8 : Hid (MrX w (wr.setCell ⟨gb, j, none⟩ (.int .i64 (pt + rm))).drew lo p q r gm ⟨traits, cl, C, c, tl, T, t, need⟩ ⟨traits, cl1, some ⟨g, 0, none⟩, c1, tl1, T1, t1, need⟩) := HST
                      clear HST cb cpt f3 HA
                      generalize hW8 : (wr.setCell ⟨gb, j, none⟩ (.int .i64 (pt + rm))).drew = W8 at *
                      clear hW8
                      go_wp2_with fail
                      go_roundw
                      case rel => exact ⟨j + 1, hj1.out, by go_num, HX8⟩
                      case measure => have h9 := hj1.out; simp [vInt]; omega
                  · have hjl2 : ¬ (j : Int) < (np : Int) := by omega
                    go_wp2_with fail
                    go_roundw
                    case rel => exact ⟨k + 1, hk1.out, by go_num, HX⟩
                    case measure => have h9 := hk1.out; simp [vInt]; omega
            · have hkl2 : ¬ (k : Int) < (x.length : Int) := by omega
              go_wp2_with fail
              go_roundw
              case rel => exact ⟨i + 1, hi1.out, by go_num, HX⟩
              case measure => have h9 := hi1.out; simp [vInt]; omega
      · have hil : ¬ (i : Int) < (cl1.length : Int) := by omega
        go_wp2_with fail
        go_loopw [152] (fun ii wr => ∃ i : Nat, i ≤ tl1.length ∧ ii = .int .i64 i ∧ Hid (MrX w wr lo p q r gm ⟨traits, cl, C, c, tl, T, t, need⟩ ⟨traits, cl1, C1, c1, tl1, T1, t1, need⟩)) (fun ii _ => tl1.length - (vInt ii).toNat)
        case atStart => exact ⟨0, Nat.zero_le _, rfl, HX⟩
        clear HX kxc
        case round =>
          obtain ⟨i, hi, rfl, HX⟩ := hrel
          have kxc : ∀ j, wr.cell? ⟨gm, j, none⟩ = (#[.int .i64 traits, .slice C1 cl1.length c1, .slice T1 tl1.length t1, .int .i64 need] : Array Value)[j]? := HX.out.kxc
          by_cases hlt : i < tl1.length
          · as_aux_lemma =>
              have hil : (i : Int) < (tl1.length : Int) := by omega
              have hi1 := Lib.hid (show i + 1 ≤ tl1.length by omega)
              obtain ⟨g, T', s, hT, cT⟩ := HX.out.tree (i := i) hlt
              obtain rfl : T1 = some ⟨g, 0, none⟩ := hT
              have hnn := nnM_le (m1 := ⟨traits, cl1, C1, c1, tl1, some ⟨g, 0, none⟩, t1, need⟩) Hok.out (i := i) hlt
              have HJ := Lib.hid (fun W (h : MrX w W lo p q r gm ⟨traits, cl, C, c, tl, T, t, need⟩ ⟨traits, cl1, C1, c1, tl1, some ⟨g, 0, none⟩, t1, need⟩) (k : Nat) (hk : k < nnM ⟨traits, cl1, C1, c1, tl1, some ⟨g, 0, none⟩, t1, need⟩ i) => h.node Hok.out hlo hlt hk rfl)
              generalize nnM ⟨traits, cl1, C1, c1, tl1, some ⟨g, 0, none⟩, t1, need⟩ i = nn at *
              go_wp2_with fail
              go_loopw [162] (fun kk wr => ∃ k : Nat, k ≤ nn ∧ kk = .int .i64 k ∧ Hid (MrX w wr lo p q r gm ⟨traits, cl, C, c, tl, T, t, need⟩ ⟨traits, cl1, C1, c1, tl1, some ⟨g, 0, none⟩, t1, need⟩)) (fun kk _ => nn - (vInt kk).toNat)
              case atStart => exact ⟨0, Nat.zero_le _, rfl, HX⟩
              clear HX kxc cT
              case round =>
                obtain ⟨k, hk, rfl, HX⟩ := hrel
                have kxc : ∀ j, wr.cell? ⟨gm, j, none⟩ = (#[.int .i64 traits, .slice C1 cl1.length c1, .slice (some ⟨g, 0, none⟩) tl1.length t1, .int .i64 need] : Array Value)[j]? := HX.out.kxc
                by_cases hkl : k < nn
                · as_aux_lemma =>
                    have hkl2 : (k : Int) < (nn : Int) := by omega
                    have hk1 := Lib.hid (show k + 1 ≤ nn by omega)
                    obtain ⟨gt, s2, tr, pt, cT, ctr, cpt, f3, hst⟩ := HJ.out _ HX.out.drew k hkl
                    have cT : wr.cell? ⟨g, i * 2 + 1, none⟩ = some (.slice (some ⟨gt, 0, none⟩) nn s2) := cT
                    have ctr : wr.cell? ⟨gt, k * 5, none⟩ = some (.int .i64 tr) := ctr
                    have cpt : wr.cell? ⟨gt, k * 5 + 4, none⟩ = some (.int .i64 pt) := cpt
                    have f3 : wr.frozen? ⟨gt, k * 5 + 4, none⟩ = false := f3
                    by_cases htr1 : tr = -1
                    · subst htr1
                      obtain ⟨hpt, hst⟩ := hst rfl
                      have ha := atL_bd Hlb.out ((i : Int) + (k : Int) + 7)
                      have HA := Lib.hid (Hat.out wr.drew HX.out.bel.drew ((i : Int) + (k : Int) + 7) (by omega) (by omega))
                      have hw0 : IntKind.i64.wrap ((i : Int) + (k : Int)) = (i : Int) + (k : Int) := IntWalk.i64_in _ (by omega)
                      have hw9 : IntKind.i64.wrap ((i : Int) + (k : Int) + 7) = (i : Int) + (k : Int) + 7 := IntWalk.i64_in _ (by omega)
                      generalize atL l ((i : Int) + (k : Int) + 7) = a at *
                      have hbp := bump hpt.1 hpt.2 ha.1
                      obtain ⟨d, hd⟩ : ∃ d, d = 1000000 - pt + 1 := ⟨_, rfl⟩
                      rw [← hd] at hbp
                      have hw1 : IntKind.i64.wrap a = a := IntWalk.i64_in _ (by omega)
                      have hw2 : IntKind.i64.wrap (1000000 - pt) = 1000000 - pt := IntWalk.i64_in _ (by omega)
                      have hw3 : IntKind.i64.wrap (1000000 - pt + 1) = d := by rw [hd]; exact IntWalk.i64_in _ (by omega)
                      have hw4 : ¬ d = 0 := by omega
                      have hw8 : (d == 0) = false := beq_eq_false_iff_ne.2 hw4
                      have hw5 : a.tmod d = a % d := Int.tmod_eq_emod_of_nonneg ha.1
                      generalize a % d = rm at *
                      have hw6 : IntKind.i64.wrap rm = rm := IntWalk.i64_in _ (by omega)
                      have hw7 : IntKind.i64.wrap (pt + rm) = pt + rm := IntWalk.i64_in _ (by omega)
                      clear hd
                      have HST := Lib.hid (hst _ hbp.1 hbp.2)
                      clear hst
                      go_upto_region 33 with fail
                      refine wp_region_still_tail 21 (by kernel_rfl) (by kernel_rfl) ?_
                      simp only [List.take_succ_cons, List.take_zero, List.drop_succ_cons, List.drop_zero]
                      repeat still_step
                      still_call (HA.out)
                      repeat still_step
                      refine wpStill_nil ?_
                      change wpList _ _ _ _ _ wr.drew
                      go_upto_region 34 with fail
                      have HX8 : Hid (MrX w (wr.setCell ⟨gt, k * 5 + 4, none⟩ (.int .i64 (pt + rm))).drew lo p q r gm ⟨traits, cl, C, c, tl, T, t, need⟩ ⟨traits, cl1, C1, c1, tl1, some ⟨g, 0, none⟩, t1, need⟩) := HST
                      clear HST cT ctr cpt f3 HA kxc
                      generalize hW8 : (wr.setCell ⟨gt, k * 5 + 4, none⟩ (.int .i64 (pt + rm))).drew = W8 at *
                      clear hW8
                      go_wp2_with fail
                      go_roundw
                      case rel => exact ⟨k + 1, hk1.out, by go_num, HX8⟩
                      case measure => have h9 := hk1.out; simp [vInt]; omega
                    · have htr2 : (tr == (-1 : Int)) = false := beq_eq_false_iff_ne.2 htr1
                      clear hst
                      go_wp2_with fail
                      go_roundw
                      case rel => exact ⟨k + 1, hk1.out, by go_num, HX⟩
                      case measure => have h9 := hk1.out; simp [vInt]; omega
                · have hkl2 : ¬ (k : Int) < (nn : Int) := by omega
                  go_wp2_with fail
                  go_roundw
                  case rel => exact ⟨i + 1, hi1.out, by go_num, HX⟩
                  case measure => have h9 := hi1.out; simp [vInt]; omega
          · have hil : ¬ (i : Int) < (tl1.length : Int) := by omega
            have hsV : scoreM (mdlV ⟨traits, cl1, C1, c1, tl1, T1, t1, need⟩) x = sn := by rw [HV1.out, Hsn.out]; rfl
            obtain ⟨sa, hsa, hsc⟩ := HX.out.score (x := x) Hok.out HV.out
            rw [hsV] at hsa
            obtain ⟨sg, hsg⟩ : ∃ sg, sg = decide (1000 * need ≤ sa) := ⟨_, rfl⟩
            have HSA : Hid (∀ W, Below wr.heap.size wr W → Calls Tryz.prog 6 #[.agg #[.int .i64 traits, .slice C1 cl1.length c1, .slice T1 tl1.length t1, .int .i64 need], .slice X x.length xc] W fun e w' => e = .returned (.tuple #[.int .i64 sa, .bool sg, .int .i64 0]) ∧ Below W.heap.size W w') := Lib.hid fun W hb => by rw [hsg]; exact hsc W X xc hb (Hx.out W (HX.out.bel.trans (hb.mono HX.out.bel.size)))
            have hyg : sy = true → sg = true := by rw [hsg, Hsy.out, decide_eq_true_iff, decide_eq_true_iff]; omega
            have b1 := HX.out.bel
            have km : Blk wr w.heap.size #[.int .i64 traits, .slice C cl.length c, .slice T tl.length t, .int .i64 need] 25 := HX.out.km
            have kmc := km.cell
            have hgl : gm < wr.heap.size := HX.out.gl
            have HTw2 := Lib.hid (Htw.out _ b1)
            have kx : Blk wr gm #[.int .i64 traits, .slice C1 cl1.length c1, .slice T1 tl1.length t1, .int .i64 need] 25 := HX.out.kx_
            clear hsV hsg hsc HX Hok HV1 kxc hil hi hlo hc1 ht1
            go_upto_region 37 with (go_at_call 7; (with_reducible refine (HTw2.out).mono ?_); rintro e w4 ⟨cl2, tl2, C2, c2, T2, t2, p2, q2, r2, rfl, hc, ht, hn, h4⟩)
            have b2 := b1.trans (h4.mono b1.size)
            have ba := (Below.refl w4.heap.size w4).alloc (Nat.le_refl _) (.cells #[.int .i64 traits, .slice C2 cl2.length c2, .slice T2 tl2.length t2, .int .i64 need] 25)
            have hV2 := mdlV_eq (m := ⟨traits, cl, C, c, tl, T, t, need⟩) (m1 := ⟨traits, cl2, C2, c2, tl2, T2, t2, need⟩) rfl rfl hc ht
            have HMf : Hid (∀ W, Below w4.heap.size (w4.alloc (.cells #[.int .i64 traits, .slice C2 cl2.length c2, .slice T2 tl2.length t2, .int .i64 need] 25)) W → MdlAt W W.heap.size ⟨traits, cl2, C2, c2, tl2, T2, t2, need⟩) := Lib.hid fun W hb => hn.at_.later (ba.trans hb)
            have k4 := (km.below h4 km.lt).below ba (by have := h4.size; have := km.lt; omega)
            have kx4 := (kx.below h4 kx.lt).below ba (by have := h4.size; have := kx.lt; omega)
            have kh4 := Blk.new w4 #[.int .i64 traits, .slice C2 cl2.length c2, .slice T2 tl2.length t2, .int .i64 need] 25
            have hgh : w4.heap.size < (w4.alloc (.cells #[.int .i64 traits, .slice C2 cl2.length c2, .slice T2 tl2.length t2, .int .i64 need] 25)).heap.size := by simp
            have HSA2 : Hid (Below wr.heap.size wr (w4.alloc (.cells #[.int .i64 traits, .slice C2 cl2.length c2, .slice T2 tl2.length t2, .int .i64 need] 25))) := Lib.hid (h4.trans (ba.mono h4.size))
            have b3 := b2.trans (ba.mono b2.size)
            have hne : gm ≠ w4.heap.size := by have := h4.size; omega
            have hne2 : w.heap.size ≠ w4.heap.size := by have := km.lt; have := h4.size; omega
            have hgr : wr.heap.size ≤ w4.heap.size := h4.size
            clear hc ht hn h4 ba b2 HTw2 kmc
            generalize hgh2 : w4.heap.size = gh at *
            generalize w4.alloc (.cells #[.int .i64 traits, .slice C2 cl2.length c2, .slice T2 tl2.length t2, .int .i64 need] 25) = W5 at *
            clear hgh2
            have k4c := k4.cell
            have kh4c := kh4.cell
            have f3 := kh4.free 3
            have ha := atL_bd Hlb.out 3
            have HA := Lib.hid (Hat.out W5.drew b3.drew 3 (by omega) (by omega))
            generalize atL l 3 = a at *
            have hbp := bump hnd.1 hnd.2 ha.1
            obtain ⟨d, hd⟩ : ∃ d, d = 1000000 - need + 1 := ⟨_, rfl⟩
            rw [← hd] at hbp
            have hw1 : IntKind.i64.wrap a = a := IntWalk.i64_in _ (by omega)
            have hw2 : IntKind.i64.wrap (1000000 - need) = 1000000 - need := IntWalk.i64_in _ (by omega)
            have hw3 : IntKind.i64.wrap (1000000 - need + 1) = d := by rw [hd]; exact IntWalk.i64_in _ (by omega)
            have hw4 : ¬ d = 0 := by omega
            have hw8 : (d == 0) = false := beq_eq_false_iff_ne.2 hw4
            have hw5 : a.tmod d = a % d := Int.tmod_eq_emod_of_nonneg ha.1
            generalize a % d = rm at *
            have hw6 : IntKind.i64.wrap rm = rm := IntWalk.i64_in _ (by omega)
            have hw7 : IntKind.i64.wrap (need + rm) = need + rm := IntWalk.i64_in _ (by omega)
            clear hd
            refine wp_region_still_tail 12 (by kernel_rfl) (by kernel_rfl) ?_
            simp only [List.take_succ_cons, List.take_zero, List.drop_succ_cons, List.drop_zero]
            repeat still_step
            still_call (HA.out)
            repeat still_step
            refine wpStill_nil ?_
            change wpList _ _ _ _ _ W5.drew
            go_upto_region 38 with fail
            generalize hnh : need + rm = nh at *
            have b6 : Below w.heap.size w (W5.setCell ⟨gh, 3, none⟩ (.int .i64 nh)).drew := (b3.setCell (p := ⟨gh, 3, none⟩) (by show w.heap.size ≤ gh; have := km.lt; omega) _).drew
            have h56 : Below gh W5 (W5.setCell ⟨gh, 3, none⟩ (.int .i64 nh)).drew := ((Below.refl _ _).setCell (p := ⟨gh, 3, none⟩) (Nat.le_refl _) _).drew
            have km6 : Blk (W5.setCell ⟨gh, 3, none⟩ (.int .i64 nh)).drew w.heap.size #[.int .i64 traits, .slice C cl.length c, .slice T tl.length t, .int .i64 need] 25 := (k4.far (p := ⟨gh, 3, none⟩) hne2 _).drew
            have kx6 : Blk (W5.setCell ⟨gh, 3, none⟩ (.int .i64 nh)).drew gm #[.int .i64 traits, .slice C1 cl1.length c1, .slice T1 tl1.length t1, .int .i64 need] 25 := (kx4.far (p := ⟨gh, 3, none⟩) hne _).drew
            have kh6 : Blk (W5.setCell ⟨gh, 3, none⟩ (.int .i64 nh)).drew gh #[.int .i64 traits, .slice C2 cl2.length c2, .slice T2 tl2.length t2, .int .i64 nh] 25 := (by simpa using kh4.set 3 (.int .i64 nh) : Blk (W5.setCell ⟨gh, 3, none⟩ (.int .i64 nh)) gh #[.int .i64 traits, .slice C2 cl2.length c2, .slice T2 tl2.length t2, .int .i64 nh] 25).drew
            have hsz6 : (W5.setCell ⟨gh, 3, none⟩ (.int .i64 nh)).drew.heap.size = W5.heap.size := by simp
            have hA6 : Below wr.heap.size wr (W5.setCell ⟨gh, 3, none⟩ (.int .i64 nh)).drew := (HSA2.out.setCell (p := ⟨gh, 3, none⟩) hgr _).drew
            have HSA6 : Hid (∀ W, Below (W5.setCell ⟨gh, 3, none⟩ (.int .i64 nh)).drew.heap.size (W5.setCell ⟨gh, 3, none⟩ (.int .i64 nh)).drew W → Calls Tryz.prog 6 #[.agg #[.int .i64 traits, .slice C1 cl1.length c1, .slice T1 tl1.length t1, .int .i64 need], .slice X x.length xc] W fun e w' => e = .returned (.tuple #[.int .i64 sa, .bool sg, .int .i64 0]) ∧ Below W.heap.size W w') := Lib.hid fun W hb => HSA.out W (hA6.trans (hb.mono hA6.size))
            obtain ⟨sh, hsh⟩ : ∃ sh, sh = decide (1000 * nh ≤ sn) := ⟨_, rfl⟩
            have hhy : sh = true → sy = true := by rw [hsh, Hsy.out, decide_eq_true_iff, decide_eq_true_iff]; omega
            have hghl : gh ≤ (W5.setCell ⟨gh, 3, none⟩ (.int .i64 nh)).drew.heap.size := by rw [hsz6]; omega
            have HSH6 : Hid (∀ W, Below (W5.setCell ⟨gh, 3, none⟩ (.int .i64 nh)).drew.heap.size (W5.setCell ⟨gh, 3, none⟩ (.int .i64 nh)).drew W → Calls Tryz.prog 6 #[.agg #[.int .i64 traits, .slice C2 cl2.length c2, .slice T2 tl2.length t2, .int .i64 nh], .slice X x.length xc] W fun e w' => e = .returned (.tuple #[.int .i64 sn, .bool sh, .int .i64 0]) ∧ Below W.heap.size W w') := Lib.hid fun W hb => by
              have h1 := high_ok (m := ⟨traits, cl, C, c, tl, T, t, need⟩) (m2 := ⟨traits, cl2, C2, c2, tl2, T2, t2, need⟩) (X := X) (xc := xc) (n := nh) HM.out hV2 HV.out (HMf.out W (h56.trans (hb.mono hghl))) (Hx.out W (b6.trans (hb.mono b6.size))) ⟨by omega, hbp.2⟩
              rw [hsh, Hsn.out]
              exact h1
            have hgm6 := kx6.lt
            have hgh6 := kh6.lt
            have hkm6 := km6.lt
            clear hA6 hsh HMf h56 hbp hsz6 hghl hV2 HSA HSA2 hgr hne hne2 kh4 kh4c kx4 k4 k4c b3 f3 HA hw1 hw2 hw3 hw4 hw8 hw5 hw6 hw7 ha kx km b1 hgl hnh
            generalize (W5.setCell ⟨gh, 3, none⟩ (.int .i64 nh)).drew = W6 at *
            have HTw3 := Lib.hid (Htw.out W6 b6)
            have km6c := km6.cell
            go_upto_region 39 with (go_at_call 7; (with_reducible refine (HTw3.out).mono ?_); rintro e w7 ⟨cl3, tl3, C3, c3, T3, t3, p3, q3, r3, rfl, hc, ht, hn, h7⟩)
            have ba := (Below.refl w7.heap.size w7).alloc (Nat.le_refl _) (.cells #[.int .i64 traits, .slice C3 cl3.length c3, .slice T3 tl3.length t3, .int .i64 need] 25)
            have hV3 : Hid (mdlV ⟨traits, cl3, C3, c3, tl3, T3, t3, need⟩ = mdlV ⟨traits, cl, C, c, tl, T, t, need⟩) := Lib.hid (mdlV_eq (m := ⟨traits, cl, C, c, tl, T, t, need⟩) (m1 := ⟨traits, cl3, C3, c3, tl3, T3, t3, need⟩) rfl rfl hc ht)
            have hc3 : cl3.length ≤ 2 := by have := congrArg List.length hc; simp at this; omega
            have ht3 : tl3.length ≤ 2 := by have := congrArg List.length ht; simp at this; omega
            have HN := Lib.hid (hn.fr (Fr.below (P := fun _ => True) ba) (fun _ _ _ => trivial))
            have b8 : Below W6.heap.size W6 (w7.alloc (.cells #[.int .i64 traits, .slice C3 cl3.length c3, .slice T3 tl3.length t3, .int .i64 need] 25)) := h7.trans (ba.mono h7.size)
            have ki := Blk.new w7 #[.int .i64 traits, .slice C3 cl3.length c3, .slice T3 tl3.length t3, .int .i64 need] 25
            have hgi0 : W6.heap.size ≤ w7.heap.size := h7.size
            have HB6 := Lib.hid b6
            clear hc ht hn h7 ba HTw3 km6c b6
            generalize hgi2 : w7.heap.size = gi at *
            generalize w7.alloc (.cells #[.int .i64 traits, .slice C3 cl3.length c3, .slice T3 tl3.length t3, .int .i64 need] 25) = W8 at *
            clear hgi2
            obtain ⟨lo3, hlo3⟩ : ∃ z, z = W6.heap.size + 1 + 1 := ⟨_, rfl⟩
            rw [← hlo3] at HN
            have hB3 : W6.heap.size < lo3 := by omega
            clear hlo3
            have hgi := ki.lt
            have kic := ki.cell
            have f2 := ki.free 2
            have hlp := HN.out.pq
            obtain ⟨i5, hi5, hr0, hr1, hr2⟩ := info_parts treeInfo
            by_cases hlt : tl3.length < 2
            · have hil : (tl3.length : Int) < 2 := by omega
              have x0 := (Below.refl W8.heap.size W8).alloc (Nat.le_refl _) (.cells #[.int .i64 (-1), .int .i64 0, .int .i64 0, .int .i64 0, .int .i64 77] 48)
              have x1 := x0.alloc x0.size (.cells #[.int .i64 0, .slice (some ⟨W8.heap.size, 0, none⟩) 1 1] 45)
              have kn := (Blk.new W8 #[.int .i64 (-1), .int .i64 0, .int .i64 0, .int .i64 0, .int .i64 77] 48).alloc (.cells #[.int .i64 0, .slice (some ⟨W8.heap.size, 0, none⟩) 1 1] 45)
              have kt := newAt' (W8.alloc (.cells #[.int .i64 (-1), .int .i64 0, .int .i64 0, .int .i64 0, .int .i64 77] 48)) #[.int .i64 0, .slice (some ⟨W8.heap.size, 0, none⟩) 1 1] 45 (g := W8.heap.size + 1) (by simp)
              have hown := own_below HN.out.trees.own x1
              have kix := ki.below x1 ki.lt
              have hnr : some gi ≠ (Value.slice T3 tl3.length t3).ownBlock := fun e => by have := HN.out.trees.lt _ e.symm; omega
              have hnc : ∀ b, (Value.slice T3 tl3.length t3).ownBlock = some b → W6.heap.size ≤ b := fun b hb => by have := (HN.out.trees.own.lt b hb).1; omega
              go_upto_region 41 with (at_builtin; refine wpList_append_src _ rfl (.tmp 222) (.tmp 226) 23 rfl q3 45 i5 _ 2 32 Tryz.underlying23 hi5 hr0 hr1 hr2 rfl (by decide) _ tl3.length (tl3.flatMap treC) rfl hown (some ⟨W8.heap.size + 1, 0, none⟩) 1 1 (treC (idleD W8.heap.size)) rfl rfl (fun e => by cases e) (news_blk kt) (treC_one _) (by unfold maxLen; omega) (by omega) (by simp; omega) ?_; intro v1 w9 hown9 hg9 ho9; obtain ⟨T4, t4, rfl⟩ := own_slice hown9; have ki9 := kix.grown hg9 hnr; have ki9c := ki9.cell; have ki9f := ki9.free 2)
              have hI := id_tree (v := .slice T4 (tl3.length + 1) t4) HN.out hgi x1 (Nat.le_refl _) kn hown9 hg9 ho9
              have kiz : Blk (w9.setCell ⟨gi, 2, none⟩ (.slice T4 (tl3.length + 1) t4)) gi #[.int .i64 traits, .slice C3 cl3.length c3, .slice T4 (tl3.length + 1) t4, .int .i64 need] 25 := mod4_put2' ki9
              have bz : Below W6.heap.size W6 (w9.setCell ⟨gi, 2, none⟩ (.slice T4 (tl3.length + 1) t4)) := ((b8.trans (x1.mono b8.size)).grown hg9 (Nat.le_trans b8.size x1.size) hnc).setCell (p := ⟨gi, 2, none⟩) hgi0 _
              have hV := idle_t (traits := traits) (need := need) (cl := cl3) (tl := tl3) (by have h9 := HM.out; rw [show (⟨traits, cl.map CrdD.v, tl.map TreD.v, need⟩ : Mdl) = mdlV ⟨traits, cl, C, c, tl, T, t, need⟩ from rfl, ← hV3.out] at h9; exact h9) hlt W8.heap.size
              have HVx : Hid (mdlB ⟨traits, cl3.map CrdD.v, (tl3 ++ [idleD W8.heap.size]).map TreD.v, need⟩ = true ∧ scoreM ⟨traits, cl3.map CrdD.v, (tl3 ++ [idleD W8.heap.size]).map TreD.v, need⟩ x = sn) := Lib.hid ⟨hV.1, (hV.2 x).trans (by rw [Hsn.out]; exact congrArg (fun v => scoreM v x) hV3.out)⟩
              have HI := Lib.hid hI
              have kiy : Blk (w9.setCell ⟨gi, 2, none⟩ (.slice T4 (tl3.length + 1) t4)) gi #[.int .i64 traits, .slice C3 cl3.length c3, .slice T4 (tl3 ++ [idleD W8.heap.size]).length t4, .int .i64 need] 25 := by rw [List.length_append]; exact kiz
              clear hV hI kiz hown9 hg9 ho9 ki9 ki9c ki9f kix hown kt kn x1 x0 hnr hnc HN ki kic f2 b8
              have bt := bz
              clear bz
              generalize w9.setCell ⟨gi, 2, none⟩ (.slice T4 (tl3.length + 1) t4) = Wt at *
              generalize tl3 ++ [idleD W8.heap.size] = tlx at *
              have kit := kiy
              clear kiy
              obtain ⟨Tx, hTx⟩ : ∃ z, z = T4 := ⟨_, rfl⟩
              obtain ⟨tx, htx⟩ : ∃ z, z = t4 := ⟨_, rfl⟩
              rw [← hTx] at HI kit
              rw [← htx] at kit
              clear hTx htx
              have kmt := km6.below bt hkm6
              have kitc := kit.cell
              have hgt := kit.lt
              by_cases hcl : cl3.length < 2
              · have hcl2 : (cl3.length : Int) < 2 := by omega
                have bn := bt.alloc bt.size (.cells #[.int .i64 0, .int .i64 (-5), .slice none 0 0] 37)
                have ba := (Below.refl Wt.heap.size Wt).alloc (Nat.le_refl _) (.cells #[.int .i64 0, .int .i64 (-5), .slice none 0 0] 37)
                have kc := Blk.new Wt #[.int .i64 0, .int .i64 (-5), .slice none 0 0] 37
                have kma := (kmt.alloc (.cells #[.int .i64 0, .int .i64 (-5), .slice none 0 0] 37)).cell
                have HL0 : Hid (∃ S s sl, IdL (Wt.heap.size + 1) Wt.heap.size Wt (Wt.alloc (.cells #[.int .i64 0, .int .i64 (-5), .slice none 0 0] 37)) 0 S s sl) := Lib.hid ⟨none, 0, [], rfl, World.ownsRow_nil _ _ _ _, (fun y hy => by cases hy), kc, ba⟩
                go_wp2_with fail
                go_loopw [236] (fun kk wr => ∃ k : Nat, k ≤ x.length ∧ kk = .int .i64 k ∧ Hid (∃ S s sl, IdL (Wt.heap.size + 1) Wt.heap.size Wt wr k S s sl)) (fun kk _ => x.length - (vInt kk).toNat)
                case atStart => exact ⟨0, Nat.zero_le _, rfl, HL0⟩
                clear HL0 kma bn ba kc
                case round =>
                  obtain ⟨k, hk, rfl, HL⟩ := hrel
                  obtain ⟨S, s, sl, hL⟩ := HL.out
                  have kcc := hL.kc.cell
                  have kcf := hL.kc.free 2
                  have hgcl := hL.kc.lt
                  have hx5 : x.length ≤ 5 := by omega
                  by_cases hkl : k < x.length
                  · have hkt : (k : Int) < traits := by omega
                    have hk1 := Lib.hid (show k + 1 ≤ x.length by omega)
                    obtain ⟨i3, hi3, hs0, hs1, hs2⟩ := info_parts scaleInfo
                    have x0 := (Below.refl wr.heap.size wr).alloc (Nat.le_refl _) (.cells #[.int .i64 9] 3)
                    have x1 := x0.alloc x0.size (.cells #[.slice none 0 0, .slice (some ⟨wr.heap.size, 0, none⟩) 1 1, .int .i64 3] 42)
                    have kn := (Blk.new wr #[.int .i64 9] 3).alloc (.cells #[.slice none 0 0, .slice (some ⟨wr.heap.size, 0, none⟩) 1 1, .int .i64 3] 42)
                    have kt := newAt' (wr.alloc (.cells #[.int .i64 9] 3)) #[.slice none 0 0, .slice (some ⟨wr.heap.size, 0, none⟩) 1 1, .int .i64 3] 42 (g := wr.heap.size + 1) (by simp)
                    have hown := own_below hL.own x1
                    have hlen := hL.len
                    have kcx := hL.kc.below x1 hL.kc.lt
                    have hnr : some Wt.heap.size ≠ (Value.slice S k s).ownBlock := fun e => by have := (hL.own.lt _ e.symm).1; omega
                    have hszr : Wt.heap.size + 1 ≤ wr.heap.size := hgcl
                    go_upto_region 46 with (at_builtin; refine wpList_append_src _ rfl (.tmp 239) (.tmp 242) 35 rfl (Wt.heap.size + 1) 42 i3 _ 3 56 Tryz.underlying35 hi3 hs0 hs1 hs2 rfl (by decide) _ k (sl.flatMap sclC) rfl hown (some ⟨wr.heap.size + 1, 0, none⟩) 1 1 (sclC (idleS wr.heap.size)) rfl rfl (fun e => by cases e) (news_blk kt) (sclC_one _) (by unfold maxLen; omega) (by omega) (by simp; omega) ?_; intro v1 w9 hown9 hg9 ho9; obtain ⟨S4, s4, rfl⟩ := own_slice hown9; have kc9 := kcx.grown hg9 hnr; have kc9c := kc9.cell; have kc9f := kc9.free 2)
                    have HL1 : Hid (∃ S s sl, IdL (Wt.heap.size + 1) Wt.heap.size Wt (w9.setCell ⟨Wt.heap.size, 2, none⟩ (.slice S4 (k + 1) s4)) (k + 1) S s sl) := Lib.hid ⟨S4, s4, _, hL.next (Nat.lt_succ_self _) (Nat.le_refl _) hszr x1 (by simp only [World.size_alloc]; omega) kn hown9 hg9 ho9⟩
                    clear hown9 hg9 ho9 kc9 kc9c kc9f hown kcx kt kn x1 x0 hL HL kcc kcf hnr hlen
                    generalize w9.setCell ⟨Wt.heap.size, 2, none⟩ (.slice S4 (k + 1) s4) = W9 at *
                    go_wp2_with fail
                    go_roundw
                    case rel => exact ⟨k + 1, hk1.out, by go_num, HL1⟩
                    case measure => have h9 := hk1.out; simp [vInt]; omega
                  · have hkt : ¬ (k : Int) < traits := by omega
                    obtain rfl : k = x.length := by omega
                    obtain ⟨i6, hi6, hu0, hu1, hu2⟩ := info_parts cardInfo
                    have bL := bt.trans (hL.bel.mono bt.size)
                    have x1 := (Below.refl wr.heap.size wr).alloc (Nat.le_refl _) (.cells #[.int .i64 0, .int .i64 (-5), .slice S x.length s] 37)
                    have kt := Blk.new wr #[.int .i64 0, .int .i64 (-5), .slice S x.length s] 37
                    have HIw := Lib.hid (HI.out.below hL.bel)
                    have hown := own_below HIw.out.cards.own x1
                    have kir := kit.below hL.bel kit.lt
                    have kirc := kir.cell
                    have kix := kir.alloc (.cells #[.int .i64 0, .int .i64 (-5), .slice S x.length s] 37)
                    have hnr : some gi ≠ (Value.slice C3 cl3.length c3).ownBlock := fun e => by have h8 := HI.out.cards.lt _ e.symm; have h9 := HI.out.eachC.le; have h10 := HI.out.qg; omega
                    have hlen := hL.len
                    have hones : ∀ u ∈ ([.int .i64 0, .int .i64 (-5), .slice S x.length s] : List Value), u.oneCell' = true := by rw [← hlen]; exact crdC_one ⟨0, -5, sl, S, s⟩
                    go_upto_region 48 with (at_builtin; refine wpList_append_src _ rfl (.tmp 247) (.tmp 249) 22 rfl lo3 37 i6 _ 3 40 Tryz.underlying22 hi6 hu0 hu1 hu2 rfl (by decide) _ cl3.length (cl3.flatMap crdC) rfl hown (some ⟨wr.heap.size, 0, none⟩) 1 1 [.int .i64 0, .int .i64 (-5), .slice S x.length s] rfl rfl (fun e => by cases e) (news_blk kt) hones (by unfold maxLen; omega) (by omega) (by simp; omega) ?_; intro v1 w9 hown9 hg9 ho9; obtain ⟨C4, c4, rfl⟩ := own_slice hown9; have ki9 := kix.grown hg9 hnr; have ki9c := ki9.cell; have ki9f := ki9.free 1)
                    have hs2 : ∀ y ∈ sl, SclP (wr.alloc (.cells #[.int .i64 0, .int .i64 (-5), .slice S x.length s] 37)) (fun b => Wt.heap.size + 1 ≤ b) y := fun y hy => ((hL.each y hy).imp (fun b _ hb => hb.1)).move (Fr.below x1)
                    have hown9' : w9.ownsRow lo3 37 3 (.slice C4 (cl3.length + 1) c4) (cl3.length + 1) (cl3.flatMap crdC ++ crdC ⟨0, -5, sl, S, s⟩) := by
                      show w9.ownsRow _ _ _ _ _ (cl3.flatMap crdC ++ [.int .i64 0, .int .i64 (-5), .slice S sl.length s])
                      rw [hlen]
                      exact hown9
                    have hM := id_card (traits := traits) (t := tx) (need := need) (v := .slice C4 (cl3.length + 1) c4) HIw.out (B := Wt.heap.size + 1) (by omega) x1 (own_below hL.own x1) hs2 hlen hown9' hg9 (by omega) ho9
                    have kiz : Blk (w9.setCell ⟨gi, 1, none⟩ (.slice C4 (cl3.length + 1) c4)) gi #[.int .i64 traits, .slice C4 (cl3.length + 1) c4, .slice Tx tlx.length tx, .int .i64 need] 25 := mod4_put ki9
                    have hnc : ∀ b, (Value.slice C3 cl3.length c3).ownBlock = some b → W6.heap.size ≤ b := fun b hb => by have := (HI.out.cards.own.lt b hb).1; omega
                    have bz : Below W6.heap.size W6 (w9.setCell ⟨gi, 1, none⟩ (.slice C4 (cl3.length + 1) c4)) := ((bL.trans (x1.mono bL.size)).grown hg9 (Nat.le_trans bL.size x1.size) hnc).setCell (p := ⟨gi, 1, none⟩) (by show W6.heap.size ≤ gi; omega) _
                    have HSz : Hid (∀ W, Below (w9.setCell ⟨gi, 1, none⟩ (.slice C4 (cl3.length + 1) c4)).heap.size (w9.setCell ⟨gi, 1, none⟩ (.slice C4 (cl3.length + 1) c4)) W → Calls Tryz.prog 6 #[.agg #[.int .i64 traits, .slice C4 (cl3.length + 1) c4, .slice Tx tlx.length tx, .int .i64 need], .slice X x.length xc] W fun e w' => e = .returned (.tuple #[.int .i64 sn, .bool sy, .int .i64 0]) ∧ Below W.heap.size W w') := Lib.hid fun W hb => by
                      obtain ⟨h1, h2⟩ := idle_c (S := S) (s := s) HVx.out.1 hcl hvl hL.eq
                      have h3 := score_ok (m := ⟨traits, cl3 ++ [(⟨0, -5, sl, S, s⟩ : CrdD)], C4, c4, tlx, Tx, tx, need⟩) (X := X) (xc := xc) h1 HV.out (hM.later hb) (Hx.out W (HB6.out.trans ((bz.trans (hb.mono bz.size)).mono HB6.out.size)))
                      have e1 : scoreM (mdlV ⟨traits, cl3 ++ [(⟨0, -5, sl, S, s⟩ : CrdD)], C4, c4, tlx, Tx, tx, need⟩) x = sn := (h2 x).trans HVx.out.2
                      rw [e1, ← Hsy.out] at h3
                      unfold ScP at h3
                      dsimp only at h3
                      rw [List.length_append] at h3
                      exact h3
                    clear hM hs2 hown9 hown9' hones hg9 ho9 ki9 ki9c ki9f kix kirc kir kt hown HIw bL x1 hnr hnc hL HL kcc kcf hlen HI kit kitc bt kmt hgcl
                    generalize w9.setCell ⟨gi, 1, none⟩ (.slice C4 (cl3.length + 1) c4) = Wz at *
                    have bt := bz
                    have kit := kiz
                    have HSI := HSz
                    clear bz kiz HSz
                    as_aux_lemma =>
                      have kxt := kx6.below bt hgm6
                      have kht := kh6.below bt hgh6
                      have kxtc := kxt.cell
                      go_upto_region 49 with (go_at_call 6; (with_reducible refine (HSA6.out _ bt).mono ?_); rintro e v1 ⟨rfl, h1⟩)
                      have bu := bt.trans (h1.mono bt.size)
                      have khu := (kht.below h1 kht.lt).cell
                      have kiu := kit.below h1 kit.lt
                      go_upto_region 50 with (go_at_call 6; (with_reducible refine (HSH6.out _ bu).mono ?_); rintro e v2 ⟨rfl, h2⟩)
                      have bv := bu.trans (h2.mono bu.size)
                      have kiv := (kiu.below h2 kiu.lt).cell
                      have h12 := h1.trans (h2.mono h1.size)
                      go_upto_region 51 with (go_at_call 6; (with_reducible refine (HSI.out _ h12).mono ?_); rintro e v3 ⟨rfl, h3⟩)
                      have bw := bv.trans (h3.mono bv.size)
                      have BW := Lib.hid (HB6.out.trans (bw.mono HB6.out.size))
                      clear kxt kht kxtc bt bu bv bw khu kiu kiv h12 h1 h2 h3 kit HSI
                      generalize sy = sy at *
                      cases sy with
                      | true =>
                        obtain rfl : sg = true := hyg rfl
                        cases sh <;> (go_wp2_with fail; go_ret; exact ⟨rfl, BW.out⟩)
                      | false =>
                        obtain rfl : sh = false := by cases sh with | false => rfl | true => exact absurd (hhy rfl) (by decide)
                        cases sg <;> (go_wp2_with fail; go_ret; exact ⟨rfl, BW.out⟩)
              · have hcl2 : ¬ (cl3.length : Int) < 2 := by omega
                have HSI : Hid (∀ W, Below Wt.heap.size Wt W → Calls Tryz.prog 6 #[.agg #[.int .i64 traits, .slice C3 cl3.length c3, .slice Tx tlx.length tx, .int .i64 need], .slice X x.length xc] W fun e w' => e = .returned (.tuple #[.int .i64 sn, .bool sy, .int .i64 0]) ∧ Below W.heap.size W w') := Lib.hid fun W hb => by
                  have h3 := score_ok (m := ⟨traits, cl3, C3, c3, tlx, Tx, tx, need⟩) (X := X) (xc := xc) HVx.out.1 HV.out ((HI.out.at_ (traits := traits) (c := c3) (t := tx) (need := need)).later hb) (Hx.out W (HB6.out.trans ((bt.trans (hb.mono bt.size)).mono HB6.out.size)))
                  have e1 : scoreM (mdlV ⟨traits, cl3, C3, c3, tlx, Tx, tx, need⟩) x = sn := HVx.out.2
                  rw [e1, ← Hsy.out] at h3
                  exact h3
                clear HI kmt
                as_aux_lemma =>
                  have kxt := kx6.below bt hgm6
                  have kht := kh6.below bt hgh6
                  have kxtc := kxt.cell
                  go_upto_region 49 with (go_at_call 6; (with_reducible refine (HSA6.out _ bt).mono ?_); rintro e v1 ⟨rfl, h1⟩)
                  have bu := bt.trans (h1.mono bt.size)
                  have khu := (kht.below h1 kht.lt).cell
                  have kiu := kit.below h1 kit.lt
                  go_upto_region 50 with (go_at_call 6; (with_reducible refine (HSH6.out _ bu).mono ?_); rintro e v2 ⟨rfl, h2⟩)
                  have bv := bu.trans (h2.mono bu.size)
                  have kiv := (kiu.below h2 kiu.lt).cell
                  have h12 := h1.trans (h2.mono h1.size)
                  go_upto_region 51 with (go_at_call 6; (with_reducible refine (HSI.out _ h12).mono ?_); rintro e v3 ⟨rfl, h3⟩)
                  have bw := bv.trans (h3.mono bv.size)
                  have BW := Lib.hid (HB6.out.trans (bw.mono HB6.out.size))
                  clear kxt kht kxtc bt bu bv bw khu kiu kiv h12 h1 h2 h3 kit HSI
                  generalize sy = sy at *
                  cases sy with
                  | true =>
                    obtain rfl : sg = true := hyg rfl
                    cases sh <;> (go_wp2_with fail; go_ret; exact ⟨rfl, BW.out⟩)
                  | false =>
                    obtain rfl : sh = false := by cases sh with | false => rfl | true => exact absurd (hhy rfl) (by decide)
                    cases sg <;> (go_wp2_with fail; go_ret; exact ⟨rfl, BW.out⟩)
            · have hil : ¬ (tl3.length : Int) < 2 := by omega
              have HI := Lib.hid (IdS.of HN.out)
              have HVx : Hid (mdlB ⟨traits, cl3.map CrdD.v, tl3.map TreD.v, need⟩ = true ∧ scoreM ⟨traits, cl3.map CrdD.v, tl3.map TreD.v, need⟩ x = sn) := Lib.hid ⟨by have h9 := HM.out; rw [show (⟨traits, cl.map CrdD.v, tl.map TreD.v, need⟩ : Mdl) = mdlV ⟨traits, cl, C, c, tl, T, t, need⟩ from rfl, ← hV3.out] at h9; exact h9, by rw [Hsn.out]; exact congrArg (fun v => scoreM v x) hV3.out⟩
              have bt := b8
              have kit := ki
              clear HN ki f2 b8
              go_upto_region 41 with fail
              clear kic
              generalize W8 = Wt at *
              generalize tl3 = tlx at *
              generalize T3 = Tx at *
              generalize t3 = tx at *
              have kmt := km6.below bt hkm6
              have kitc := kit.cell
              have hgt := kit.lt
              by_cases hcl : cl3.length < 2
              · have hcl2 : (cl3.length : Int) < 2 := by omega
                have bn := bt.alloc bt.size (.cells #[.int .i64 0, .int .i64 (-5), .slice none 0 0] 37)
                have ba := (Below.refl Wt.heap.size Wt).alloc (Nat.le_refl _) (.cells #[.int .i64 0, .int .i64 (-5), .slice none 0 0] 37)
                have kc := Blk.new Wt #[.int .i64 0, .int .i64 (-5), .slice none 0 0] 37
                have kma := (kmt.alloc (.cells #[.int .i64 0, .int .i64 (-5), .slice none 0 0] 37)).cell
                have HL0 : Hid (∃ S s sl, IdL (Wt.heap.size + 1) Wt.heap.size Wt (Wt.alloc (.cells #[.int .i64 0, .int .i64 (-5), .slice none 0 0] 37)) 0 S s sl) := Lib.hid ⟨none, 0, [], rfl, World.ownsRow_nil _ _ _ _, (fun y hy => by cases hy), kc, ba⟩
                go_wp2_with fail
                go_loopw [236] (fun kk wr => ∃ k : Nat, k ≤ x.length ∧ kk = .int .i64 k ∧ Hid (∃ S s sl, IdL (Wt.heap.size + 1) Wt.heap.size Wt wr k S s sl)) (fun kk _ => x.length - (vInt kk).toNat)
                case atStart => exact ⟨0, Nat.zero_le _, rfl, HL0⟩
                clear HL0 kma bn ba kc
                case round =>
                  obtain ⟨k, hk, rfl, HL⟩ := hrel
                  obtain ⟨S, s, sl, hL⟩ := HL.out
                  have kcc := hL.kc.cell
                  have kcf := hL.kc.free 2
                  have hgcl := hL.kc.lt
                  have hx5 : x.length ≤ 5 := by omega
                  by_cases hkl : k < x.length
                  · have hkt : (k : Int) < traits := by omega
                    have hk1 := Lib.hid (show k + 1 ≤ x.length by omega)
                    obtain ⟨i3, hi3, hs0, hs1, hs2⟩ := info_parts scaleInfo
                    have x0 := (Below.refl wr.heap.size wr).alloc (Nat.le_refl _) (.cells #[.int .i64 9] 3)
                    have x1 := x0.alloc x0.size (.cells #[.slice none 0 0, .slice (some ⟨wr.heap.size, 0, none⟩) 1 1, .int .i64 3] 42)
                    have kn := (Blk.new wr #[.int .i64 9] 3).alloc (.cells #[.slice none 0 0, .slice (some ⟨wr.heap.size, 0, none⟩) 1 1, .int .i64 3] 42)
                    have kt := newAt' (wr.alloc (.cells #[.int .i64 9] 3)) #[.slice none 0 0, .slice (some ⟨wr.heap.size, 0, none⟩) 1 1, .int .i64 3] 42 (g := wr.heap.size + 1) (by simp)
                    have hown := own_below hL.own x1
                    have hlen := hL.len
                    have kcx := hL.kc.below x1 hL.kc.lt
                    have hnr : some Wt.heap.size ≠ (Value.slice S k s).ownBlock := fun e => by have := (hL.own.lt _ e.symm).1; omega
                    have hszr : Wt.heap.size + 1 ≤ wr.heap.size := hgcl
                    go_upto_region 46 with (at_builtin; refine wpList_append_src _ rfl (.tmp 239) (.tmp 242) 35 rfl (Wt.heap.size + 1) 42 i3 _ 3 56 Tryz.underlying35 hi3 hs0 hs1 hs2 rfl (by decide) _ k (sl.flatMap sclC) rfl hown (some ⟨wr.heap.size + 1, 0, none⟩) 1 1 (sclC (idleS wr.heap.size)) rfl rfl (fun e => by cases e) (news_blk kt) (sclC_one _) (by unfold maxLen; omega) (by omega) (by simp; omega) ?_; intro v1 w9 hown9 hg9 ho9; obtain ⟨S4, s4, rfl⟩ := own_slice hown9; have kc9 := kcx.grown hg9 hnr; have kc9c := kc9.cell; have kc9f := kc9.free 2)
                    have HL1 : Hid (∃ S s sl, IdL (Wt.heap.size + 1) Wt.heap.size Wt (w9.setCell ⟨Wt.heap.size, 2, none⟩ (.slice S4 (k + 1) s4)) (k + 1) S s sl) := Lib.hid ⟨S4, s4, _, hL.next (Nat.lt_succ_self _) (Nat.le_refl _) hszr x1 (by simp only [World.size_alloc]; omega) kn hown9 hg9 ho9⟩
                    clear hown9 hg9 ho9 kc9 kc9c kc9f hown kcx kt kn x1 x0 hL HL kcc kcf hnr hlen
                    generalize w9.setCell ⟨Wt.heap.size, 2, none⟩ (.slice S4 (k + 1) s4) = W9 at *
                    go_wp2_with fail
                    go_roundw
                    case rel => exact ⟨k + 1, hk1.out, by go_num, HL1⟩
                    case measure => have h9 := hk1.out; simp [vInt]; omega
                  · have hkt : ¬ (k : Int) < traits := by omega
                    obtain rfl : k = x.length := by omega
                    obtain ⟨i6, hi6, hu0, hu1, hu2⟩ := info_parts cardInfo
                    have bL := bt.trans (hL.bel.mono bt.size)
                    have x1 := (Below.refl wr.heap.size wr).alloc (Nat.le_refl _) (.cells #[.int .i64 0, .int .i64 (-5), .slice S x.length s] 37)
                    have kt := Blk.new wr #[.int .i64 0, .int .i64 (-5), .slice S x.length s] 37
                    have HIw := Lib.hid (HI.out.below hL.bel)
                    have hown := own_below HIw.out.cards.own x1
                    have kir := kit.below hL.bel kit.lt
                    have kirc := kir.cell
                    have kix := kir.alloc (.cells #[.int .i64 0, .int .i64 (-5), .slice S x.length s] 37)
                    have hnr : some gi ≠ (Value.slice C3 cl3.length c3).ownBlock := fun e => by have h8 := HI.out.cards.lt _ e.symm; have h9 := HI.out.eachC.le; have h10 := HI.out.qg; omega
                    have hlen := hL.len
                    have hones : ∀ u ∈ ([.int .i64 0, .int .i64 (-5), .slice S x.length s] : List Value), u.oneCell' = true := by rw [← hlen]; exact crdC_one ⟨0, -5, sl, S, s⟩
                    go_upto_region 48 with (at_builtin; refine wpList_append_src _ rfl (.tmp 247) (.tmp 249) 22 rfl lo3 37 i6 _ 3 40 Tryz.underlying22 hi6 hu0 hu1 hu2 rfl (by decide) _ cl3.length (cl3.flatMap crdC) rfl hown (some ⟨wr.heap.size, 0, none⟩) 1 1 [.int .i64 0, .int .i64 (-5), .slice S x.length s] rfl rfl (fun e => by cases e) (news_blk kt) hones (by unfold maxLen; omega) (by omega) (by simp; omega) ?_; intro v1 w9 hown9 hg9 ho9; obtain ⟨C4, c4, rfl⟩ := own_slice hown9; have ki9 := kix.grown hg9 hnr; have ki9c := ki9.cell; have ki9f := ki9.free 1)
                    have hs2 : ∀ y ∈ sl, SclP (wr.alloc (.cells #[.int .i64 0, .int .i64 (-5), .slice S x.length s] 37)) (fun b => Wt.heap.size + 1 ≤ b) y := fun y hy => ((hL.each y hy).imp (fun b _ hb => hb.1)).move (Fr.below x1)
                    have hown9' : w9.ownsRow lo3 37 3 (.slice C4 (cl3.length + 1) c4) (cl3.length + 1) (cl3.flatMap crdC ++ crdC ⟨0, -5, sl, S, s⟩) := by
                      show w9.ownsRow _ _ _ _ _ (cl3.flatMap crdC ++ [.int .i64 0, .int .i64 (-5), .slice S sl.length s])
                      rw [hlen]
                      exact hown9
                    have hM := id_card (traits := traits) (t := tx) (need := need) (v := .slice C4 (cl3.length + 1) c4) HIw.out (B := Wt.heap.size + 1) (by omega) x1 (own_below hL.own x1) hs2 hlen hown9' hg9 (by omega) ho9
                    have kiz : Blk (w9.setCell ⟨gi, 1, none⟩ (.slice C4 (cl3.length + 1) c4)) gi #[.int .i64 traits, .slice C4 (cl3.length + 1) c4, .slice Tx tlx.length tx, .int .i64 need] 25 := mod4_put ki9
                    have hnc : ∀ b, (Value.slice C3 cl3.length c3).ownBlock = some b → W6.heap.size ≤ b := fun b hb => by have := (HI.out.cards.own.lt b hb).1; omega
                    have bz : Below W6.heap.size W6 (w9.setCell ⟨gi, 1, none⟩ (.slice C4 (cl3.length + 1) c4)) := ((bL.trans (x1.mono bL.size)).grown hg9 (Nat.le_trans bL.size x1.size) hnc).setCell (p := ⟨gi, 1, none⟩) (by show W6.heap.size ≤ gi; omega) _
                    have HSz : Hid (∀ W, Below (w9.setCell ⟨gi, 1, none⟩ (.slice C4 (cl3.length + 1) c4)).heap.size (w9.setCell ⟨gi, 1, none⟩ (.slice C4 (cl3.length + 1) c4)) W → Calls Tryz.prog 6 #[.agg #[.int .i64 traits, .slice C4 (cl3.length + 1) c4, .slice Tx tlx.length tx, .int .i64 need], .slice X x.length xc] W fun e w' => e = .returned (.tuple #[.int .i64 sn, .bool sy, .int .i64 0]) ∧ Below W.heap.size W w') := Lib.hid fun W hb => by
                      obtain ⟨h1, h2⟩ := idle_c (S := S) (s := s) HVx.out.1 hcl hvl hL.eq
                      have h3 := score_ok (m := ⟨traits, cl3 ++ [(⟨0, -5, sl, S, s⟩ : CrdD)], C4, c4, tlx, Tx, tx, need⟩) (X := X) (xc := xc) h1 HV.out (hM.later hb) (Hx.out W (HB6.out.trans ((bz.trans (hb.mono bz.size)).mono HB6.out.size)))
                      have e1 : scoreM (mdlV ⟨traits, cl3 ++ [(⟨0, -5, sl, S, s⟩ : CrdD)], C4, c4, tlx, Tx, tx, need⟩) x = sn := (h2 x).trans HVx.out.2
                      rw [e1, ← Hsy.out] at h3
                      unfold ScP at h3
                      dsimp only at h3
                      rw [List.length_append] at h3
                      exact h3
                    clear hM hs2 hown9 hown9' hones hg9 ho9 ki9 ki9c ki9f kix kirc kir kt hown HIw bL x1 hnr hnc hL HL kcc kcf hlen HI kit kitc bt kmt hgcl
                    generalize w9.setCell ⟨gi, 1, none⟩ (.slice C4 (cl3.length + 1) c4) = Wz at *
                    have bt := bz
                    have kit := kiz
                    have HSI := HSz
                    clear bz kiz HSz
                    as_aux_lemma =>
                      have kxt := kx6.below bt hgm6
                      have kht := kh6.below bt hgh6
                      have kxtc := kxt.cell
                      go_upto_region 49 with (go_at_call 6; (with_reducible refine (HSA6.out _ bt).mono ?_); rintro e v1 ⟨rfl, h1⟩)
                      have bu := bt.trans (h1.mono bt.size)
                      have khu := (kht.below h1 kht.lt).cell
                      have kiu := kit.below h1 kit.lt
                      go_upto_region 50 with (go_at_call 6; (with_reducible refine (HSH6.out _ bu).mono ?_); rintro e v2 ⟨rfl, h2⟩)
                      have bv := bu.trans (h2.mono bu.size)
                      have kiv := (kiu.below h2 kiu.lt).cell
                      have h12 := h1.trans (h2.mono h1.size)
                      go_upto_region 51 with (go_at_call 6; (with_reducible refine (HSI.out _ h12).mono ?_); rintro e v3 ⟨rfl, h3⟩)
                      have bw := bv.trans (h3.mono bv.size)
                      have BW := Lib.hid (HB6.out.trans (bw.mono HB6.out.size))
                      clear kxt kht kxtc bt bu bv bw khu kiu kiv h12 h1 h2 h3 kit HSI
                      generalize sy = sy at *
                      cases sy with
                      | true =>
                        obtain rfl : sg = true := hyg rfl
                        cases sh <;> (go_wp2_with fail; go_ret; exact ⟨rfl, BW.out⟩)
                      | false =>
                        obtain rfl : sh = false := by cases sh with | false => rfl | true => exact absurd (hhy rfl) (by decide)
                        cases sg <;> (go_wp2_with fail; go_ret; exact ⟨rfl, BW.out⟩)
              · have hcl2 : ¬ (cl3.length : Int) < 2 := by omega
                have HSI : Hid (∀ W, Below Wt.heap.size Wt W → Calls Tryz.prog 6 #[.agg #[.int .i64 traits, .slice C3 cl3.length c3, .slice Tx tlx.length tx, .int .i64 need], .slice X x.length xc] W fun e w' => e = .returned (.tuple #[.int .i64 sn, .bool sy, .int .i64 0]) ∧ Below W.heap.size W w') := Lib.hid fun W hb => by
                  have h3 := score_ok (m := ⟨traits, cl3, C3, c3, tlx, Tx, tx, need⟩) (X := X) (xc := xc) HVx.out.1 HV.out ((HI.out.at_ (traits := traits) (c := c3) (t := tx) (need := need)).later hb) (Hx.out W (HB6.out.trans ((bt.trans (hb.mono bt.size)).mono HB6.out.size)))
                  have e1 : scoreM (mdlV ⟨traits, cl3, C3, c3, tlx, Tx, tx, need⟩) x = sn := HVx.out.2
                  rw [e1, ← Hsy.out] at h3
                  exact h3
                clear HI kmt
                as_aux_lemma =>
                  have kxt := kx6.below bt hgm6
                  have kht := kh6.below bt hgh6
                  have kxtc := kxt.cell
                  go_upto_region 49 with (go_at_call 6; (with_reducible refine (HSA6.out _ bt).mono ?_); rintro e v1 ⟨rfl, h1⟩)
                  have bu := bt.trans (h1.mono bt.size)
                  have khu := (kht.below h1 kht.lt).cell
                  have kiu := kit.below h1 kit.lt
                  go_upto_region 50 with (go_at_call 6; (with_reducible refine (HSH6.out _ bu).mono ?_); rintro e v2 ⟨rfl, h2⟩)
                  have bv := bu.trans (h2.mono bu.size)
                  have kiv := (kiu.below h2 kiu.lt).cell
                  have h12 := h1.trans (h2.mono h1.size)
                  go_upto_region 51 with (go_at_call 6; (with_reducible refine (HSI.out _ h12).mono ?_); rintro e v3 ⟨rfl, h3⟩)
                  have bw := bv.trans (h3.mono bv.size)
                  have BW := Lib.hid (HB6.out.trans (bw.mono HB6.out.size))
                  clear kxt kht kxtc bt bu bv bw khu kiu kiv h12 h1 h2 h3 kit HSI
                  generalize sy = sy at *
                  cases sy with
                  | true =>
                    obtain rfl : sg = true := hyg rfl
                    cases sh <;> (go_wp2_with fail; go_ret; exact ⟨rfl, BW.out⟩)
                  | false =>
                    obtain rfl : sh = false := by cases sh with | false => rfl | true => exact absurd (hhy rfl) (by decide)
                    cases sg <;> (go_wp2_with fail; go_ret; exact ⟨rfl, BW.out⟩)
end Go.Proofs.YtpahcbhikmfamaaGreat
