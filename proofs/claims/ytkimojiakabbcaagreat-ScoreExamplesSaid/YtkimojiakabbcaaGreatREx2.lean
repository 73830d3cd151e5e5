/- The law on the examples of scores. Written by a program. -/
import Derived.Test.YtkimojiakabbcaaGreatREx1

namespace Go.Proofs.YtkimojiakabbcaaGreat
open Go.RowKit Go.Shelf Go.Maps

set_option maxRecDepth 100000 in
set_option maxHeartbeats 8000000 in
theorem scoreExamples_any (w : World) : Calls Tryz.prog 3 #[] w fun e w' => e = .returned (.bool true) ∧ Below w.heap.size w w' := by
  have HM := Lib.hid (fun W => model_any W)
  have HSp := Lib.hid (fun lo hi W => spanL_any lo hi W)
  have HA := Lib.hid (fun W => alive_any W)
  obtain ⟨z, hz⟩ : ∃ z : Int, z = -10000 := ⟨_, rfl⟩
  have hz1 : (z == -10000) = true := by rw [hz]; exact beq_self_eq_true _
  have hz2 : (z != -10000) = false := by rw [hz]; simp
  have HZ := Lib.hid hz
  clear hz
  go_enter Tryz.func3, Tryz.ntmps3
  go_upto_region 2 with (go_at_call 11; (with_reducible refine (HA.out _).mono ?_); rintro e w1 ⟨rfl, h1⟩)
  go_upto_region 3 with (first
    | (go_at_call 13; (with_reducible refine (HM.out _).mono ?_); rintro e w2 ⟨rfl, hm2, h2⟩; have b2 := h1.trans (h2.mono h1.size); have HS := Lib.hid (ex2Score z HZ.out _ w2.heap.size _ (hm2.later ((Below.refl w2.heap.size w2).alloc (Nat.le_refl _) (.cells #[.int .i64 5, .int .i64 200] 3))) (flat_blk (Blk.new w2 #[.int .i64 5, .int .i64 200] 3) intC_len rfl)))
    | (go_at_call 12; (with_reducible refine (HS.out).mono ?_); rintro e w3 ⟨rfl, h3⟩; have b3 := (b2.alloc b2.size _).trans (h3.mono (Nat.le_trans b2.size (by simp)))))
  clear HS hm2 h2 h3 b2 h1
  go_upto_region 4 with (first
    | (go_at_call 13; (with_reducible refine (HM.out _).mono ?_); rintro e w4 ⟨rfl, hm4, h4⟩; have b4 := b3.trans (h4.mono b3.size); have HP := Lib.hid (ex2Points _ w4.heap.size _ (hm4.later ((Below.refl w4.heap.size w4).alloc (Nat.le_refl _) (.cells #[.int .i64 12, .int .i64 30] 3))) (flat_blk (Blk.new w4 #[.int .i64 12, .int .i64 30] 3) intC_len rfl)))
    | (go_at_call 14; (with_reducible refine (HP.out).mono ?_); rintro e w5 ⟨A4, c4, rfl, hi4, h5⟩; have b5 := (b4.alloc b4.size _).trans (h5.mono (Nat.le_trans b4.size (by simp)))))
  clear HP hm4 h4 h5 b3 b4
  go_upto_region 5 with (first
    | (go_at_call 13; (with_reducible refine (HM.out _).mono ?_); first
       | (rintro e w6 ⟨rfl, hm6, h6⟩; have b6 := b5.trans (h6.mono b5.size); have HR := Lib.hid (ex2Reasons _ w6.heap.size _ (hm6.later ((Below.refl w6.heap.size w6).alloc (Nat.le_refl _) (.cells #[.int .i64 12, .int .i64 30] 3))) (flat_blk (Blk.new w6 #[.int .i64 12, .int .i64 30] 3) intC_len rfl))))
    | (go_at_call 15; (with_reducible refine (HR.out).mono ?_); rintro e w7 ⟨A6, a6, A7, a7, rfl, hi6, hi7, h7⟩; have b7 := (b6.alloc b6.size _).trans (h7.mono (Nat.le_trans b6.size (by simp))); have hi5 := hi4.later ((h6.alloc h6.size _).trans (h7.mono (Nat.le_trans h6.size (by simp))))))
  clear HR hm6 h6 h7 hi4 b5 b6
  have HS4 := Lib.hid (same2 60 8 A4 (some ⟨w7.heap.size, 0, none⟩) c4 2 (w7.alloc (.cells #[.int .i64 60, .int .i64 8] 3)) (hi5.later ((Below.refl w7.heap.size w7).alloc (Nat.le_refl _) (.cells #[.int .i64 60, .int .i64 8] 3))) (flat_blk (Blk.new w7 #[.int .i64 60, .int .i64 8] 3) intC_len rfl))
  clear hi5
  go_upto_region 5 with (first
    | (go_at_call 16; (with_reducible refine (HS4.out).mono ?_); rintro e w8 ⟨rfl, h8⟩; have e8 := ((Below.refl w7.heap.size w7).alloc (Nat.le_refl _) (.cells #[.int .i64 60, .int .i64 8] 3)).trans (h8.mono (by simp)); have HS6 := Lib.hid (same1 0 A6 (some ⟨w8.heap.size, 0, none⟩) a6 1 (w8.alloc (.cells #[.int .i64 0] 3)) (hi6.later (e8.alloc e8.size (.cells #[.int .i64 0] 3))) (flat_blk (Blk.new w8 #[.int .i64 0] 3) intC_len rfl)))
    | (go_at_call 16; (with_reducible refine (HS6.out).mono ?_); rintro e w9 ⟨rfl, h9⟩; have e9 := (e8.alloc e8.size (.cells #[.int .i64 0] 3)).trans (h9.mono (Nat.le_trans e8.size (by simp))); have HS7 := Lib.hid (same1 0 A7 (some ⟨w9.heap.size, 0, none⟩) a7 1 (w9.alloc (.cells #[.int .i64 0] 3)) (hi7.later (e9.alloc e9.size (.cells #[.int .i64 0] 3))) (flat_blk (Blk.new w9 #[.int .i64 0] 3) intC_len rfl)))
    | (go_at_call 16; (with_reducible refine (HS7.out).mono ?_); rintro e w10 ⟨rfl, h10⟩; have e10 := (e9.alloc e9.size (.cells #[.int .i64 0] 3)).trans (h10.mono (Nat.le_trans e9.size (by simp))); have b10 := b7.trans (e10.mono b7.size)))
  clear HS4 HS6 HS7 h8 h9 h10 e8 e9 e10 hi6 hi7 b7
  have HF := Lib.hid (fun W => model_full W)
  go_upto_region 9 with (go_at_call 13; (with_reducible refine (HF.out _).mono ?_); rintro e w11 ⟨rfl, hk11, h11⟩; have b11 := b10.trans (h11.mono b10.size); have hlt11 : w10.heap.size + 8 < w11.heap.size := by have := hk11.2.2.2.2.2.2.2.lt; omega)
  have hs11 := h11.size
  have kB := Blk.new w11 #[.int .i64 2, .slice (some ⟨w10.heap.size + 1 + 1 + 1 + 1 + 1 + 1, 0, none⟩) 1 1, .slice (some ⟨w10.heap.size + 1 + 1 + 1 + 1 + 1 + 1 + 1 + 1, 0, none⟩) 1 1, .int .i64 50] 29
  have kk := ModelK.below hk11 ((Below.refl w11.heap.size w11).alloc (Nat.le_refl _) (.cells #[.int .i64 2, .slice (some ⟨w10.heap.size + 1 + 1 + 1 + 1 + 1 + 1, 0, none⟩) 1 1, .slice (some ⟨w10.heap.size + 1 + 1 + 1 + 1 + 1 + 1 + 1 + 1, 0, none⟩) 1 1, .int .i64 50] 29)) hlt11
  have b12 := b11.alloc b11.size (.cells #[.int .i64 2, .slice (some ⟨w10.heap.size + 1 + 1 + 1 + 1 + 1 + 1, 0, none⟩) 1 1, .slice (some ⟨w10.heap.size + 1 + 1 + 1 + 1 + 1 + 1 + 1 + 1, 0, none⟩) 1 1, .int .i64 50] 29)
  generalize hW : w11.alloc (.cells #[.int .i64 2, .slice (some ⟨w10.heap.size + 1 + 1 + 1 + 1 + 1 + 1, 0, none⟩) 1 1, .slice (some ⟨w10.heap.size + 1 + 1 + 1 + 1 + 1 + 1 + 1 + 1, 0, none⟩) 1 1, .int .i64 50] 29) = W12 at *
  have hgb : w10.heap.size + 8 < w11.heap.size := hlt11
  clear hW h11 hs11
  generalize w11.heap.size = gB at *
  have k7c := kk.2.2.2.2.2.2.1.cell
  have k8c := kk.2.2.2.2.2.2.2.cell
  have k7f := kk.2.2.2.2.2.2.1.free
  have kBc := kB.cell
  have kz := ModelK.bad kk
  go_upto_region 10 with fail
  have kB13 := kB.far (p := ⟨w10.heap.size + 1 + 1 + 1 + 1 + 1 + 1 + 1, 2, none⟩) (by simp; omega) (.int .i64 0)
  have b13 := b12.setCell (p := ⟨w10.heap.size + 1 + 1 + 1 + 1 + 1 + 1 + 1, 2, none⟩) (by have := b10.size; show w.heap.size ≤ w10.heap.size + 1 + 1 + 1 + 1 + 1 + 1 + 1; omega) (.int .i64 0)
  generalize hW : W12.setCell ⟨w10.heap.size + 1 + 1 + 1 + 1 + 1 + 1 + 1, 2, none⟩ (.int .i64 0) = W13 at *
  clear hW kk kB k7c k8c k7f kBc b12 b11 hk11
  have HB13 := Lib.hid b13
  clear b13 b10
  go_upto_region 11 with (first
    | (go_at_call 13; (with_reducible refine (HM.out _).mono ?_); rintro e w14 ⟨rfl, hm14, e14⟩; have HS := Lib.hid (ex3Score _ w14.heap.size _ (hm14.later ((Below.refl w14.heap.size w14).alloc (Nat.le_refl _) (.cells #[.int .i64 1] 3))) (flat_blk (Blk.new w14 #[.int .i64 1] 3) intC_len rfl)))
    | (go_at_call 12; (with_reducible refine (HS.out).mono ?_); rintro e w15 ⟨⟨n15, y15, rfl⟩, h15⟩; have e15 := (e14.alloc e14.size (.cells #[.int .i64 1] 3)).trans (h15.mono (Nat.le_trans e14.size (by simp)))))
  clear HS hm14 e14 h15
  go_upto_region 12 with (first
    | (go_at_call 13; (with_reducible refine (HM.out _).mono ?_); rintro e w16 ⟨rfl, hm16, h16⟩; have e16 := e15.trans (h16.mono e15.size); have HS := Lib.hid (ex3Points _ w16.heap.size _ (hm16.later ((Below.refl w16.heap.size w16).alloc (Nat.le_refl _) (.cells #[.int .i64 1, .int .i64 (-2)] 3))) (flat_blk (Blk.new w16 #[.int .i64 1, .int .i64 (-2)] 3) intC_len rfl)))
    | (go_at_call 14; (with_reducible refine (HS.out).mono ?_); rintro e w17 ⟨⟨A17, n17, c17, rfl⟩, h17⟩; have e17 := (e16.alloc e16.size (.cells #[.int .i64 1, .int .i64 (-2)] 3)).trans (h17.mono (Nat.le_trans e16.size (by simp)))))
  clear HS hm16 h16 e15 e16 h17
  go_upto_region 13 with (first
    | (go_at_call 13; (with_reducible refine (HM.out _).mono ?_); rintro e w18 ⟨rfl, hm18, h18⟩; have e18 := e17.trans (h18.mono e17.size); have HS := Lib.hid (ex3Reasons _ w18.heap.size _ (hm18.later ((Below.refl w18.heap.size w18).alloc (Nat.le_refl _) (.cells #[.int .i64 1, .int .i64 1000001] 3))) (flat_blk (Blk.new w18 #[.int .i64 1, .int .i64 1000001] 3) intC_len rfl)))
    | (go_at_call 15; (with_reducible refine (HS.out).mono ?_); rintro e w19 ⟨⟨A19, n19, c19, B19, m19, d19, rfl⟩, h19⟩; have e19 := (e18.alloc e18.size (.cells #[.int .i64 1, .int .i64 1000001] 3)).trans (h19.mono (Nat.le_trans e18.size (by simp)))))
  clear HS hm18 h18 e17 e18 h19
  have hkz : w10.heap.size + 8 < W13.heap.size := by have := kz.2.2.2.2.2.2.2.lt; omega
  have hkB := kB13.lt
  go_upto_region 14 with (first
    | (go_at_call 13; (with_reducible refine (HM.out _).mono ?_); rintro e w20 ⟨rfl, hm20, h20⟩; have e20 := e19.trans (h20.mono e19.size))
    | (go_at_call 18; (with_reducible refine (HSp.out 0 1 _).mono ?_); rintro e w21 ⟨rfl, h21⟩; have e21 := e20.trans (h21.mono e20.size))
    | (go_at_call 18; (with_reducible refine (HSp.out 2 1 _).mono ?_); rintro e w22 ⟨rfl, h22⟩; have e22 := e21.trans (h22.mono e21.size); have HS := Lib.hid (ex3Spans _ w22.heap.size _ (((hm20.later h21).later h22).later ((Below.refl w22.heap.size w22).alloc (Nat.le_refl _) (.cells #[.int .i64 0, .int .i64 1, .int .i64 2, .int .i64 1] 43))) (flat_blk (Blk.new w22 #[.int .i64 0, .int .i64 1, .int .i64 2, .int .i64 1] 43) spnC_len rfl)))
    | (go_at_call 17; (with_reducible refine (HS.out).mono ?_); rintro e w23 ⟨⟨lo23, hi23, rfl⟩, h23⟩; have e23 := (e22.alloc e22.size (.cells #[.int .i64 0, .int .i64 1, .int .i64 2, .int .i64 1] 43)).trans (h23.mono (Nat.le_trans e22.size (by simp)))))
  clear HS hm20 h20 h21 h22 e19 e20 e21 e22 h23
  have e23a := e23.alloc e23.size (.cells #[.int .i64 lo23, .int .i64 hi23] 43)
  generalize hW : w23.alloc (.cells #[.int .i64 lo23, .int .i64 hi23] 43) = W23 at *
  clear hW
  generalize w23.heap.size = g23 at *
  have kBc := (kB13.below e23a hkB).cell
  have HS := Lib.hid (ex3Bad _ W23 (ModelK.mdlB (ModelK.below kz e23a hkz)))
  go_upto_region 15 with (first
    | (go_at_call 17; (with_reducible refine (HS.out).mono ?_); rintro e w24 ⟨⟨lo24, hi24, rfl⟩, h24⟩; have e24 := e23a.trans (h24.mono e23a.size)))
  have e24a := e24.alloc e24.size (.cells #[.int .i64 lo24, .int .i64 hi24] 43)
  generalize hW : w24.alloc (.cells #[.int .i64 lo24, .int .i64 hi24] 43) = W24 at *
  clear hW HS kBc h24 e24 e23a
  generalize w24.heap.size = g24 at *
  have HS := Lib.hid (ex3None W24.heap.size (W24.alloc (.cells #[.int .i64 4] 3)) (flat_blk (Blk.new W24 #[.int .i64 4] 3) intC_len rfl))
  go_upto_region 16 with (go_at_call 15; (with_reducible refine (HS.out).mono ?_); rintro e w25 ⟨⟨A25, n25, c25, B25, m25, d25, rfl⟩, h25⟩; have e25 := (e24a.alloc e24a.size (.cells #[.int .i64 4] 3)).trans (h25.mono (Nat.le_trans e24a.size (by simp))); have kBd := (kB13.below e25 hkB).cell; have HC := Lib.hid (ex3Check _ w25 (ModelK.mdlB (ModelK.below kz e25 hkz))))
  go_wp2_with (go_at_call 19; (with_reducible refine (HC.out).mono ?_); rintro e w26 ⟨rfl, h26⟩; have e26 := e25.trans (h26.mono e25.size))
  go_ret
  exact ⟨rfl, HB13.out.trans (e26.mono HB13.out.size)⟩
end Go.Proofs.YtkimojiakabbcaaGreat
