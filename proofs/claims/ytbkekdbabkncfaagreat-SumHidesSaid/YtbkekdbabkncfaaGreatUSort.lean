/- Subjects put in order by their numbers: what the program's order.By compares. Written by p5.py. -/
import Derived.Test.YtbkekdbabkncfaaGreatUShelf
import Derived.Test.YtbkekdbabkncfaaGreatURow

namespace Go.Proofs.YtbkekdbabkncfaaGreat
open Go.RowKit Go.Shelf

theorem cmpInt_any (x y : Int) (W : World) : Calls Tryz.prog 142 #[.int .i64 x, .int .i64 y] W fun e w' => e = .returned (.int .i64 (Lib.compareInt x y)) ∧ w' = W :=
  AnyG.cmp_Compare_int Tryz.cmpInt x y W
theorem Grown.size {W : World} (x : Grown W) : W.heap.size ≤ x.val.heap.size := by
  obtain ⟨V, q, os, rfl⟩ := x
  simp
set_option maxHeartbeats 400000 in
theorem idU_any (r : SubD) (W : World) :
    Calls Tryz.prog 88 #[.agg #[.int .i64 r.v.id, .slice r.V r.v.vals.length r.c]] W fun e w' => e = .returned (.int .i64 r.v.id) ∧ w' = W.alloc (.cells #[.int .i64 r.v.id, .slice r.V r.v.vals.length r.c] 56) := by
  go_enter Tryz.func88, Tryz.ntmps88
  go_wp2
  go_ret
  exact ⟨rfl, rfl⟩
set_option maxRecDepth 100000 in
set_option maxHeartbeats 2000000 in
theorem compareU_any (x y : SubD) (fb : Nat) (W : World) (hfb : fb < W.heap.size) (bf0 : W.cell? ⟨fb, 0, none⟩ = some (.func (.func 88) #[] #[])) :
    Calls Tryz.prog 119 #[.agg #[.int .i64 x.v.id, .slice x.V x.v.vals.length x.c], .agg #[.int .i64 y.v.id, .slice y.V y.v.vals.length y.c], .slice (some ⟨fb, 0, none⟩) 1 1] W fun e w' => e = .returned (.int .i64 (Lib.compareInt x.v.id y.v.id)) ∧ ∃ q os, w' = Sort.grow (W.drewN q) os := by
  have HX := Lib.hid (fun V => idU_any x V)
  have HY := Lib.hid (fun V => idU_any y V)
  have HC := Lib.hid (fun V => cmpInt_any x.v.id y.v.id V)
  generalize Lib.compareInt x.v.id y.v.id = c1 at HC ⊢
  have k0 := (Blk.new W #[.int .i64 x.v.id, .slice x.V x.v.vals.length x.c] 56).alloc (.cells #[.int .i64 y.v.id, .slice y.V y.v.vals.length y.c] 56)
  have k1 := Blk.new (W.alloc (.cells #[.int .i64 x.v.id, .slice x.V x.v.vals.length x.c] 56)) #[.int .i64 y.v.id, .slice y.V y.v.vals.length y.c] 56
  rw [World.size_alloc] at k1
  have hb2 : Below W.heap.size W ((W.alloc (.cells #[.int .i64 x.v.id, .slice x.V x.v.vals.length x.c] 56)).alloc (.cells #[.int .i64 y.v.id, .slice y.V y.v.vals.length y.c] 56)) := ((Below.refl _ _).alloc (Nat.le_refl _) _).alloc (by simp) _
  have hf0 := (hb2.cell (p := ⟨fb, 0, none⟩) hfb).trans bf0
  have hg := Grown.trans (Grown.alloc W (.cells #[.int .i64 x.v.id, .slice x.V x.v.vals.length x.c] 56)) (Grown.alloc _ (.cells #[.int .i64 y.v.id, .slice y.V y.v.vals.length y.c] 56))
  have hfb2 : fb < ((W.alloc (.cells #[.int .i64 x.v.id, .slice x.V x.v.vals.length x.c] 56)).alloc (.cells #[.int .i64 y.v.id, .slice y.V y.v.vals.length y.c] 56)).heap.size := Nat.lt_of_lt_of_le hfb hb2.size
  clear bf0 hb2 hfb
  go_enter Tryz.func119, Tryz.ntmps119
  go_wp2_with fail
  generalize hW2 : (W.alloc (.cells #[.int .i64 x.v.id, .slice x.V x.v.vals.length x.c] 56)).alloc (.cells #[.int .i64 y.v.id, .slice y.V y.v.vals.length y.c] 56) = W2 at *
  clear hW2
  generalize W.heap.size = hs at *
  go_loopw [12] (fun ii wr => ∃ i : Nat, ii = .int .i64 i ∧ Hid ((i = 0 ∨ i = 1 ∧ c1 = 0) ∧ ∃ q os, wr = Sort.grow (W2.drewN q) os)) (fun ii _ => 1 - (vInt ii).toNat)
  case atStart => exact ⟨0, rfl, Lib.hid ⟨.inl rfl, Grown.zero W2⟩⟩
  case round =>
    obtain ⟨i, rfl, hR⟩ := hrel
    obtain ⟨hc, hgr⟩ := hR.out
    have r0 := Grown.cells k0.cell k0.lt ⟨wr, hgr⟩
    have r1 := Grown.cells k1.cell k1.lt ⟨wr, hgr⟩
    have rf0 := Grown.cell hf0 hfb2 ⟨wr, hgr⟩
    have hle := Grown.size ⟨wr, hgr⟩
    have b0 := k0.lt
    have b1 := k1.lt
    dsimp only at r0 r1 rf0 hle
    have l0 : hs < wr.heap.size := by omega
    have l1 : hs + 1 < wr.heap.size := by omega
    have g0 := Grown.cells r0 l0
    have g1 := Grown.cells r1 l1
    have Hk0 := Lib.hid k0
    have Hk1 := Lib.hid k1
    clear k0 k1 hR hle b0 b1 r0 r1
    have HGW := Lib.hid (fun U (h : ∃ q os, U = Sort.grow (wr.drewN q) os) => Grown.trans hg (Grown.trans hgr h))
    have HG2 := Lib.hid (fun U (h : ∃ q os, U = Sort.grow (wr.drewN q) os) => Grown.trans hgr h)
    have hfin := Grown.trans hg hgr
    rcases hc with rfl | ⟨rfl, h1⟩
    · by_cases hz : c1 = 0
      · have ez : (c1 != 0) = false := by simp [hz]
        have Hz := Lib.hid hz
        clear hz hfin
        go_upto_region 4 with fail
        refine wp_region_class_lit (C := fun w' => ∃ z : Grown wr, w' = z.val) (by kernel_rfl) (by kernel_rfl) ⟨⟨_, Grown.drew wr⟩, rfl⟩ ?_
        repeat (go_big_quiet_step ((first
          | (go_at_call 88; with_reducible exact grown_of _ ((HX.out _).mono fun _ _ ⟨h1, h2⟩ => ⟨h1, h2 ▸ Grown.alloc _ _⟩))
          | (go_at_call 88; with_reducible exact grown_of _ ((HY.out _).mono fun _ _ ⟨h1, h2⟩ => ⟨h1, h2 ▸ Grown.alloc _ _⟩))
          | (go_at_call 142; with_reducible exact grown_of _ ((HC.out _).mono fun _ _ ⟨h1, h2⟩ => ⟨h1, h2 ▸ Grown.zero _⟩)))))
        refine wpQuiet_nil ?_
        intro _ hw'
        obtain ⟨⟨wz, hz⟩, hw''⟩ := hw'
        dsimp only at hw''
        subst hw''
        go_wp2_with fail
        go_roundw
        case rel => exact ⟨1, by go_num, Lib.hid ⟨.inr ⟨rfl, Hz.out⟩, HG2.out _ hz⟩⟩
        case measure => simp [vInt]
      · have ez : (c1 != 0) = true := by simpa using hz
        have Hz := Lib.hid hz
        clear hz hfin
        go_upto_region 4 with fail
        refine wp_region_class_lit (C := fun w' => ∃ z : Grown wr, w' = z.val) (by kernel_rfl) (by kernel_rfl) ⟨⟨_, Grown.drew wr⟩, rfl⟩ ?_
        repeat (go_big_quiet_step ((first
          | (go_at_call 88; with_reducible exact grown_of _ ((HX.out _).mono fun _ _ ⟨h1, h2⟩ => ⟨h1, h2 ▸ Grown.alloc _ _⟩))
          | (go_at_call 88; with_reducible exact grown_of _ ((HY.out _).mono fun _ _ ⟨h1, h2⟩ => ⟨h1, h2 ▸ Grown.alloc _ _⟩))
          | (go_at_call 142; with_reducible exact grown_of _ ((HC.out _).mono fun _ _ ⟨h1, h2⟩ => ⟨h1, h2 ▸ Grown.zero _⟩)))))
        refine wpQuiet_nil ?_
        intro _ hw'
        obtain ⟨⟨wz, hz⟩, hw''⟩ := hw'
        dsimp only at hw''
        subst hw''
        go_wp2_with fail
        go_ret
        exact ⟨rfl, HGW.out _ hz⟩
    · have H1 := Lib.hid h1
      clear h1
      go_wp2_with fail
      go_ret
      exact ⟨ret_int H1.out.symm, hfin⟩
/-- The slice of the one number lies in block kb, the function in block fb. -/
def ByU (W : World) (kb fb : Nat) : Prop := kb < W.heap.size ∧ fb < W.heap.size ∧ W.cell? ⟨kb, 0, none⟩ = some (.slice (some ⟨fb, 0, none⟩) 1 1) ∧ W.cell? ⟨fb, 0, none⟩ = some (.func (.func 88) #[] #[])
set_option maxRecDepth 100000 in
set_option maxHeartbeats 2000000 in
theorem cmpU_any (x y : SubD) (kb fb : Nat) (W : World) (hb : ByU W kb fb) :
    Calls Tryz.prog 118 #[.agg #[.int .i64 x.v.id, .slice x.V x.v.vals.length x.c], .agg #[.int .i64 y.v.id, .slice y.V y.v.vals.length y.c], .pointer (some ⟨kb, 0, none⟩)] W fun e w' => e = .returned (.int .i64 (Lib.compareInt x.v.id y.v.id)) ∧ ∃ q os, w' = Sort.grow (W.drewN q) os := by
  obtain ⟨hkb, hfb, bk, bf0⟩ := hb
  have k0 := ((Blk.new W #[.int .i64 x.v.id, .slice x.V x.v.vals.length x.c] 56).alloc (.cells #[.int .i64 y.v.id, .slice y.V y.v.vals.length y.c] 56)).cell
  have k1 := (newAt' (W.alloc (.cells #[.int .i64 x.v.id, .slice x.V x.v.vals.length x.c] 56)) #[.int .i64 y.v.id, .slice y.V y.v.vals.length y.c] 56 (g := W.heap.size + 1) (by simp)).cell
  have hb2 : Below W.heap.size W ((W.alloc (.cells #[.int .i64 x.v.id, .slice x.V x.v.vals.length x.c] 56)).alloc (.cells #[.int .i64 y.v.id, .slice y.V y.v.vals.length y.c] 56)) := ((Below.refl _ _).alloc (Nat.le_refl _) _).alloc (by simp) _
  have hk2 := (hb2.cell (p := ⟨kb, 0, none⟩) hkb).trans bk
  have hg := Grown.trans (Grown.alloc W (.cells #[.int .i64 x.v.id, .slice x.V x.v.vals.length x.c] 56)) (Grown.alloc _ (.cells #[.int .i64 y.v.id, .slice y.V y.v.vals.length y.c] 56))
  have HC := Lib.hid (compareU_any x y fb _ (Nat.lt_of_lt_of_le hfb hb2.size) ((hb2.cell (p := ⟨fb, 0, none⟩) hfb).trans bf0))
  generalize Lib.compareInt x.v.id y.v.id = c1 at *
  clear bf0 bk hb2
  go_enter Tryz.func118, Tryz.ntmps118
  go_wp2_with (go_at_call 119; (with_reducible refine (HC.out).mono ?_); rintro e w1 ⟨rfl, h1⟩; have H1 := Lib.hid h1; clear h1)
  go_ret
  exact ⟨rfl, Grown.trans hg H1.out⟩
end Go.Proofs.YtbkekdbabkncfaaGreat
