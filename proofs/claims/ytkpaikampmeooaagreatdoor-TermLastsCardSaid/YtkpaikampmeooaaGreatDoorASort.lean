/- Reports put in order by two numbers: what the program's order.By compares, at the day on which they were made, and at the day that they are about. Written by gensort4.py (order.By by order.Compare, as from 09bc421). -/
import Derived.Test.YtkpaikampmeooaaGreatDoorAShelf
import Derived.Test.YtkpaikampmeooaaGreatDoorTCardP2

namespace Go.Proofs.YtkpaikampmeooaaGreatDoor
open Go.RowKit Go.Shelf

theorem cmpInt_any (x y : Int) (W : World) : Calls Tryz.prog 119 #[.int .i64 x, .int .i64 y] W fun e w' => e = .returned (.int .i64 (Lib.compareInt x y)) ∧ w' = W :=
  AnyG.cmp_Compare_int Tryz.cmpInt x y W
/-- The first number decides, and where it is the same the second. -/
def lexI (c d : Int) : Int := if c = 0 then d else c
theorem Grown.size {W : World} (x : Grown W) : W.heap.size ≤ x.val.heap.size := by
  obtain ⟨V, q, os, rfl⟩ := x
  simp
set_option maxHeartbeats 400000 in
theorem idOf_any (r : Rep) (W : World) :
    Calls Tryz.prog 84 #[.agg #[.int .i64 r.id, .int .i64 r.src, .int .i64 r.acc, .int .i64 r.made, .int .i64 r.about, .int .u8 r.kind, .int .i64 r.cents, .int .i64 r.of_]] W fun e w' => e = .returned (.int .i64 r.id) ∧ w' = W.alloc (.cells #[.int .i64 r.id, .int .i64 r.src, .int .i64 r.acc, .int .i64 r.made, .int .i64 r.about, .int .u8 r.kind, .int .i64 r.cents, .int .i64 r.of_] 56) := by
  go_enter Tryz.func84, Tryz.ntmps84
  go_wp2
  go_ret
  exact ⟨rfl, rfl⟩
set_option maxHeartbeats 400000 in
theorem madeOf_any (r : Rep) (W : World) :
    Calls Tryz.prog 115 #[.agg #[.int .i64 r.id, .int .i64 r.src, .int .i64 r.acc, .int .i64 r.made, .int .i64 r.about, .int .u8 r.kind, .int .i64 r.cents, .int .i64 r.of_]] W fun e w' => e = .returned (.int .i64 r.made) ∧ w' = W.alloc (.cells #[.int .i64 r.id, .int .i64 r.src, .int .i64 r.acc, .int .i64 r.made, .int .i64 r.about, .int .u8 r.kind, .int .i64 r.cents, .int .i64 r.of_] 56) := by
  go_enter Tryz.func115, Tryz.ntmps115
  go_wp2
  go_ret
  exact ⟨rfl, rfl⟩
set_option maxHeartbeats 400000 in
theorem aboutOf_any (r : Rep) (W : World) :
    Calls Tryz.prog 83 #[.agg #[.int .i64 r.id, .int .i64 r.src, .int .i64 r.acc, .int .i64 r.made, .int .i64 r.about, .int .u8 r.kind, .int .i64 r.cents, .int .i64 r.of_]] W fun e w' => e = .returned (.int .i64 r.about) ∧ w' = W.alloc (.cells #[.int .i64 r.id, .int .i64 r.src, .int .i64 r.acc, .int .i64 r.made, .int .i64 r.about, .int .u8 r.kind, .int .i64 r.cents, .int .i64 r.of_] 56) := by
  go_enter Tryz.func83, Tryz.ntmps83
  go_wp2
  go_ret
  exact ⟨rfl, rfl⟩
/-- The slice of both numbers lies in block kb, the functions in block fb. -/
def ByM (W : World) (kb fb : Nat) : Prop := kb < W.heap.size ∧ fb < W.heap.size ∧ W.cell? ⟨kb, 0, none⟩ = some (.slice (some ⟨fb, 0, none⟩) 2 2) ∧ W.cell? ⟨fb, 0, none⟩ = some (.func (.func 115) #[] #[]) ∧ W.cell? ⟨fb, 1, none⟩ = some (.func (.func 84) #[] #[])
set_option maxRecDepth 100000 in
set_option maxHeartbeats 2000000 in
theorem compareM_any (x y : Rep) (fb : Nat) (W : World) (hfb : fb < W.heap.size) (bf0 : W.cell? ⟨fb, 0, none⟩ = some (.func (.func 115) #[] #[])) (bf1 : W.cell? ⟨fb, 1, none⟩ = some (.func (.func 84) #[] #[])) :
    Calls Tryz.prog 106 #[.agg #[.int .i64 x.id, .int .i64 x.src, .int .i64 x.acc, .int .i64 x.made, .int .i64 x.about, .int .u8 x.kind, .int .i64 x.cents, .int .i64 x.of_], .agg #[.int .i64 y.id, .int .i64 y.src, .int .i64 y.acc, .int .i64 y.made, .int .i64 y.about, .int .u8 y.kind, .int .i64 y.cents, .int .i64 y.of_], .slice (some ⟨fb, 0, none⟩) 2 2] W fun e w' => e = .returned (.int .i64 (lexI (Lib.compareInt x.made y.made) (Lib.compareInt x.id y.id))) ∧ ∃ q os, w' = Sort.grow (W.drewN q) os := by
  have HX := Lib.hid (fun V => madeOf_any x V)
  have HY := Lib.hid (fun V => madeOf_any y V)
  have HC := Lib.hid (fun V => cmpInt_any x.made y.made V)
  have HX2 := Lib.hid (fun V => idOf_any x V)
  have HY2 := Lib.hid (fun V => idOf_any y V)
  have HC2 := Lib.hid (fun V => cmpInt_any x.id y.id V)
  generalize Lib.compareInt x.made y.made = c1 at HC ⊢
  generalize Lib.compareInt x.id y.id = c2 at HC2 ⊢
  have k0 := (Blk.new W #[.int .i64 x.id, .int .i64 x.src, .int .i64 x.acc, .int .i64 x.made, .int .i64 x.about, .int .u8 x.kind, .int .i64 x.cents, .int .i64 x.of_] 56).alloc (.cells #[.int .i64 y.id, .int .i64 y.src, .int .i64 y.acc, .int .i64 y.made, .int .i64 y.about, .int .u8 y.kind, .int .i64 y.cents, .int .i64 y.of_] 56)
  have k1 := Blk.new (W.alloc (.cells #[.int .i64 x.id, .int .i64 x.src, .int .i64 x.acc, .int .i64 x.made, .int .i64 x.about, .int .u8 x.kind, .int .i64 x.cents, .int .i64 x.of_] 56)) #[.int .i64 y.id, .int .i64 y.src, .int .i64 y.acc, .int .i64 y.made, .int .i64 y.about, .int .u8 y.kind, .int .i64 y.cents, .int .i64 y.of_] 56
  rw [World.size_alloc] at k1
  have hb2 : Below W.heap.size W ((W.alloc (.cells #[.int .i64 x.id, .int .i64 x.src, .int .i64 x.acc, .int .i64 x.made, .int .i64 x.about, .int .u8 x.kind, .int .i64 x.cents, .int .i64 x.of_] 56)).alloc (.cells #[.int .i64 y.id, .int .i64 y.src, .int .i64 y.acc, .int .i64 y.made, .int .i64 y.about, .int .u8 y.kind, .int .i64 y.cents, .int .i64 y.of_] 56)) := ((Below.refl _ _).alloc (Nat.le_refl _) _).alloc (by simp) _
  have hf0 := (hb2.cell (p := ⟨fb, 0, none⟩) hfb).trans bf0
  have hf1 := (hb2.cell (p := ⟨fb, 1, none⟩) hfb).trans bf1
  have hg := Grown.trans (Grown.alloc W (.cells #[.int .i64 x.id, .int .i64 x.src, .int .i64 x.acc, .int .i64 x.made, .int .i64 x.about, .int .u8 x.kind, .int .i64 x.cents, .int .i64 x.of_] 56)) (Grown.alloc _ (.cells #[.int .i64 y.id, .int .i64 y.src, .int .i64 y.acc, .int .i64 y.made, .int .i64 y.about, .int .u8 y.kind, .int .i64 y.cents, .int .i64 y.of_] 56))
  have hfb2 : fb < ((W.alloc (.cells #[.int .i64 x.id, .int .i64 x.src, .int .i64 x.acc, .int .i64 x.made, .int .i64 x.about, .int .u8 x.kind, .int .i64 x.cents, .int .i64 x.of_] 56)).alloc (.cells #[.int .i64 y.id, .int .i64 y.src, .int .i64 y.acc, .int .i64 y.made, .int .i64 y.about, .int .u8 y.kind, .int .i64 y.cents, .int .i64 y.of_] 56)).heap.size := Nat.lt_of_lt_of_le hfb hb2.size
  clear bf0 bf1 hb2 hfb
  go_enter Tryz.func106, Tryz.ntmps106
  go_wp2_with fail
  generalize hW2 : (W.alloc (.cells #[.int .i64 x.id, .int .i64 x.src, .int .i64 x.acc, .int .i64 x.made, .int .i64 x.about, .int .u8 x.kind, .int .i64 x.cents, .int .i64 x.of_] 56)).alloc (.cells #[.int .i64 y.id, .int .i64 y.src, .int .i64 y.acc, .int .i64 y.made, .int .i64 y.about, .int .u8 y.kind, .int .i64 y.cents, .int .i64 y.of_] 56) = W2 at *
  clear hW2
  generalize W.heap.size = hs at *
  go_loopw [12] (fun ii wr => ∃ i : Nat, ii = .int .i64 i ∧ Hid ((i = 0 ∨ i = 1 ∧ c1 = 0 ∨ i = 2 ∧ c1 = 0 ∧ c2 = 0) ∧ ∃ q os, wr = Sort.grow (W2.drewN q) os)) (fun ii _ => 2 - (vInt ii).toNat)
  case atStart => exact ⟨0, rfl, Lib.hid ⟨.inl rfl, Grown.zero W2⟩⟩
  case round =>
    obtain ⟨i, rfl, hR⟩ := hrel
    obtain ⟨hc, hgr⟩ := hR.out
    have r0 := Grown.cells k0.cell k0.lt ⟨wr, hgr⟩
    have r1 := Grown.cells k1.cell k1.lt ⟨wr, hgr⟩
    have rf0 := Grown.cell hf0 hfb2 ⟨wr, hgr⟩
    have rf1 := Grown.cell hf1 hfb2 ⟨wr, hgr⟩
    have hle := Grown.size ⟨wr, hgr⟩
    have b0 := k0.lt
    have b1 := k1.lt
    dsimp only at r0 r1 rf0 rf1 hle
    have l0 : hs < wr.heap.size := by omega
    have l1 : hs + 1 < wr.heap.size := by omega
    have g0 := Grown.cells r0 l0
    have g1 := Grown.cells r1 l1
    have Hk0 := Lib.hid k0
    have Hk1 := Lib.hid k1
    clear k0 k1 hR hle b0 b1 r0 r1
    have HGW := Lib.hid (fun U (h : ∃ q os, U = Sort.grow (wr.drewN q) os) => Grown.trans hg (Grown.trans hgr h))
    have HG2 := Lib.hid (fun U (h : ∃ q os, U = Sort.grow (wr.drewN q) os) => Grown.trans hgr h)
    have hfin := Grown.trans hg hgr
    rcases hc with rfl | ⟨rfl, h1⟩ | ⟨rfl, h1, h2⟩
    · by_cases hz : c1 = 0
      · have ez : (c1 != 0) = false := by simp [hz]
        have Hz := Lib.hid hz
        clear hz hfin
        go_upto_region 4 with fail
        refine wp_region_class_lit (C := fun w' => ∃ z : Grown wr, w' = z.val) (by kernel_rfl) (by kernel_rfl) ⟨⟨_, Grown.drew wr⟩, rfl⟩ ?_
        repeat (go_big_quiet_step ((first
          | (go_at_call 115; with_reducible exact grown_of _ ((HX.out _).mono fun _ _ ⟨h1, h2⟩ => ⟨h1, h2 ▸ Grown.alloc _ _⟩))
          | (go_at_call 115; with_reducible exact grown_of _ ((HY.out _).mono fun _ _ ⟨h1, h2⟩ => ⟨h1, h2 ▸ Grown.alloc _ _⟩))
          | (go_at_call 119; with_reducible exact grown_of _ ((HC.out _).mono fun _ _ ⟨h1, h2⟩ => ⟨h1, h2 ▸ Grown.zero _⟩)))))
        refine wpQuiet_nil ?_
        intro _ hw'
        obtain ⟨⟨wz, hz⟩, hw''⟩ := hw'
        dsimp only at hw''
        subst hw''
        go_wp2_with fail
        go_roundw
        case rel => exact ⟨1, by go_num, Lib.hid ⟨.inr (.inl ⟨rfl, Hz.out⟩), HG2.out _ hz⟩⟩
        case measure => simp [vInt]
      · have ez : (c1 != 0) = true := by simpa using hz
        have Hz := Lib.hid hz
        clear hz hfin
        go_upto_region 4 with fail
        refine wp_region_class_lit (C := fun w' => ∃ z : Grown wr, w' = z.val) (by kernel_rfl) (by kernel_rfl) ⟨⟨_, Grown.drew wr⟩, rfl⟩ ?_
        repeat (go_big_quiet_step ((first
          | (go_at_call 115; with_reducible exact grown_of _ ((HX.out _).mono fun _ _ ⟨h1, h2⟩ => ⟨h1, h2 ▸ Grown.alloc _ _⟩))
          | (go_at_call 115; with_reducible exact grown_of _ ((HY.out _).mono fun _ _ ⟨h1, h2⟩ => ⟨h1, h2 ▸ Grown.alloc _ _⟩))
          | (go_at_call 119; with_reducible exact grown_of _ ((HC.out _).mono fun _ _ ⟨h1, h2⟩ => ⟨h1, h2 ▸ Grown.zero _⟩)))))
        refine wpQuiet_nil ?_
        intro _ hw'
        obtain ⟨⟨wz, hz⟩, hw''⟩ := hw'
        dsimp only at hw''
        subst hw''
        go_wp2_with fail
        go_ret
        exact ⟨ret_int (by unfold lexI; rw [if_neg Hz.out]), HGW.out _ hz⟩
    · by_cases hz : c2 = 0
      · have ez : (c2 != 0) = false := by simp [hz]
        have Hz := Lib.hid hz
        clear hz hfin
        go_upto_region 4 with fail
        refine wp_region_class_lit (C := fun w' => ∃ z : Grown wr, w' = z.val) (by kernel_rfl) (by kernel_rfl) ⟨⟨_, Grown.drew wr⟩, rfl⟩ ?_
        repeat (go_big_quiet_step ((first
          | (go_at_call 84; with_reducible exact grown_of _ ((HX2.out _).mono fun _ _ ⟨h1, h2⟩ => ⟨h1, h2 ▸ Grown.alloc _ _⟩))
          | (go_at_call 84; with_reducible exact grown_of _ ((HY2.out _).mono fun _ _ ⟨h1, h2⟩ => ⟨h1, h2 ▸ Grown.alloc _ _⟩))
          | (go_at_call 119; with_reducible exact grown_of _ ((HC2.out _).mono fun _ _ ⟨h1, h2⟩ => ⟨h1, h2 ▸ Grown.zero _⟩)))))
        refine wpQuiet_nil ?_
        intro _ hw'
        obtain ⟨⟨wz, hz⟩, hw''⟩ := hw'
        dsimp only at hw''
        subst hw''
        go_wp2_with fail
        go_roundw
        case rel => exact ⟨2, by go_num, Lib.hid ⟨.inr (.inr ⟨rfl, h1, Hz.out⟩), HG2.out _ hz⟩⟩
        case measure => simp [vInt]
      · have ez : (c2 != 0) = true := by simpa using hz
        have Hz := Lib.hid hz
        clear hz hfin
        go_upto_region 4 with fail
        refine wp_region_class_lit (C := fun w' => ∃ z : Grown wr, w' = z.val) (by kernel_rfl) (by kernel_rfl) ⟨⟨_, Grown.drew wr⟩, rfl⟩ ?_
        repeat (go_big_quiet_step ((first
          | (go_at_call 84; with_reducible exact grown_of _ ((HX2.out _).mono fun _ _ ⟨h1, h2⟩ => ⟨h1, h2 ▸ Grown.alloc _ _⟩))
          | (go_at_call 84; with_reducible exact grown_of _ ((HY2.out _).mono fun _ _ ⟨h1, h2⟩ => ⟨h1, h2 ▸ Grown.alloc _ _⟩))
          | (go_at_call 119; with_reducible exact grown_of _ ((HC2.out _).mono fun _ _ ⟨h1, h2⟩ => ⟨h1, h2 ▸ Grown.zero _⟩)))))
        refine wpQuiet_nil ?_
        intro _ hw'
        obtain ⟨⟨wz, hz⟩, hw''⟩ := hw'
        dsimp only at hw''
        subst hw''
        go_wp2_with fail
        go_ret
        exact ⟨ret_int (by unfold lexI; rw [if_pos h1]), HGW.out _ hz⟩
    · go_wp2_with fail
      go_ret
      exact ⟨ret_int (by unfold lexI; rw [if_pos h1, h2]), hfin⟩
set_option maxRecDepth 100000 in
set_option maxHeartbeats 2000000 in
theorem cmpM_any (x y : Rep) (kb fb : Nat) (W : World) (hb : ByM W kb fb) :
    Calls Tryz.prog 105 #[.agg #[.int .i64 x.id, .int .i64 x.src, .int .i64 x.acc, .int .i64 x.made, .int .i64 x.about, .int .u8 x.kind, .int .i64 x.cents, .int .i64 x.of_], .agg #[.int .i64 y.id, .int .i64 y.src, .int .i64 y.acc, .int .i64 y.made, .int .i64 y.about, .int .u8 y.kind, .int .i64 y.cents, .int .i64 y.of_], .pointer (some ⟨kb, 0, none⟩)] W fun e w' => e = .returned (.int .i64 (lexI (Lib.compareInt x.made y.made) (Lib.compareInt x.id y.id))) ∧ ∃ q os, w' = Sort.grow (W.drewN q) os := by
  obtain ⟨hkb, hfb, bk, bf0, bf1⟩ := hb
  have k0 := ((Blk.new W #[.int .i64 x.id, .int .i64 x.src, .int .i64 x.acc, .int .i64 x.made, .int .i64 x.about, .int .u8 x.kind, .int .i64 x.cents, .int .i64 x.of_] 56).alloc (.cells #[.int .i64 y.id, .int .i64 y.src, .int .i64 y.acc, .int .i64 y.made, .int .i64 y.about, .int .u8 y.kind, .int .i64 y.cents, .int .i64 y.of_] 56)).cell
  have k1 := (newAt' (W.alloc (.cells #[.int .i64 x.id, .int .i64 x.src, .int .i64 x.acc, .int .i64 x.made, .int .i64 x.about, .int .u8 x.kind, .int .i64 x.cents, .int .i64 x.of_] 56)) #[.int .i64 y.id, .int .i64 y.src, .int .i64 y.acc, .int .i64 y.made, .int .i64 y.about, .int .u8 y.kind, .int .i64 y.cents, .int .i64 y.of_] 56 (g := W.heap.size + 1) (by simp)).cell
  have hb2 : Below W.heap.size W ((W.alloc (.cells #[.int .i64 x.id, .int .i64 x.src, .int .i64 x.acc, .int .i64 x.made, .int .i64 x.about, .int .u8 x.kind, .int .i64 x.cents, .int .i64 x.of_] 56)).alloc (.cells #[.int .i64 y.id, .int .i64 y.src, .int .i64 y.acc, .int .i64 y.made, .int .i64 y.about, .int .u8 y.kind, .int .i64 y.cents, .int .i64 y.of_] 56)) := ((Below.refl _ _).alloc (Nat.le_refl _) _).alloc (by simp) _
  have hk2 := (hb2.cell (p := ⟨kb, 0, none⟩) hkb).trans bk
  have hg := Grown.trans (Grown.alloc W (.cells #[.int .i64 x.id, .int .i64 x.src, .int .i64 x.acc, .int .i64 x.made, .int .i64 x.about, .int .u8 x.kind, .int .i64 x.cents, .int .i64 x.of_] 56)) (Grown.alloc _ (.cells #[.int .i64 y.id, .int .i64 y.src, .int .i64 y.acc, .int .i64 y.made, .int .i64 y.about, .int .u8 y.kind, .int .i64 y.cents, .int .i64 y.of_] 56))
  have HC := Lib.hid (compareM_any x y fb _ (Nat.lt_of_lt_of_le hfb hb2.size) ((hb2.cell (p := ⟨fb, 0, none⟩) hfb).trans bf0) ((hb2.cell (p := ⟨fb, 1, none⟩) hfb).trans bf1))
  generalize lexI (Lib.compareInt x.made y.made) (Lib.compareInt x.id y.id) = c1 at *
  clear bf0 bf1 bk hb2
  go_enter Tryz.func105, Tryz.ntmps105
  go_wp2_with (go_at_call 106; (with_reducible refine (HC.out).mono ?_); rintro e w1 ⟨rfl, h1⟩; have H1 := Lib.hid h1; clear h1)
  go_ret
  exact ⟨rfl, Grown.trans hg H1.out⟩

/-- The slice of both numbers lies in block kb, the functions in block fb. -/
def ByA (W : World) (kb fb : Nat) : Prop := kb < W.heap.size ∧ fb < W.heap.size ∧ W.cell? ⟨kb, 0, none⟩ = some (.slice (some ⟨fb, 0, none⟩) 2 2) ∧ W.cell? ⟨fb, 0, none⟩ = some (.func (.func 83) #[] #[]) ∧ W.cell? ⟨fb, 1, none⟩ = some (.func (.func 84) #[] #[])
set_option maxRecDepth 100000 in
set_option maxHeartbeats 2000000 in
theorem compareA_any (x y : Rep) (fb : Nat) (W : World) (hfb : fb < W.heap.size) (bf0 : W.cell? ⟨fb, 0, none⟩ = some (.func (.func 83) #[] #[])) (bf1 : W.cell? ⟨fb, 1, none⟩ = some (.func (.func 84) #[] #[])) :
    Calls Tryz.prog 106 #[.agg #[.int .i64 x.id, .int .i64 x.src, .int .i64 x.acc, .int .i64 x.made, .int .i64 x.about, .int .u8 x.kind, .int .i64 x.cents, .int .i64 x.of_], .agg #[.int .i64 y.id, .int .i64 y.src, .int .i64 y.acc, .int .i64 y.made, .int .i64 y.about, .int .u8 y.kind, .int .i64 y.cents, .int .i64 y.of_], .slice (some ⟨fb, 0, none⟩) 2 2] W fun e w' => e = .returned (.int .i64 (lexI (Lib.compareInt x.about y.about) (Lib.compareInt x.id y.id))) ∧ ∃ q os, w' = Sort.grow (W.drewN q) os := by
  have HX := Lib.hid (fun V => aboutOf_any x V)
  have HY := Lib.hid (fun V => aboutOf_any y V)
  have HC := Lib.hid (fun V => cmpInt_any x.about y.about V)
  have HX2 := Lib.hid (fun V => idOf_any x V)
  have HY2 := Lib.hid (fun V => idOf_any y V)
  have HC2 := Lib.hid (fun V => cmpInt_any x.id y.id V)
  generalize Lib.compareInt x.about y.about = c1 at HC ⊢
  generalize Lib.compareInt x.id y.id = c2 at HC2 ⊢
  have k0 := (Blk.new W #[.int .i64 x.id, .int .i64 x.src, .int .i64 x.acc, .int .i64 x.made, .int .i64 x.about, .int .u8 x.kind, .int .i64 x.cents, .int .i64 x.of_] 56).alloc (.cells #[.int .i64 y.id, .int .i64 y.src, .int .i64 y.acc, .int .i64 y.made, .int .i64 y.about, .int .u8 y.kind, .int .i64 y.cents, .int .i64 y.of_] 56)
  have k1 := Blk.new (W.alloc (.cells #[.int .i64 x.id, .int .i64 x.src, .int .i64 x.acc, .int .i64 x.made, .int .i64 x.about, .int .u8 x.kind, .int .i64 x.cents, .int .i64 x.of_] 56)) #[.int .i64 y.id, .int .i64 y.src, .int .i64 y.acc, .int .i64 y.made, .int .i64 y.about, .int .u8 y.kind, .int .i64 y.cents, .int .i64 y.of_] 56
  rw [World.size_alloc] at k1
  have hb2 : Below W.heap.size W ((W.alloc (.cells #[.int .i64 x.id, .int .i64 x.src, .int .i64 x.acc, .int .i64 x.made, .int .i64 x.about, .int .u8 x.kind, .int .i64 x.cents, .int .i64 x.of_] 56)).alloc (.cells #[.int .i64 y.id, .int .i64 y.src, .int .i64 y.acc, .int .i64 y.made, .int .i64 y.about, .int .u8 y.kind, .int .i64 y.cents, .int .i64 y.of_] 56)) := ((Below.refl _ _).alloc (Nat.le_refl _) _).alloc (by simp) _
  have hf0 := (hb2.cell (p := ⟨fb, 0, none⟩) hfb).trans bf0
  have hf1 := (hb2.cell (p := ⟨fb, 1, none⟩) hfb).trans bf1
  have hg := Grown.trans (Grown.alloc W (.cells #[.int .i64 x.id, .int .i64 x.src, .int .i64 x.acc, .int .i64 x.made, .int .i64 x.about, .int .u8 x.kind, .int .i64 x.cents, .int .i64 x.of_] 56)) (Grown.alloc _ (.cells #[.int .i64 y.id, .int .i64 y.src, .int .i64 y.acc, .int .i64 y.made, .int .i64 y.about, .int .u8 y.kind, .int .i64 y.cents, .int .i64 y.of_] 56))
  have hfb2 : fb < ((W.alloc (.cells #[.int .i64 x.id, .int .i64 x.src, .int .i64 x.acc, .int .i64 x.made, .int .i64 x.about, .int .u8 x.kind, .int .i64 x.cents, .int .i64 x.of_] 56)).alloc (.cells #[.int .i64 y.id, .int .i64 y.src, .int .i64 y.acc, .int .i64 y.made, .int .i64 y.about, .int .u8 y.kind, .int .i64 y.cents, .int .i64 y.of_] 56)).heap.size := Nat.lt_of_lt_of_le hfb hb2.size
  clear bf0 bf1 hb2 hfb
  go_enter Tryz.func106, Tryz.ntmps106
  go_wp2_with fail
  generalize hW2 : (W.alloc (.cells #[.int .i64 x.id, .int .i64 x.src, .int .i64 x.acc, .int .i64 x.made, .int .i64 x.about, .int .u8 x.kind, .int .i64 x.cents, .int .i64 x.of_] 56)).alloc (.cells #[.int .i64 y.id, .int .i64 y.src, .int .i64 y.acc, .int .i64 y.made, .int .i64 y.about, .int .u8 y.kind, .int .i64 y.cents, .int .i64 y.of_] 56) = W2 at *
  clear hW2
  generalize W.heap.size = hs at *
  go_loopw [12] (fun ii wr => ∃ i : Nat, ii = .int .i64 i ∧ Hid ((i = 0 ∨ i = 1 ∧ c1 = 0 ∨ i = 2 ∧ c1 = 0 ∧ c2 = 0) ∧ ∃ q os, wr = Sort.grow (W2.drewN q) os)) (fun ii _ => 2 - (vInt ii).toNat)
  case atStart => exact ⟨0, rfl, Lib.hid ⟨.inl rfl, Grown.zero W2⟩⟩
  case round =>
    obtain ⟨i, rfl, hR⟩ := hrel
    obtain ⟨hc, hgr⟩ := hR.out
    have r0 := Grown.cells k0.cell k0.lt ⟨wr, hgr⟩
    have r1 := Grown.cells k1.cell k1.lt ⟨wr, hgr⟩
    have rf0 := Grown.cell hf0 hfb2 ⟨wr, hgr⟩
    have rf1 := Grown.cell hf1 hfb2 ⟨wr, hgr⟩
    have hle := Grown.size ⟨wr, hgr⟩
    have b0 := k0.lt
    have b1 := k1.lt
    dsimp only at r0 r1 rf0 rf1 hle
    have l0 : hs < wr.heap.size := by omega
    have l1 : hs + 1 < wr.heap.size := by omega
    have g0 := Grown.cells r0 l0
    have g1 := Grown.cells r1 l1
    have Hk0 := Lib.hid k0
    have Hk1 := Lib.hid k1
    clear k0 k1 hR hle b0 b1 r0 r1
    have HGW := Lib.hid (fun U (h : ∃ q os, U = Sort.grow (wr.drewN q) os) => Grown.trans hg (Grown.trans hgr h))
    have HG2 := Lib.hid (fun U (h : ∃ q os, U = Sort.grow (wr.drewN q) os) => Grown.trans hgr h)
    have hfin := Grown.trans hg hgr
    rcases hc with rfl | ⟨rfl, h1⟩ | ⟨rfl, h1, h2⟩
    · by_cases hz : c1 = 0
      · have ez : (c1 != 0) = false := by simp [hz]
        have Hz := Lib.hid hz
        clear hz hfin
        go_upto_region 4 with fail
        refine wp_region_class_lit (C := fun w' => ∃ z : Grown wr, w' = z.val) (by kernel_rfl) (by kernel_rfl) ⟨⟨_, Grown.drew wr⟩, rfl⟩ ?_
        repeat (go_big_quiet_step ((first
          | (go_at_call 83; with_reducible exact grown_of _ ((HX.out _).mono fun _ _ ⟨h1, h2⟩ => ⟨h1, h2 ▸ Grown.alloc _ _⟩))
          | (go_at_call 83; with_reducible exact grown_of _ ((HY.out _).mono fun _ _ ⟨h1, h2⟩ => ⟨h1, h2 ▸ Grown.alloc _ _⟩))
          | (go_at_call 119; with_reducible exact grown_of _ ((HC.out _).mono fun _ _ ⟨h1, h2⟩ => ⟨h1, h2 ▸ Grown.zero _⟩)))))
        refine wpQuiet_nil ?_
        intro _ hw'
        obtain ⟨⟨wz, hz⟩, hw''⟩ := hw'
        dsimp only at hw''
        subst hw''
        go_wp2_with fail
        go_roundw
        case rel => exact ⟨1, by go_num, Lib.hid ⟨.inr (.inl ⟨rfl, Hz.out⟩), HG2.out _ hz⟩⟩
        case measure => simp [vInt]
      · have ez : (c1 != 0) = true := by simpa using hz
        have Hz := Lib.hid hz
        clear hz hfin
        go_upto_region 4 with fail
        refine wp_region_class_lit (C := fun w' => ∃ z : Grown wr, w' = z.val) (by kernel_rfl) (by kernel_rfl) ⟨⟨_, Grown.drew wr⟩, rfl⟩ ?_
        repeat (go_big_quiet_step ((first
          | (go_at_call 83; with_reducible exact grown_of _ ((HX.out _).mono fun _ _ ⟨h1, h2⟩ => ⟨h1, h2 ▸ Grown.alloc _ _⟩))
          | (go_at_call 83; with_reducible exact grown_of _ ((HY.out _).mono fun _ _ ⟨h1, h2⟩ => ⟨h1, h2 ▸ Grown.alloc _ _⟩))
          | (go_at_call 119; with_reducible exact grown_of _ ((HC.out _).mono fun _ _ ⟨h1, h2⟩ => ⟨h1, h2 ▸ Grown.zero _⟩)))))
        refine wpQuiet_nil ?_
        intro _ hw'
        obtain ⟨⟨wz, hz⟩, hw''⟩ := hw'
        dsimp only at hw''
        subst hw''
        go_wp2_with fail
        go_ret
        exact ⟨ret_int (by unfold lexI; rw [if_neg Hz.out]), HGW.out _ hz⟩
    · by_cases hz : c2 = 0
      · have ez : (c2 != 0) = false := by simp [hz]
        have Hz := Lib.hid hz
        clear hz hfin
        go_upto_region 4 with fail
        refine wp_region_class_lit (C := fun w' => ∃ z : Grown wr, w' = z.val) (by kernel_rfl) (by kernel_rfl) ⟨⟨_, Grown.drew wr⟩, rfl⟩ ?_
        repeat (go_big_quiet_step ((first
          | (go_at_call 84; with_reducible exact grown_of _ ((HX2.out _).mono fun _ _ ⟨h1, h2⟩ => ⟨h1, h2 ▸ Grown.alloc _ _⟩))
          | (go_at_call 84; with_reducible exact grown_of _ ((HY2.out _).mono fun _ _ ⟨h1, h2⟩ => ⟨h1, h2 ▸ Grown.alloc _ _⟩))
          | (go_at_call 119; with_reducible exact grown_of _ ((HC2.out _).mono fun _ _ ⟨h1, h2⟩ => ⟨h1, h2 ▸ Grown.zero _⟩)))))
        refine wpQuiet_nil ?_
        intro _ hw'
        obtain ⟨⟨wz, hz⟩, hw''⟩ := hw'
        dsimp only at hw''
        subst hw''
        go_wp2_with fail
        go_roundw
        case rel => exact ⟨2, by go_num, Lib.hid ⟨.inr (.inr ⟨rfl, h1, Hz.out⟩), HG2.out _ hz⟩⟩
        case measure => simp [vInt]
      · have ez : (c2 != 0) = true := by simpa using hz
        have Hz := Lib.hid hz
        clear hz hfin
        go_upto_region 4 with fail
        refine wp_region_class_lit (C := fun w' => ∃ z : Grown wr, w' = z.val) (by kernel_rfl) (by kernel_rfl) ⟨⟨_, Grown.drew wr⟩, rfl⟩ ?_
        repeat (go_big_quiet_step ((first
          | (go_at_call 84; with_reducible exact grown_of _ ((HX2.out _).mono fun _ _ ⟨h1, h2⟩ => ⟨h1, h2 ▸ Grown.alloc _ _⟩))
          | (go_at_call 84; with_reducible exact grown_of _ ((HY2.out _).mono fun _ _ ⟨h1, h2⟩ => ⟨h1, h2 ▸ Grown.alloc _ _⟩))
          | (go_at_call 119; with_reducible exact grown_of _ ((HC2.out _).mono fun _ _ ⟨h1, h2⟩ => ⟨h1, h2 ▸ Grown.zero _⟩)))))
        refine wpQuiet_nil ?_
        intro _ hw'
        obtain ⟨⟨wz, hz⟩, hw''⟩ := hw'
        dsimp only at hw''
        subst hw''
        go_wp2_with fail
        go_ret
        exact ⟨ret_int (by unfold lexI; rw [if_pos h1]), HGW.out _ hz⟩
    · go_wp2_with fail
      go_ret
      exact ⟨ret_int (by unfold lexI; rw [if_pos h1, h2]), hfin⟩
set_option maxRecDepth 100000 in
set_option maxHeartbeats 2000000 in
theorem cmpA_any (x y : Rep) (kb fb : Nat) (W : World) (hb : ByA W kb fb) :
    Calls Tryz.prog 105 #[.agg #[.int .i64 x.id, .int .i64 x.src, .int .i64 x.acc, .int .i64 x.made, .int .i64 x.about, .int .u8 x.kind, .int .i64 x.cents, .int .i64 x.of_], .agg #[.int .i64 y.id, .int .i64 y.src, .int .i64 y.acc, .int .i64 y.made, .int .i64 y.about, .int .u8 y.kind, .int .i64 y.cents, .int .i64 y.of_], .pointer (some ⟨kb, 0, none⟩)] W fun e w' => e = .returned (.int .i64 (lexI (Lib.compareInt x.about y.about) (Lib.compareInt x.id y.id))) ∧ ∃ q os, w' = Sort.grow (W.drewN q) os := by
  obtain ⟨hkb, hfb, bk, bf0, bf1⟩ := hb
  have k0 := ((Blk.new W #[.int .i64 x.id, .int .i64 x.src, .int .i64 x.acc, .int .i64 x.made, .int .i64 x.about, .int .u8 x.kind, .int .i64 x.cents, .int .i64 x.of_] 56).alloc (.cells #[.int .i64 y.id, .int .i64 y.src, .int .i64 y.acc, .int .i64 y.made, .int .i64 y.about, .int .u8 y.kind, .int .i64 y.cents, .int .i64 y.of_] 56)).cell
  have k1 := (newAt' (W.alloc (.cells #[.int .i64 x.id, .int .i64 x.src, .int .i64 x.acc, .int .i64 x.made, .int .i64 x.about, .int .u8 x.kind, .int .i64 x.cents, .int .i64 x.of_] 56)) #[.int .i64 y.id, .int .i64 y.src, .int .i64 y.acc, .int .i64 y.made, .int .i64 y.about, .int .u8 y.kind, .int .i64 y.cents, .int .i64 y.of_] 56 (g := W.heap.size + 1) (by simp)).cell
  have hb2 : Below W.heap.size W ((W.alloc (.cells #[.int .i64 x.id, .int .i64 x.src, .int .i64 x.acc, .int .i64 x.made, .int .i64 x.about, .int .u8 x.kind, .int .i64 x.cents, .int .i64 x.of_] 56)).alloc (.cells #[.int .i64 y.id, .int .i64 y.src, .int .i64 y.acc, .int .i64 y.made, .int .i64 y.about, .int .u8 y.kind, .int .i64 y.cents, .int .i64 y.of_] 56)) := ((Below.refl _ _).alloc (Nat.le_refl _) _).alloc (by simp) _
  have hk2 := (hb2.cell (p := ⟨kb, 0, none⟩) hkb).trans bk
  have hg := Grown.trans (Grown.alloc W (.cells #[.int .i64 x.id, .int .i64 x.src, .int .i64 x.acc, .int .i64 x.made, .int .i64 x.about, .int .u8 x.kind, .int .i64 x.cents, .int .i64 x.of_] 56)) (Grown.alloc _ (.cells #[.int .i64 y.id, .int .i64 y.src, .int .i64 y.acc, .int .i64 y.made, .int .i64 y.about, .int .u8 y.kind, .int .i64 y.cents, .int .i64 y.of_] 56))
  have HC := Lib.hid (compareA_any x y fb _ (Nat.lt_of_lt_of_le hfb hb2.size) ((hb2.cell (p := ⟨fb, 0, none⟩) hfb).trans bf0) ((hb2.cell (p := ⟨fb, 1, none⟩) hfb).trans bf1))
  generalize lexI (Lib.compareInt x.about y.about) (Lib.compareInt x.id y.id) = c1 at *
  clear bf0 bf1 bk hb2
  go_enter Tryz.func105, Tryz.ntmps105
  go_wp2_with (go_at_call 106; (with_reducible refine (HC.out).mono ?_); rintro e w1 ⟨rfl, h1⟩; have H1 := Lib.hid h1; clear h1)
  go_ret
  exact ⟨rfl, Grown.trans hg H1.out⟩

end Go.Proofs.YtkpaikampmeooaaGreatDoor
