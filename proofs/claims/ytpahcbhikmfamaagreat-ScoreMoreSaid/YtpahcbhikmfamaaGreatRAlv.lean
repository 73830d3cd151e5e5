/- The examples of scores. Written by a program. -/
import Derived.Test.YtpahcbhikmfamaaGreatWP5
import Derived.Deep.RegionLawGrows

namespace Go.Proofs.YtpahcbhikmfamaaGreat
open Go.RowKit Go.Shelf Go.Maps

theorem exScore (g b : Nat) (W : World) (hm : MdlAt W W.heap.size ⟨2, exCards g, (some ⟨g + 1 + 1 + 1 + 1 + 1 + 1, 0, none⟩), 1, exTrees g, (some ⟨g + 1 + 1 + 1 + 1 + 1 + 1 + 1 + 1, 0, none⟩), 1, 50⟩) (hx : IntsAt W W.heap.size (some ⟨b, 0, none⟩) [12, 30]) :
    Calls Tryz.prog 6 #[.agg #[.int .i64 2, .slice (some ⟨g + 1 + 1 + 1 + 1 + 1 + 1, 0, none⟩) 1 1, .slice (some ⟨g + 1 + 1 + 1 + 1 + 1 + 1 + 1 + 1, 0, none⟩) 1 1, .int .i64 50], .slice (some ⟨b, 0, none⟩) 2 2] W fun e w' => e = .returned (.tuple #[.int .i64 64000, .bool true, .int .i64 0]) ∧ Below W.heap.size W w' := by
  have := scoreP_all 2 50 (exCards g) (exTrees g) (some ⟨g + 1 + 1 + 1 + 1 + 1 + 1, 0, none⟩) (some ⟨g + 1 + 1 + 1 + 1 + 1 + 1 + 1 + 1, 0, none⟩) 1 1 [12, 30] (some ⟨b, 0, none⟩) 2 W hm (ex_le g _ _ _ _) hx (by decide)
  rw [ex_eq, ex_score.1, ex_score.2.1, ex_score.2.2] at this
  exact this
/-- Two numbers as they are handed back. -/
def Two (W : World) (x y : Int) (v : Value → Value) (e : Ending) (w' : World) : Prop := ∃ A c, e = .returned (v (.slice A 2 c)) ∧ IntsAt w' w'.heap.size A [x, y] ∧ Below W.heap.size W w'
theorem exPoints (g b : Nat) (W : World) (hm : MdlAt W W.heap.size ⟨2, exCards g, (some ⟨g + 1 + 1 + 1 + 1 + 1 + 1, 0, none⟩), 1, exTrees g, (some ⟨g + 1 + 1 + 1 + 1 + 1 + 1 + 1 + 1, 0, none⟩), 1, 50⟩) (hx : IntsAt W W.heap.size (some ⟨b, 0, none⟩) [-1, 200]) :
    Calls Tryz.prog 10 #[.agg #[.int .i64 2, .slice (some ⟨g + 1 + 1 + 1 + 1 + 1 + 1, 0, none⟩) 1 1, .slice (some ⟨g + 1 + 1 + 1 + 1 + 1 + 1 + 1 + 1, 0, none⟩) 1 1, .int .i64 50], .slice (some ⟨b, 0, none⟩) 2 2] W (Two W 15 (-40) (fun s => .tuple #[s, .int .i64 0])) := by
  have := pointsP_all 2 50 (exCards g) (exTrees g) (some ⟨g + 1 + 1 + 1 + 1 + 1 + 1, 0, none⟩) (some ⟨g + 1 + 1 + 1 + 1 + 1 + 1 + 1 + 1, 0, none⟩) 1 1 [-1, 200] (some ⟨b, 0, none⟩) 2 W hm (ex_le g _ _ _ _) hx (by decide)
  rw [ex_eq, ex_points.1, ex_points.2] at this
  refine this.mono ?_
  rintro e w' ⟨A', c', rfl, hown, hb⟩
  exact ⟨A', c', rfl, Flat.of_own intC_len (by decide) hown, hb⟩
theorem exSpans (g b : Nat) (W : World) (hm : MdlAt W W.heap.size ⟨2, exCards g, (some ⟨g + 1 + 1 + 1 + 1 + 1 + 1, 0, none⟩), 1, exTrees g, (some ⟨g + 1 + 1 + 1 + 1 + 1 + 1 + 1 + 1, 0, none⟩), 1, 50⟩) (hx : SpnsAt W W.heap.size (some ⟨b, 0, none⟩) [⟨0, 15⟩, ⟨40, 60⟩]) :
    Calls Tryz.prog 11 #[.agg #[.int .i64 2, .slice (some ⟨g + 1 + 1 + 1 + 1 + 1 + 1, 0, none⟩) 1 1, .slice (some ⟨g + 1 + 1 + 1 + 1 + 1 + 1 + 1 + 1, 0, none⟩) 1 1, .int .i64 50], .slice (some ⟨b, 0, none⟩) 2 2] W fun e w' => e = .returned (.tuple #[.agg #[.int .i64 25000, .int .i64 64000], .int .i64 0]) ∧ Below W.heap.size W w' := by
  have := betweenP_all 2 50 (exCards g) (exTrees g) (some ⟨g + 1 + 1 + 1 + 1 + 1 + 1, 0, none⟩) (some ⟨g + 1 + 1 + 1 + 1 + 1 + 1 + 1 + 1, 0, none⟩) 1 1 [⟨0, 15⟩, ⟨40, 60⟩] (some ⟨b, 0, none⟩) 2 W hm (ex_le g _ _ _ _) hx (by decide)
  rw [ex_eq, ex_spans.1, ex_spans.2.1, ex_spans.2.2] at this
  exact this
/-- Two lists of two numbers. -/
def Two2 (W : World) (x y z u : Int) (e : Ending) (w' : World) : Prop := ∃ A a B b, e = .returned (.tuple #[.slice A 2 a, .slice B 2 b, .int .i64 0]) ∧ IntsAt w' w'.heap.size A [x, y] ∧ IntsAt w' w'.heap.size B [z, u] ∧ Below W.heap.size W w'
theorem exReasons (g b : Nat) (W : World) (hm : MdlAt W W.heap.size ⟨2, exCards g, (some ⟨g + 1 + 1 + 1 + 1 + 1 + 1, 0, none⟩), 1, exTrees g, (some ⟨g + 1 + 1 + 1 + 1 + 1 + 1 + 1 + 1, 0, none⟩), 1, 50⟩) (hx : IntsAt W W.heap.size (some ⟨b, 0, none⟩) [5, 200]) :
    Calls Tryz.prog 13 #[.agg #[.int .i64 2, .slice (some ⟨g + 1 + 1 + 1 + 1 + 1 + 1, 0, none⟩) 1 1, .slice (some ⟨g + 1 + 1 + 1 + 1 + 1 + 1 + 1 + 1, 0, none⟩) 1 1, .int .i64 50], .slice (some ⟨b, 0, none⟩) 2 2] W (Two2 W 0 1 10 0) := by
  have := reasonsP_all 2 50 (exCards g) (exTrees g) (some ⟨g + 1 + 1 + 1 + 1 + 1 + 1, 0, none⟩) (some ⟨g + 1 + 1 + 1 + 1 + 1 + 1 + 1 + 1, 0, none⟩) 1 1 [5, 200] (some ⟨b, 0, none⟩) 2 W hm (ex_le g _ _ _ _) hx (by decide)
  refine this.mono ?_
  unfold ReaT
  rw [ex_eq, ex_reasons.1, ex_reasons.2.1, ex_reasons.2.2]
  rintro e w' ⟨hb, A, a, B, b, rfl, hA, hB⟩
  exact ⟨A, a, B, b, rfl, hA, hB, hb⟩
set_option maxHeartbeats 400000 in
theorem spanL_any (lo hi : Int) (W : World) : Calls Tryz.prog 12 #[.int .i64 lo, .int .i64 hi] W fun e w' => e = .returned (.agg #[.int .i64 lo, .int .i64 hi]) ∧ Below W.heap.size W w' := by
  have kc := (Blk.new W #[.int .i64 lo, .int .i64 hi] 54).cell
  go_enter Tryz.func12, Tryz.ntmps12
  go_wp2_with fail
  exact bodyPost_ret (v := .agg #[.int .i64 lo, .int .i64 hi]) (by simp [results, Tryz.results12, go_sem, kc]) rfl ⟨rfl, (Below.refl _ _).alloc (Nat.le_refl _) _⟩
theorem same2 (x y : Int) (A B : Option Addr) (a b : Nat) (W : World) (h1 : IntsAt W W.heap.size A [x, y]) (h2 : IntsAt W W.heap.size B [x, y]) :
    Calls Tryz.prog 14 #[.slice A 2 a, .slice B 2 b] W fun e w' => e = .returned (.bool true) ∧ Below W.heap.size W w' := sameInts_any [x, y] A B a b W h1 h2 (by simp)
theorem exScoreZ (z : Int) (hz : z = 64000) (g b : Nat) (W : World) (hm : MdlAt W W.heap.size ⟨2, exCards g, (some ⟨g + 1 + 1 + 1 + 1 + 1 + 1, 0, none⟩), 1, exTrees g, (some ⟨g + 1 + 1 + 1 + 1 + 1 + 1 + 1 + 1, 0, none⟩), 1, 50⟩) (hx : IntsAt W W.heap.size (some ⟨b, 0, none⟩) [12, 30]) :
    Calls Tryz.prog 6 #[.agg #[.int .i64 2, .slice (some ⟨g + 1 + 1 + 1 + 1 + 1 + 1, 0, none⟩) 1 1, .slice (some ⟨g + 1 + 1 + 1 + 1 + 1 + 1 + 1 + 1, 0, none⟩) 1 1, .int .i64 50], .slice (some ⟨b, 0, none⟩) 2 2] W fun e w' => e = .returned (.tuple #[.int .i64 z, .bool true, .int .i64 0]) ∧ Below W.heap.size W w' := by
  subst hz; exact exScore g b W hm hx
theorem exSpansZ (z u : Int) (hz : z = 25000) (hu : u = 64000) (g b : Nat) (W : World) (hm : MdlAt W W.heap.size ⟨2, exCards g, (some ⟨g + 1 + 1 + 1 + 1 + 1 + 1, 0, none⟩), 1, exTrees g, (some ⟨g + 1 + 1 + 1 + 1 + 1 + 1 + 1 + 1, 0, none⟩), 1, 50⟩) (hx : SpnsAt W W.heap.size (some ⟨b, 0, none⟩) [⟨0, 15⟩, ⟨40, 60⟩]) :
    Calls Tryz.prog 11 #[.agg #[.int .i64 2, .slice (some ⟨g + 1 + 1 + 1 + 1 + 1 + 1, 0, none⟩) 1 1, .slice (some ⟨g + 1 + 1 + 1 + 1 + 1 + 1 + 1 + 1, 0, none⟩) 1 1, .int .i64 50], .slice (some ⟨b, 0, none⟩) 2 2] W fun e w' => e = .returned (.tuple #[.agg #[.int .i64 z, .int .i64 u], .int .i64 0]) ∧ Below W.heap.size W w' := by
  subst hz; subst hu; exact exSpans g b W hm hx
set_option linter.unusedSimpArgs false
theorem takeA {F : Fence} {n : Nat} {P : Program} {ops : Array Oper} {Q : Exit → Act → World → Prop} {md : Region.Mode} {i d : Nat} {oi : Oper} {v : Value} {fuel : Nat} {listed l2 : Array Bool} {tm : Array Value} {df : List Deferred} {w : World} (hro : F.round = none) (hi : ops[i]? = some oi)
    (hs : Region.noSelect ops = true) (hf : Region.free md ops listed i = true) (hr : (Region.ready md ops listed).contains i = true)
    (hQ : ∀ c a w, Q (.panic c) (a.put oi.dst v) w → Q (.panic c) a w) (hd : oi.dst = some d) (hl : listed.setIfInBounds i true = l2) (hy : YieldsFenced P ops oi v ⟨tm, df⟩)
    (h : wpAnyIn F n P md ops Q fuel l2 ⟨tm.setIfInBounds d v, df⟩ w) : wpAnyIn F n P md ops Q (fuel + 1) listed ⟨tm, df⟩ w := by
  refine wpAnyIn_take hro hi hs hf hr hQ hy ?_
  rw [hd, hl]; exact h
set_option maxRecDepth 100000 in
set_option maxHeartbeats 8000000 in
theorem alive_any (w : World) : Calls Tryz.prog 4 #[] w fun e w' => e = .returned (.bool true) ∧ Below w.heap.size w w' := by
  have HM := Lib.hid (fun W => model_any W)
  have HSp := Lib.hid (fun lo hi W => spanL_any lo hi W)
  obtain ⟨z, hz⟩ : ∃ z : Int, z = 64000 := ⟨_, rfl⟩
  obtain ⟨lo, hlo⟩ : ∃ z : Int, z = 25000 := ⟨_, rfl⟩
  obtain ⟨hi, hhi⟩ : ∃ z : Int, z = 64000 := ⟨_, rfl⟩
  have hz1 : (z == 64000) = true := by rw [hz]; exact beq_self_eq_true _
  have hlo1 : (lo == 25000) = true := by rw [hlo]; exact beq_self_eq_true _
  have hhi1 : (hi == 64000) = true := by rw [hhi]; exact beq_self_eq_true _
  have HZ := Lib.hid hz
  have HLo := Lib.hid hlo
  have HHi := Lib.hid hhi
  clear hz hlo hhi
  go_enter Tryz.func4, Tryz.ntmps4
  go_upto_region 2 with (first
    | (go_at_call 9; (with_reducible refine (HM.out _).mono ?_); rintro e w1 ⟨rfl, hm1, h1⟩; have HS := Lib.hid (exScoreZ z HZ.out _ w1.heap.size _ (hm1.later ((Below.refl w1.heap.size w1).alloc (Nat.le_refl _) (.cells #[.int .i64 12, .int .i64 30] 3))) (flat_blk (Blk.new w1 #[.int .i64 12, .int .i64 30] 3) intC_len rfl)))
    | (go_at_call 6; (with_reducible refine (HS.out).mono ?_); rintro e w2 ⟨rfl, h2⟩; have b2 := (h1.alloc h1.size _).trans (h2.mono (Nat.le_trans h1.size (by simp)))))
  clear HS hm1 h1 h2
  go_upto_region 3 with (first
    | (go_at_call 9; (with_reducible refine (HM.out _).mono ?_); rintro e w3 ⟨rfl, hm3, h3⟩; have HP := Lib.hid (exPoints _ w3.heap.size _ (hm3.later ((Below.refl w3.heap.size w3).alloc (Nat.le_refl _) (.cells #[.int .i64 (-1), .int .i64 200] 3))) (flat_blk (Blk.new w3 #[.int .i64 (-1), .int .i64 200] 3) intC_len rfl)); have b3 := b2.trans (h3.mono b2.size))
    | (go_at_call 10; (with_reducible refine (HP.out).mono ?_); rintro e w4 ⟨A4, c4, rfl, hi4, h4⟩; have b4 := (b3.alloc b3.size _).trans (h4.mono (Nat.le_trans b3.size (by simp)))))
  clear HP hm3 h3 h4 b2 b3
  have HI4 := Lib.hid hi4
  clear hi4
  go_upto_region 4 with (first
    | (go_at_call 9; (with_reducible refine (HM.out _).mono ?_); rintro e w5 ⟨rfl, hm5, h5⟩; have b5 := b4.trans (h5.mono b4.size))
    | (go_at_call 12; (with_reducible refine (HSp.out 0 15 _).mono ?_); rintro e w6 ⟨rfl, h6⟩; have b6 := b5.trans (h6.mono b5.size))
    | (go_at_call 12; (with_reducible refine (HSp.out 40 60 _).mono ?_); rintro e w7 ⟨rfl, h7⟩; have b7 := b6.trans (h7.mono b6.size); have HB := Lib.hid (exSpansZ lo hi HLo.out HHi.out _ w7.heap.size _ (((hm5.later h6).later h7).later ((Below.refl w7.heap.size w7).alloc (Nat.le_refl _) (.cells #[.int .i64 0, .int .i64 15, .int .i64 40, .int .i64 60] 54))) (flat_blk (Blk.new w7 #[.int .i64 0, .int .i64 15, .int .i64 40, .int .i64 60] 54) spnC_len rfl)))
    | (go_at_call 11; (with_reducible refine (HB.out).mono ?_); rintro e w8 ⟨rfl, h8⟩; have b8 := (b7.alloc b7.size _).trans (h8.mono (Nat.le_trans b7.size (by simp))); have e8 : Below w4.heap.size w4 w8 := ((((h5.trans (h6.mono h5.size)).trans (h7.mono (Nat.le_trans h5.size h6.size))).alloc (Nat.le_trans (Nat.le_trans h5.size h6.size) h7.size) _).trans (h8.mono (Nat.le_trans (Nat.le_trans (Nat.le_trans h5.size h6.size) h7.size) (by simp))))))
  have k6 : Blk (w8.alloc (.cells #[.int .i64 lo, .int .i64 hi] 54)) w8.heap.size #[.int .i64 lo, .int .i64 hi] 54 := Blk.new _ _ _
  have b9 := b8.alloc b8.size (.cells #[.int .i64 lo, .int .i64 hi] 54)
  have e9 := e8.alloc e8.size (.cells #[.int .i64 lo, .int .i64 hi] 54)
  have HK6 := Lib.hid k6
  have HE9 := Lib.hid e9
  have HB9 := Lib.hid b9
  clear HB hm5 h5 h6 h7 h8 b5 b6 b7 e8 k6 e9
  generalize hW9 : w8.alloc (.cells #[.int .i64 lo, .int .i64 hi] 54) = W9 at *
  clear hW9
  generalize w8.heap.size = g6 at *
  go_upto_region 5 with (first
    | (go_at_call 9; (with_reducible refine (HM.out _).mono ?_); rintro e w10 ⟨rfl, hm10, h10⟩; have HR := Lib.hid (exReasons _ w10.heap.size _ (hm10.later ((Below.refl w10.heap.size w10).alloc (Nat.le_refl _) (.cells #[.int .i64 5, .int .i64 200] 3))) (flat_blk (Blk.new w10 #[.int .i64 5, .int .i64 200] 3) intC_len rfl)))
    | (go_at_call 13; (with_reducible refine (HR.out).mono ?_); rintro e w11 ⟨A8, a8, A9, a9, rfl, hi8, hi9, h11⟩; have e11 : Below W9.heap.size W9 w11 := (h10.alloc h10.size _).trans (h11.mono (Nat.le_trans h10.size (by simp)))))
  have H4 := Lib.hid (fun W (hb : Below w11.heap.size w11 W) => (HI4.out.later ((HE9.out.trans (e11.mono HE9.out.size)).trans (hb.mono (Nat.le_trans HE9.out.size e11.size)))))
  have H8 := Lib.hid (fun W (hb : Below w11.heap.size w11 W) => hi8.later hb)
  have H9 := Lib.hid (fun W (hb : Below w11.heap.size w11 W) => hi9.later hb)
  have k6 := HK6.out.below e11 HK6.out.lt
  have k6c := k6.cell
  have HKK := Lib.hid k6
  have b11 := HB9.out.trans (e11.mono HB9.out.size)
  have HB11 := Lib.hid b11
  clear HR hm10 h10 h11 hi8 hi9 e11 k6 b11 b9
  have hfn : ∀ f, Fence.wide.fn f := fun _ => trivial
  have hdep : Fence.wide.depth.isSome = false := rfl
  have hmx : Tryz.prog.follows .mixedOrders = true := by kernel_rfl
  refine (wpIn_wide (n := 5)).1 (wpIn_mono ?_ then_false)
  refine wpIn_region_any hmx ?_
  refine takeA (i := 0) (d := 39) (l2 := #[true, false, false, false, false, false, false, false, false, false, false, false, false, false, false, false, false, false, false, false, false, false, false, false, false, false, false, false, false, false, false, false, false, false, false, false, false, false, false, false, false, false]) (v := ?_) rfl rfl (by kernel_rfl) (by kernel_rfl) (by kernel_rfl) (fun _ _ _ h => h) (by kernel_rfl) (by kernel_rfl) ⟨Or.inl ⟨by rfl, ?_⟩, fun _ => rfl⟩ ?_
  case refine_2 => intro w; go_simp; first | done | with_reducible rfl
  simp only [List.setIfInBounds_toArray, List.set_cons_succ, List.set_cons_zero, hz1, hlo1, hhi1]
  refine takeA (i := 1) (d := 40) (v := ?_) rfl rfl (by kernel_rfl) (by kernel_rfl) (by kernel_rfl) (fun _ _ _ h => h) (by kernel_rfl) rfl ⟨Or.inl ⟨by rfl, ?_⟩, fun _ => rfl⟩ ?_
  case refine_2 => intro w; go_simp; first | done | with_reducible rfl
  simp only [List.setIfInBounds_toArray, List.set_cons_succ, List.set_cons_zero, hz1, hlo1, hhi1]
  refine takeA (i := 2) (d := 41) (v := ?_) rfl rfl (by kernel_rfl) (by kernel_rfl) (by kernel_rfl) (fun _ _ _ h => h) (by kernel_rfl) rfl ⟨Or.inl ⟨by rfl, ?_⟩, fun _ => rfl⟩ ?_
  case refine_2 => intro w; go_simp; first | done | with_reducible rfl
  simp only [List.setIfInBounds_toArray, List.set_cons_succ, List.set_cons_zero, hz1, hlo1, hhi1]
  refine takeA (i := 3) (d := 42) (v := ?_) rfl rfl (by kernel_rfl) (by kernel_rfl) (by kernel_rfl) (fun _ _ _ h => h) (by kernel_rfl) rfl ⟨Or.inl ⟨by rfl, ?_⟩, fun _ => rfl⟩ ?_
  case refine_2 => intro w; go_simp; first | done | with_reducible rfl
  simp only [List.setIfInBounds_toArray, List.set_cons_succ, List.set_cons_zero, hz1, hlo1, hhi1]
  refine takeA (i := 4) (d := 43) (v := ?_) rfl rfl (by kernel_rfl) (by kernel_rfl) (by kernel_rfl) (fun _ _ _ h => h) (by kernel_rfl) rfl ⟨Or.inl ⟨by rfl, ?_⟩, fun _ => rfl⟩ ?_
  case refine_2 => intro w; go_simp; first | done | with_reducible rfl
  simp only [List.setIfInBounds_toArray, List.set_cons_succ, List.set_cons_zero, hz1, hlo1, hhi1]
  refine takeA (i := 5) (d := 44) (v := ?_) rfl rfl (by kernel_rfl) (by kernel_rfl) (by kernel_rfl) (fun _ _ _ h => h) (by kernel_rfl) rfl ⟨Or.inl ⟨by rfl, ?_⟩, fun _ => rfl⟩ ?_
  case refine_2 => intro w; go_simp; first | done | with_reducible rfl
  simp only [List.setIfInBounds_toArray, List.set_cons_succ, List.set_cons_zero, hz1, hlo1, hhi1]
  refine takeA (i := 6) (d := 45) (v := ?_) rfl rfl (by kernel_rfl) (by kernel_rfl) (by kernel_rfl) (fun _ _ _ h => h) (by kernel_rfl) rfl ⟨Or.inl ⟨by rfl, ?_⟩, fun _ => rfl⟩ ?_
  case refine_2 => intro w; go_simp; first | done | with_reducible rfl
  simp only [List.setIfInBounds_toArray, List.set_cons_succ, List.set_cons_zero, hz1, hlo1, hhi1]
  refine takeA (i := 7) (d := 46) (v := ?_) rfl rfl (by kernel_rfl) (by kernel_rfl) (by kernel_rfl) (fun _ _ _ h => h) (by kernel_rfl) rfl ⟨Or.inl ⟨by rfl, ?_⟩, fun _ => rfl⟩ ?_
  case refine_2 => intro w; go_simp; first | done | with_reducible rfl
  simp only [List.setIfInBounds_toArray, List.set_cons_succ, List.set_cons_zero, hz1, hlo1, hhi1]
  refine takeA (i := 8) (d := 47) (v := ?_) rfl rfl (by kernel_rfl) (by kernel_rfl) (by kernel_rfl) (fun _ _ _ h => h) (by kernel_rfl) rfl ⟨Or.inl ⟨by rfl, ?_⟩, fun _ => rfl⟩ ?_
  case refine_2 => intro w; go_simp; first | done | with_reducible rfl
  simp only [List.setIfInBounds_toArray, List.set_cons_succ, List.set_cons_zero, hz1, hlo1, hhi1]
  refine takeA (i := 9) (d := 48) (v := ?_) rfl rfl (by kernel_rfl) (by kernel_rfl) (by kernel_rfl) (fun _ _ _ h => h) (by kernel_rfl) rfl ⟨Or.inl ⟨by rfl, ?_⟩, fun _ => rfl⟩ ?_
  case refine_2 => intro w; go_simp; first | done | with_reducible rfl
  simp only [List.setIfInBounds_toArray, List.set_cons_succ, List.set_cons_zero, hz1, hlo1, hhi1]
  refine takeA (i := 10) (d := 49) (v := ?_) rfl rfl (by kernel_rfl) (by kernel_rfl) (by kernel_rfl) (fun _ _ _ h => h) (by kernel_rfl) rfl ⟨Or.inl ⟨by rfl, ?_⟩, fun _ => rfl⟩ ?_
  case refine_2 => intro w; go_simp; first | done | with_reducible rfl
  simp only [List.setIfInBounds_toArray, List.set_cons_succ, List.set_cons_zero, hz1, hlo1, hhi1]
  refine takeA (i := 11) (d := 50) (v := ?_) rfl rfl (by kernel_rfl) (by kernel_rfl) (by kernel_rfl) (fun _ _ _ h => h) (by kernel_rfl) rfl ⟨Or.inl ⟨by rfl, ?_⟩, fun _ => rfl⟩ ?_
  case refine_2 => intro w; go_simp; first | done | with_reducible rfl
  simp only [List.setIfInBounds_toArray, List.set_cons_succ, List.set_cons_zero, hz1, hlo1, hhi1]
  refine takeA (i := 12) (d := 51) (v := ?_) rfl rfl (by kernel_rfl) (by kernel_rfl) (by kernel_rfl) (fun _ _ _ h => h) (by kernel_rfl) rfl ⟨Or.inl ⟨by rfl, ?_⟩, fun _ => rfl⟩ ?_
  case refine_2 => intro w; go_simp; first | done | with_reducible rfl
  simp only [List.setIfInBounds_toArray, List.set_cons_succ, List.set_cons_zero, hz1, hlo1, hhi1]
  refine takeA (i := 13) (d := 52) (v := ?_) rfl rfl (by kernel_rfl) (by kernel_rfl) (by kernel_rfl) (fun _ _ _ h => h) (by kernel_rfl) rfl ⟨Or.inl ⟨by rfl, ?_⟩, fun _ => rfl⟩ ?_
  case refine_2 => intro w; go_simp; first | done | with_reducible rfl
  simp only [List.setIfInBounds_toArray, List.set_cons_succ, List.set_cons_zero, hz1, hlo1, hhi1]
  refine takeA (i := 14) (d := 53) (v := ?_) rfl rfl (by kernel_rfl) (by kernel_rfl) (by kernel_rfl) (fun _ _ _ h => h) (by kernel_rfl) rfl ⟨Or.inl ⟨by rfl, ?_⟩, fun _ => rfl⟩ ?_
  case refine_2 => intro w; go_simp; first | done | with_reducible rfl
  simp only [List.setIfInBounds_toArray, List.set_cons_succ, List.set_cons_zero, hz1, hlo1, hhi1]
  refine wpAnyIn_ready (rs := [15]) (by kernel_rfl) (by simp) ?_
  refine AllReadyIn.cons rfl (fun K hK => ?_) ?_
  · go_simp
    refine hK _ _ ?_; clear hK K
    refine wpAnyIn_ready (rs := [16]) (by kernel_rfl) (by simp) ?_
    refine AllReadyIn.cons rfl (fun K hK => ?_) ?_
    · go_simp
      gi_wp2_with (gi_at_call 14; refine ((callsIn_wide (n := 4)).2 (same2 15 (-40) A4 (some ⟨w11.heap.size, 0, none⟩) c4 2 _ (H4.out _ ((Below.refl w11.heap.size w11).drew.alloc (Nat.le_refl _) (.cells #[.int .i64 15, .int .i64 (-40)] 3))) (flat_blk (Blk.new w11.drew #[.int .i64 15, .int .i64 (-40)] 3) intC_len rfl))).mono ?_; rintro e w12 ⟨rfl, h12⟩; have b12 := ((Below.refl w11.heap.size w11).drew.alloc (Nat.le_refl _) (.cells #[.int .i64 15, .int .i64 (-40)] 3)).trans (h12.mono (by simp)); have c12 := (HKK.out.below b12 HKK.out.lt).cell)
      refine takeA (i := 17) (d := 56) (v := ?_) rfl rfl (by kernel_rfl) (by kernel_rfl) (by kernel_rfl) (fun _ _ _ h => h) (by kernel_rfl) rfl ⟨Or.inl ⟨by rfl, ?_⟩, fun _ => rfl⟩ ?_
      case refine_2 => intro w; go_simp; first | done | with_reducible rfl
      simp only [List.setIfInBounds_toArray, List.set_cons_succ, List.set_cons_zero, hz1, hlo1, hhi1]
      refine takeA (i := 18) (d := 57) (v := ?_) rfl rfl (by kernel_rfl) (by kernel_rfl) (by kernel_rfl) (fun _ _ _ h => h) (by kernel_rfl) rfl ⟨Or.inl ⟨by rfl, ?_⟩, fun _ => rfl⟩ ?_
      case refine_2 => intro w; go_simp; first | done | with_reducible rfl
      simp only [List.setIfInBounds_toArray, List.set_cons_succ, List.set_cons_zero, hz1, hlo1, hhi1]
      refine takeA (i := 19) (d := 58) (v := ?_) rfl rfl (by kernel_rfl) (by kernel_rfl) (by kernel_rfl) (fun _ _ _ h => h) (by kernel_rfl) rfl ⟨Or.inl ⟨by rfl, ?_⟩, fun _ => rfl⟩ ?_
      case refine_2 => intro w; go_simp; first | done | with_reducible rfl
      simp only [List.setIfInBounds_toArray, List.set_cons_succ, List.set_cons_zero, hz1, hlo1, hhi1]
      refine takeA (i := 20) (d := 59) (v := ?_) rfl rfl (by kernel_rfl) (by kernel_rfl) (by kernel_rfl) (fun _ _ _ h => h) (by kernel_rfl) rfl ⟨Or.inl ⟨by rfl, ?_⟩, fun _ => rfl⟩ ?_
      case refine_2 => intro w; go_simp; first | done | with_reducible rfl
      simp only [List.setIfInBounds_toArray, List.set_cons_succ, List.set_cons_zero, hz1, hlo1, hhi1]
      refine takeA (i := 21) (d := 60) (v := ?_) rfl rfl (by kernel_rfl) (by kernel_rfl) (by kernel_rfl) (fun _ _ _ h => h) (by kernel_rfl) rfl ⟨Or.inl ⟨by rfl, ?_⟩, fun _ => rfl⟩ ?_
      case refine_2 => intro w; go_simp; first | done | with_reducible rfl
      simp only [List.setIfInBounds_toArray, List.set_cons_succ, List.set_cons_zero, hz1, hlo1, hhi1]
      refine takeA (i := 22) (d := 61) (v := ?_) rfl rfl (by kernel_rfl) (by kernel_rfl) (by kernel_rfl) (fun _ _ _ h => h) (by kernel_rfl) rfl ⟨Or.inl ⟨by rfl, ?_⟩, fun _ => rfl⟩ ?_
      case refine_2 => intro w; go_simp; first | done | with_reducible rfl
      simp only [List.setIfInBounds_toArray, List.set_cons_succ, List.set_cons_zero, hz1, hlo1, hhi1]
      refine wpAnyIn_ready (rs := [23, 24]) (by kernel_rfl) (by simp) ?_
      refine AllReadyIn.cons rfl (fun K hK => ?_) ?_
      · go_simp
        refine hK _ _ ?_; clear hK K
        refine wpAnyIn_ready (rs := [24]) (by kernel_rfl) (by simp) ?_
        refine AllReadyIn.cons rfl (fun K hK => ?_) ?_
        · go_simp
          gi_wp2_with (gi_at_call 12; refine ((callsIn_wide (n := 4)).2 (HSp.out 25000 64000 _)).mono ?_; rintro e w13 ⟨rfl, h13⟩; have b13 := b12.trans (h13.mono b12.size); have c13 := (HKK.out.below b13 HKK.out.lt).cell)
          refine takeA (i := 25) (d := 64) (v := ?_) rfl rfl (by kernel_rfl) (by kernel_rfl) (by kernel_rfl) (fun _ _ _ h => h) (by kernel_rfl) rfl ⟨Or.inl ⟨by rfl, ?_⟩, fun _ => rfl⟩ ?_
          case refine_2 => intro w; go_simp; first | done | with_reducible rfl
          simp only [List.setIfInBounds_toArray, List.set_cons_succ, List.set_cons_zero, hz1, hlo1, hhi1]
          refine takeA (i := 26) (d := 65) (v := ?_) rfl rfl (by kernel_rfl) (by kernel_rfl) (by kernel_rfl) (fun _ _ _ h => h) (by kernel_rfl) rfl ⟨Or.inl ⟨by rfl, ?_⟩, fun _ => rfl⟩ ?_
          case refine_2 => intro w; go_simp; first | done | with_reducible rfl
          simp only [List.setIfInBounds_toArray, List.set_cons_succ, List.set_cons_zero, hz1, hlo1, hhi1]
          refine takeA (i := 27) (d := 66) (v := ?_) rfl rfl (by kernel_rfl) (by kernel_rfl) (by kernel_rfl) (fun _ _ _ h => h) (by kernel_rfl) rfl ⟨Or.inl ⟨by rfl, ?_⟩, fun _ => rfl⟩ ?_
          case refine_2 => intro w; go_simp; first | done | with_reducible rfl
          simp only [List.setIfInBounds_toArray, List.set_cons_succ, List.set_cons_zero, hz1, hlo1, hhi1]
          refine takeA (i := 28) (d := 67) (v := ?_) rfl rfl (by kernel_rfl) (by kernel_rfl) (by kernel_rfl) (fun _ _ _ h => h) (by kernel_rfl) rfl ⟨Or.inl ⟨by rfl, ?_⟩, fun _ => rfl⟩ ?_
          case refine_2 => intro w; go_simp; first | done | with_reducible rfl
          simp only [List.setIfInBounds_toArray, List.set_cons_succ, List.set_cons_zero, hz1, hlo1, hhi1]
          refine takeA (i := 29) (d := 68) (v := ?_) rfl rfl (by kernel_rfl) (by kernel_rfl) (by kernel_rfl) (fun _ _ _ h => h) (by kernel_rfl) rfl ⟨Or.inl ⟨by rfl, ?_⟩, fun _ => rfl⟩ ?_
          case refine_2 => intro w; go_simp; first | done | with_reducible rfl
          simp only [List.setIfInBounds_toArray, List.set_cons_succ, List.set_cons_zero, hz1, hlo1, hhi1]
          refine takeA (i := 30) (d := 69) (v := ?_) rfl rfl (by kernel_rfl) (by kernel_rfl) (by kernel_rfl) (fun _ _ _ h => h) (by kernel_rfl) rfl ⟨Or.inl ⟨by rfl, ?_⟩, fun _ => rfl⟩ ?_
          case refine_2 => intro w; go_simp; first | done | with_reducible rfl
          simp only [List.setIfInBounds_toArray, List.set_cons_succ, List.set_cons_zero, hz1, hlo1, hhi1]
          refine takeA (i := 31) (d := 70) (v := ?_) rfl rfl (by kernel_rfl) (by kernel_rfl) (by kernel_rfl) (fun _ _ _ h => h) (by kernel_rfl) rfl ⟨Or.inl ⟨by rfl, ?_⟩, fun _ => rfl⟩ ?_
          case refine_2 => intro w; go_simp; first | done | with_reducible rfl
          simp only [List.setIfInBounds_toArray, List.set_cons_succ, List.set_cons_zero, hz1, hlo1, hhi1]
          refine takeA (i := 32) (d := 71) (v := ?_) rfl rfl (by kernel_rfl) (by kernel_rfl) (by kernel_rfl) (fun _ _ _ h => h) (by kernel_rfl) rfl ⟨Or.inl ⟨by rfl, ?_⟩, fun _ => rfl⟩ ?_
          case refine_2 => intro w; go_simp; first | done | with_reducible rfl
          simp only [List.setIfInBounds_toArray, List.set_cons_succ, List.set_cons_zero, hz1, hlo1, hhi1]
          refine wpAnyIn_ready (rs := [33]) (by kernel_rfl) (by simp) ?_
          refine AllReadyIn.cons rfl (fun K hK => ?_) ?_
          · go_simp
            refine hK _ _ ?_; clear hK K
            refine wpAnyIn_ready (rs := [34]) (by kernel_rfl) (by simp) ?_
            refine AllReadyIn.cons rfl (fun K hK => ?_) ?_
            · go_simp
              gi_wp2_with (gi_at_call 14; refine ((callsIn_wide (n := 4)).2 (same2 0 1 A8 (some ⟨w13.heap.size, 0, none⟩) a8 2 _ (H8.out _ (b13.alloc b13.size (.cells #[.int .i64 0, .int .i64 1] 3))) (flat_blk (Blk.new w13 #[.int .i64 0, .int .i64 1] 3) intC_len rfl))).mono ?_; rintro e w14 ⟨rfl, h14⟩; have b14 := (b13.alloc b13.size (.cells #[.int .i64 0, .int .i64 1] 3)).trans (h14.mono (Nat.le_trans b13.size (by simp))))
              refine takeA (i := 35) (d := 74) (v := ?_) rfl rfl (by kernel_rfl) (by kernel_rfl) (by kernel_rfl) (fun _ _ _ h => h) (by kernel_rfl) rfl ⟨Or.inl ⟨by rfl, ?_⟩, fun _ => rfl⟩ ?_
              case refine_2 => intro w; go_simp; first | done | with_reducible rfl
              simp only [List.setIfInBounds_toArray, List.set_cons_succ, List.set_cons_zero, hz1, hlo1, hhi1]
              refine takeA (i := 36) (d := 75) (v := ?_) rfl rfl (by kernel_rfl) (by kernel_rfl) (by kernel_rfl) (fun _ _ _ h => h) (by kernel_rfl) rfl ⟨Or.inl ⟨by rfl, ?_⟩, fun _ => rfl⟩ ?_
              case refine_2 => intro w; go_simp; first | done | with_reducible rfl
              simp only [List.setIfInBounds_toArray, List.set_cons_succ, List.set_cons_zero, hz1, hlo1, hhi1]
              refine takeA (i := 37) (d := 76) (v := ?_) rfl rfl (by kernel_rfl) (by kernel_rfl) (by kernel_rfl) (fun _ _ _ h => h) (by kernel_rfl) rfl ⟨Or.inl ⟨by rfl, ?_⟩, fun _ => rfl⟩ ?_
              case refine_2 => intro w; go_simp; first | done | with_reducible rfl
              simp only [List.setIfInBounds_toArray, List.set_cons_succ, List.set_cons_zero, hz1, hlo1, hhi1]
              refine wpAnyIn_ready (rs := [38]) (by kernel_rfl) (by simp) ?_
              refine AllReadyIn.cons rfl (fun K hK => ?_) ?_
              · go_simp
                refine hK _ _ ?_; clear hK K
                refine wpAnyIn_ready (rs := [39]) (by kernel_rfl) (by simp) ?_
                refine AllReadyIn.cons rfl (fun K hK => ?_) ?_
                · go_simp
                  gi_wp2_with (gi_at_call 14; refine ((callsIn_wide (n := 4)).2 (same2 10 0 A9 (some ⟨w14.heap.size, 0, none⟩) a9 2 _ (H9.out _ (b14.alloc b14.size (.cells #[.int .i64 10, .int .i64 0] 3))) (flat_blk (Blk.new w14 #[.int .i64 10, .int .i64 0] 3) intC_len rfl))).mono ?_; rintro e w15 ⟨rfl, h15⟩; have b15 := (b14.alloc b14.size (.cells #[.int .i64 10, .int .i64 0] 3)).trans (h15.mono (Nat.le_trans b14.size (by simp))))
                  refine takeA (i := 40) (d := 79) (v := ?_) rfl rfl (by kernel_rfl) (by kernel_rfl) (by kernel_rfl) (fun _ _ _ h => h) (by kernel_rfl) rfl ⟨Or.inl ⟨by rfl, ?_⟩, fun _ => rfl⟩ ?_
                  case refine_2 => intro w; go_simp; first | done | with_reducible rfl
                  simp only [List.setIfInBounds_toArray, List.set_cons_succ, List.set_cons_zero, hz1, hlo1, hhi1]
                  refine takeA (i := 41) (d := 0) (v := ?_) rfl rfl (by kernel_rfl) (by kernel_rfl) (by kernel_rfl) (fun _ _ _ h => h) (by kernel_rfl) rfl ⟨Or.inl ⟨by rfl, ?_⟩, fun _ => rfl⟩ ?_
                  case refine_2 => intro w; go_simp; first | done | with_reducible rfl
                  simp only [List.setIfInBounds_toArray, List.set_cons_succ, List.set_cons_zero, hz1, hlo1, hhi1]
                  refine wpAnyIn_done (by kernel_rfl) ?_ _
                  go_wp2_with fail
                  go_ret
                  exact ⟨rfl, HB11.out.trans (b15.mono HB11.out.size)⟩
                exact AllReadyIn.nil
              exact AllReadyIn.nil
            exact AllReadyIn.nil
          exact AllReadyIn.nil
        exact AllReadyIn.nil
      refine AllReadyIn.cons rfl (fun K hK => ?_) ?_
      · go_simp
        gi_wp2_with (gi_at_call 12; refine ((callsIn_wide (n := 4)).2 (HSp.out 25000 64000 _)).mono ?_; rintro e w13 ⟨rfl, h13⟩; have b13 := b12.trans (h13.mono b12.size); have c13 := (HKK.out.below b13 HKK.out.lt).cell)
        refine wpAnyIn_ready (rs := [23]) (by kernel_rfl) (by simp) ?_
        refine AllReadyIn.cons rfl (fun K hK => ?_) ?_
        · go_simp
          refine hK _ _ ?_; clear hK K
          refine takeA (i := 25) (d := 64) (v := ?_) rfl rfl (by kernel_rfl) (by kernel_rfl) (by kernel_rfl) (fun _ _ _ h => h) (by kernel_rfl) rfl ⟨Or.inl ⟨by rfl, ?_⟩, fun _ => rfl⟩ ?_
          case refine_2 => intro w; go_simp; first | done | with_reducible rfl
          simp only [List.setIfInBounds_toArray, List.set_cons_succ, List.set_cons_zero, hz1, hlo1, hhi1]
          refine takeA (i := 26) (d := 65) (v := ?_) rfl rfl (by kernel_rfl) (by kernel_rfl) (by kernel_rfl) (fun _ _ _ h => h) (by kernel_rfl) rfl ⟨Or.inl ⟨by rfl, ?_⟩, fun _ => rfl⟩ ?_
          case refine_2 => intro w; go_simp; first | done | with_reducible rfl
          simp only [List.setIfInBounds_toArray, List.set_cons_succ, List.set_cons_zero, hz1, hlo1, hhi1]
          refine takeA (i := 27) (d := 66) (v := ?_) rfl rfl (by kernel_rfl) (by kernel_rfl) (by kernel_rfl) (fun _ _ _ h => h) (by kernel_rfl) rfl ⟨Or.inl ⟨by rfl, ?_⟩, fun _ => rfl⟩ ?_
          case refine_2 => intro w; go_simp; first | done | with_reducible rfl
          simp only [List.setIfInBounds_toArray, List.set_cons_succ, List.set_cons_zero, hz1, hlo1, hhi1]
          refine takeA (i := 28) (d := 67) (v := ?_) rfl rfl (by kernel_rfl) (by kernel_rfl) (by kernel_rfl) (fun _ _ _ h => h) (by kernel_rfl) rfl ⟨Or.inl ⟨by rfl, ?_⟩, fun _ => rfl⟩ ?_
          case refine_2 => intro w; go_simp; first | done | with_reducible rfl
          simp only [List.setIfInBounds_toArray, List.set_cons_succ, List.set_cons_zero, hz1, hlo1, hhi1]
          refine takeA (i := 29) (d := 68) (v := ?_) rfl rfl (by kernel_rfl) (by kernel_rfl) (by kernel_rfl) (fun _ _ _ h => h) (by kernel_rfl) rfl ⟨Or.inl ⟨by rfl, ?_⟩, fun _ => rfl⟩ ?_
          case refine_2 => intro w; go_simp; first | done | with_reducible rfl
          simp only [List.setIfInBounds_toArray, List.set_cons_succ, List.set_cons_zero, hz1, hlo1, hhi1]
          refine takeA (i := 30) (d := 69) (v := ?_) rfl rfl (by kernel_rfl) (by kernel_rfl) (by kernel_rfl) (fun _ _ _ h => h) (by kernel_rfl) rfl ⟨Or.inl ⟨by rfl, ?_⟩, fun _ => rfl⟩ ?_
          case refine_2 => intro w; go_simp; first | done | with_reducible rfl
          simp only [List.setIfInBounds_toArray, List.set_cons_succ, List.set_cons_zero, hz1, hlo1, hhi1]
          refine takeA (i := 31) (d := 70) (v := ?_) rfl rfl (by kernel_rfl) (by kernel_rfl) (by kernel_rfl) (fun _ _ _ h => h) (by kernel_rfl) rfl ⟨Or.inl ⟨by rfl, ?_⟩, fun _ => rfl⟩ ?_
          case refine_2 => intro w; go_simp; first | done | with_reducible rfl
          simp only [List.setIfInBounds_toArray, List.set_cons_succ, List.set_cons_zero, hz1, hlo1, hhi1]
          refine takeA (i := 32) (d := 71) (v := ?_) rfl rfl (by kernel_rfl) (by kernel_rfl) (by kernel_rfl) (fun _ _ _ h => h) (by kernel_rfl) rfl ⟨Or.inl ⟨by rfl, ?_⟩, fun _ => rfl⟩ ?_
          case refine_2 => intro w; go_simp; first | done | with_reducible rfl
          simp only [List.setIfInBounds_toArray, List.set_cons_succ, List.set_cons_zero, hz1, hlo1, hhi1]
          refine wpAnyIn_ready (rs := [33]) (by kernel_rfl) (by simp) ?_
          refine AllReadyIn.cons rfl (fun K hK => ?_) ?_
          · go_simp
            refine hK _ _ ?_; clear hK K
            refine wpAnyIn_ready (rs := [34]) (by kernel_rfl) (by simp) ?_
            refine AllReadyIn.cons rfl (fun K hK => ?_) ?_
            · go_simp
              gi_wp2_with (gi_at_call 14; refine ((callsIn_wide (n := 4)).2 (same2 0 1 A8 (some ⟨w13.heap.size, 0, none⟩) a8 2 _ (H8.out _ (b13.alloc b13.size (.cells #[.int .i64 0, .int .i64 1] 3))) (flat_blk (Blk.new w13 #[.int .i64 0, .int .i64 1] 3) intC_len rfl))).mono ?_; rintro e w14 ⟨rfl, h14⟩; have b14 := (b13.alloc b13.size (.cells #[.int .i64 0, .int .i64 1] 3)).trans (h14.mono (Nat.le_trans b13.size (by simp))))
              refine takeA (i := 35) (d := 74) (v := ?_) rfl rfl (by kernel_rfl) (by kernel_rfl) (by kernel_rfl) (fun _ _ _ h => h) (by kernel_rfl) rfl ⟨Or.inl ⟨by rfl, ?_⟩, fun _ => rfl⟩ ?_
              case refine_2 => intro w; go_simp; first | done | with_reducible rfl
              simp only [List.setIfInBounds_toArray, List.set_cons_succ, List.set_cons_zero, hz1, hlo1, hhi1]
              refine takeA (i := 36) (d := 75) (v := ?_) rfl rfl (by kernel_rfl) (by kernel_rfl) (by kernel_rfl) (fun _ _ _ h => h) (by kernel_rfl) rfl ⟨Or.inl ⟨by rfl, ?_⟩, fun _ => rfl⟩ ?_
              case refine_2 => intro w; go_simp; first | done | with_reducible rfl
              simp only [List.setIfInBounds_toArray, List.set_cons_succ, List.set_cons_zero, hz1, hlo1, hhi1]
              refine takeA (i := 37) (d := 76) (v := ?_) rfl rfl (by kernel_rfl) (by kernel_rfl) (by kernel_rfl) (fun _ _ _ h => h) (by kernel_rfl) rfl ⟨Or.inl ⟨by rfl, ?_⟩, fun _ => rfl⟩ ?_
              case refine_2 => intro w; go_simp; first | done | with_reducible rfl
              simp only [List.setIfInBounds_toArray, List.set_cons_succ, List.set_cons_zero, hz1, hlo1, hhi1]
              refine wpAnyIn_ready (rs := [38]) (by kernel_rfl) (by simp) ?_
              refine AllReadyIn.cons rfl (fun K hK => ?_) ?_
              · go_simp
                refine hK _ _ ?_; clear hK K
                refine wpAnyIn_ready (rs := [39]) (by kernel_rfl) (by simp) ?_
                refine AllReadyIn.cons rfl (fun K hK => ?_) ?_
                · go_simp
                  gi_wp2_with (gi_at_call 14; refine ((callsIn_wide (n := 4)).2 (same2 10 0 A9 (some ⟨w14.heap.size, 0, none⟩) a9 2 _ (H9.out _ (b14.alloc b14.size (.cells #[.int .i64 10, .int .i64 0] 3))) (flat_blk (Blk.new w14 #[.int .i64 10, .int .i64 0] 3) intC_len rfl))).mono ?_; rintro e w15 ⟨rfl, h15⟩; have b15 := (b14.alloc b14.size (.cells #[.int .i64 10, .int .i64 0] 3)).trans (h15.mono (Nat.le_trans b14.size (by simp))))
                  refine takeA (i := 40) (d := 79) (v := ?_) rfl rfl (by kernel_rfl) (by kernel_rfl) (by kernel_rfl) (fun _ _ _ h => h) (by kernel_rfl) rfl ⟨Or.inl ⟨by rfl, ?_⟩, fun _ => rfl⟩ ?_
                  case refine_2 => intro w; go_simp; first | done | with_reducible rfl
                  simp only [List.setIfInBounds_toArray, List.set_cons_succ, List.set_cons_zero, hz1, hlo1, hhi1]
                  refine takeA (i := 41) (d := 0) (v := ?_) rfl rfl (by kernel_rfl) (by kernel_rfl) (by kernel_rfl) (fun _ _ _ h => h) (by kernel_rfl) rfl ⟨Or.inl ⟨by rfl, ?_⟩, fun _ => rfl⟩ ?_
                  case refine_2 => intro w; go_simp; first | done | with_reducible rfl
                  simp only [List.setIfInBounds_toArray, List.set_cons_succ, List.set_cons_zero, hz1, hlo1, hhi1]
                  refine wpAnyIn_done (by kernel_rfl) ?_ _
                  go_wp2_with fail
                  go_ret
                  exact ⟨rfl, HB11.out.trans (b15.mono HB11.out.size)⟩
                exact AllReadyIn.nil
              exact AllReadyIn.nil
            exact AllReadyIn.nil
          exact AllReadyIn.nil
        exact AllReadyIn.nil
      exact AllReadyIn.nil
    exact AllReadyIn.nil
  exact AllReadyIn.nil
end Go.Proofs.YtpahcbhikmfamaaGreat
