/- alive answers true, in new memory. -/
import Derived.Test.YtbkekdbabkncfaaGreatW7
import Derived.Test.YtbkekdbabkncfaaGreatSSame0

namespace Go.Proofs.YtbkekdbabkncfaaGreat
open Go.RowKit Go.Maps

theorem ints_new (w : World) (l : List Int) (t : TypeId) : IntsAt (w.alloc (.cells (l.map (Value.int .i64)).toArray t)) (w.alloc (.cells (l.map (Value.int .i64)).toArray t)).heap.size (some ⟨w.heap.size, 0, none⟩) l := by
  intro k hk
  refine ⟨w.heap.size, 0, rfl, by simp, fun i hi => ?_⟩
  rw [(Blk.new w (l.map (Value.int .i64)).toArray t).cell]
  obtain rfl : i = 0 := by omega
  simp [intC, hk]
theorem same_lit (l : List Int) (A : Option Addr) (a n : Nat) (t : TypeId) (w : World) (h : IntsAt w w.heap.size A l) (hl : l.length ≤ 1000) (hn : l.length = n) :
    Calls Tryz.prog 18 #[.slice A n a, .slice (some ⟨w.heap.size, 0, none⟩) n n] (w.alloc (.cells (l.map (Value.int .i64)).toArray t)) fun e w' => e = .returned (.bool true) ∧ Below (w.alloc (.cells (l.map (Value.int .i64)).toArray t)).heap.size (w.alloc (.cells (l.map (Value.int .i64)).toArray t)) w' := by
  subst hn
  exact sameInts_any l A _ a _ _ (h.later ((Below.refl _ _).alloc (Nat.le_refl _) _)) (ints_new w l t) hl

theorem len3 {q : List QueD} (h : q.map QueD.v = exQ3) : q.length = 3 := by
  have := congrArg List.length h
  simpa [exQ3] using this
theorem take2 {q : List QueD} (h : q.map QueD.v = exQ3) : (q.take 2).map QueD.v = exQ2 ∧ (q.take 2).length = 2 := by
  refine ⟨by rw [List.map_take, h]; rfl, ?_⟩
  rw [List.length_take, len3 h]; rfl
theorem ded_x2 (l : List SubD) (A : Option Addr) (c : Nat) {b : Nat} (q : List QueD) (w : World) (hl : l.map SubD.v = exT) (h : SubsAt w w.heap.size A l) (hq : q.map QueD.v = exQ3) (hQ : QuesAt w w.heap.size (some ⟨b, 0, none⟩) q) :
    Calls Tryz.prog 19 #[.int .i64 2, .slice A l.length c, .slice (some ⟨b, 0, none⟩) 2 3] w fun e w' => ∃ A' c', e = .returned (.tuple #[.slice A' 0 c', .int .i64 0]) ∧ Below w.heap.size w w' := by
  obtain ⟨h2, hn⟩ := take2 hq
  have := deduced_x (r := []) (c := c) (sc := 3) hl h (hQ.take 2) (by rw [h2]; exact fit2) (by rw [h2, ded2]; exact srt1.1)
  rw [hn] at this
  refine this.mono ?_
  rintro e w' ⟨A', c', rfl, _, hb⟩
  exact ⟨A', c', rfl, hb⟩
theorem ded_x3 (l : List SubD) (A : Option Addr) (c : Nat) {b : Nat} (q : List QueD) (w : World) (hl : l.map SubD.v = exT) (h : SubsAt w w.heap.size A l) (hq : q.map QueD.v = exQ3) (hQ : QuesAt w w.heap.size (some ⟨b, 0, none⟩) q) :
    Calls Tryz.prog 19 #[.int .i64 2, .slice A l.length c, .slice (some ⟨b, 0, none⟩) 3 3] w fun e w' => ∃ A' c', e = .returned (.tuple #[.slice A' 3 c', .int .i64 0]) ∧ Hid (IntsAt w' w'.heap.size A' [1, 2, 3]) ∧ Below w.heap.size w w' := by
  have := deduced_x (r := [1, 2, 3]) (c := c) (sc := 3) hl h hQ (by rw [hq]; exact fit3) (by rw [hq, ded3]; exact srt1.2)
  rw [len3 hq] at this
  exact this
theorem how_x31 (l : List SubD) (A : Option Addr) (c : Nat) {b : Nat} (q : List QueD) (w : World) (hl : l.map SubD.v = exT) (h : SubsAt w w.heap.size A l) (hq : q.map QueD.v = exQ3) (hQ : QuesAt w w.heap.size (some ⟨b, 0, none⟩) q) :
    Calls Tryz.prog 16 #[.int .i64 2, .slice A l.length c, .slice (some ⟨b, 0, none⟩) 3 3, .int .i64 1] w fun e w' => ∃ A' c', e = .returned (.tuple #[.slice A' 3 c', .int .i64 1, .int .i64 0]) ∧ Hid (IntsAt w' w'.heap.size A' [0, -1, 1]) ∧ Below w.heap.size w w' := by
  have := how_x (k := 1) (r := [0, -1, 1]) (c := c) (sc := 3) 1 hl h hQ (by rw [hq]; exact fit3) (by rw [hq]; exact how31)
  rw [len3 hq] at this
  exact this
theorem hid_x21 (l : List SubD) (A : Option Addr) (c : Nat) {b : Nat} (q : List QueD) (w : World) (hl : l.map SubD.v = exT) (h : SubsAt w w.heap.size A l) (hq : q.map QueD.v = exQ3) (hQ : QuesAt w w.heap.size (some ⟨b, 0, none⟩) q) :
    Calls Tryz.prog 20 #[.int .i64 2, .slice A l.length c, .slice (some ⟨b, 0, none⟩) 2 3, .int .i64 1] w fun e w' => ∃ A' c', e = .returned (.tuple #[.slice A' 3 c', .int .i64 0]) ∧ Hid (IntsAt w' w'.heap.size A' [1, -1, 1]) ∧ Below w.heap.size w w' := by
  obtain ⟨h2, hn⟩ := take2 hq
  have := hide_x (r := [1, -1, 1]) (c := c) (sc := 3) 1 hl h (hQ.take 2) (by rw [h2]; exact fit2) (by rw [h2]; exact hid21)
  rw [hn] at this
  exact this

set_option maxRecDepth 100000 in
set_option maxHeartbeats 16000000 in
theorem alive_any (w : World) : Calls Tryz.prog 12 #[] w fun e w' => e = .returned (.bool true) ∧ Below w.heap.size w w' := by
  have HT := Lib.hid (fun W => table_any W)
  have HA := Lib.hid (fun lo hi W => aged_any lo hi W)
  have HQ := Lib.hid (fun W => questions_any W)
  go_enter Tryz.func12, Tryz.ntmps12
  go_upto_region 2 with (first
    | (go_at_call 15; (with_reducible refine (HT.out _).mono ?_); rintro e w1 ⟨A1, c1, l1, rfl, T1, h1⟩)
    | (go_at_call 13; (with_reducible refine (HA.out _ _ _).mono ?_); rintro e w2 ⟨W2, c2, rfl, Q2, h2⟩)
    | (go_at_call 21; (with_reducible refine (meets_x l1 A1 c1 W2 c2 _ T1.out.1 (T1.out.2.later h2) Q2.out).mono ?_); rintro e wm ⟨Am, cm, rfl, HM, hm⟩))
  have B1 := Lib.hid ((h1.trans (h2.mono h1.size)).trans (hm.mono (Nat.le_trans h1.size h2.size)))
  clear T1 h1 Q2 h2 hm
  go_upto_region 3 with (first
    | (go_at_call 15; (with_reducible refine (HT.out _).mono ?_); rintro e w1 ⟨A1, c1, l1, rfl, T1, h1⟩)
    | (go_at_call 13; (with_reducible refine (HA.out _ _ _).mono ?_); rintro e w2 ⟨W2, c2, rfl, Q2, h2⟩)
    | (go_at_call 14; (with_reducible refine (sum_x l1 A1 c1 W2 c2 _ T1.out.1 (T1.out.2.later h2) Q2.out).mono ?_); rintro e ws ⟨rfl, hs⟩))
  have B2 := Lib.hid ((h1.trans (h2.mono h1.size)).trans (hs.mono (Nat.le_trans h1.size h2.size)))
  clear T1 h1 Q2 h2 hs
  go_upto_region 4 with (first
    | (go_at_call 15; (with_reducible refine (HT.out _).mono ?_); rintro e w1 ⟨A1, c1, l1, rfl, T1, h1⟩)
    | (go_at_call 17; (with_reducible refine (HQ.out _).mono ?_); rintro e w2 ⟨b2, q2, rfl, Q2, h2⟩)
    | (go_at_call 19; (with_reducible refine (ded_x2 l1 A1 c1 q2 _ T1.out.1 (T1.out.2.later h2) Q2.out.1 Q2.out.2).mono ?_); rintro e wd ⟨Ad, cd, rfl, hm⟩))
  have B3 := Lib.hid ((h1.trans (h2.mono h1.size)).trans (hm.mono (Nat.le_trans h1.size h2.size)))
  clear T1 h1 Q2 h2 hm
  go_upto_region 5 with (first
    | (go_at_call 15; (with_reducible refine (HT.out _).mono ?_); rintro e w1 ⟨A1, c1, l1, rfl, T1, h1⟩)
    | (go_at_call 17; (with_reducible refine (HQ.out _).mono ?_); rintro e w2 ⟨b2, q2, rfl, Q2, h2⟩)
    | (go_at_call 19; (with_reducible refine (ded_x3 l1 A1 c1 q2 _ T1.out.1 (T1.out.2.later h2) Q2.out.1 Q2.out.2).mono ?_); rintro e we ⟨Ae, ce, rfl, HE, hm⟩))
  have B4 := Lib.hid ((h1.trans (h2.mono h1.size)).trans (hm.mono (Nat.le_trans h1.size h2.size)))
  clear T1 h1 Q2 h2 hm
  go_upto_region 6 with (first
    | (go_at_call 15; (with_reducible refine (HT.out _).mono ?_); rintro e w1 ⟨A1, c1, l1, rfl, T1, h1⟩)
    | (go_at_call 17; (with_reducible refine (HQ.out _).mono ?_); rintro e w2 ⟨b2, q2, rfl, Q2, h2⟩)
    | (go_at_call 16; (with_reducible refine (how_x31 l1 A1 c1 q2 _ T1.out.1 (T1.out.2.later h2) Q2.out.1 Q2.out.2).mono ?_); rintro e wh ⟨Ah, ch, rfl, HH, hm⟩))
  have B5 := Lib.hid ((h1.trans (h2.mono h1.size)).trans (hm.mono (Nat.le_trans h1.size h2.size)))
  clear T1 h1 Q2 h2 hm
  go_upto_region 7 with (first
    | (go_at_call 15; (with_reducible refine (HT.out _).mono ?_); rintro e w1 ⟨A1, c1, l1, rfl, T1, h1⟩)
    | (go_at_call 17; (with_reducible refine (HQ.out _).mono ?_); rintro e w2 ⟨b2, q2, rfl, Q2, h2⟩)
    | (go_at_call 20; (with_reducible refine (hid_x21 l1 A1 c1 q2 _ T1.out.1 (T1.out.2.later h2) Q2.out.1 Q2.out.2).mono ?_); rintro e wi ⟨Ai, ci, rfl, HI, hm⟩))
  have B6 := Lib.hid ((h1.trans (h2.mono h1.size)).trans (hm.mono (Nat.le_trans h1.size h2.size)))
  clear T1 h1 Q2 h2 hm
  clear HT HA HQ
  have C2 := B2.out.trans (B3.out.mono B2.out.size)
  have C3 := C2.trans (B4.out.mono C2.size)
  have C4 := C3.trans (B5.out.mono C3.size)
  have C5 := Lib.hid (C4.trans (B6.out.mono C4.size))
  have D5 := Lib.hid (B5.out.trans (B6.out.mono B5.out.size))
  have E5 := B6
  have Z0 := Lib.hid (B1.out.trans (C5.out.mono B1.out.size))
  clear C2 C3 C4
  have S1 := Lib.hid (fun (W : World) (h : IntsAt W W.heap.size Am [1, 2]) => (show Calls Tryz.prog 18 #[.slice Am 2 cm, .slice (some ⟨W.heap.size, 0, none⟩) 2 2] (W.alloc (.cells #[.int .i64 1, .int .i64 2] 3)) (fun e w' => e = .returned (.bool true) ∧ Below (W.alloc (.cells #[.int .i64 1, .int .i64 2] 3)).heap.size (W.alloc (.cells #[.int .i64 1, .int .i64 2] 3)) w') from same_lit [1, 2] Am cm 2 _ W h (by decide) rfl))
  have S2 := Lib.hid (fun (W : World) (h : IntsAt W W.heap.size Ae [1, 2, 3]) => (show Calls Tryz.prog 18 #[.slice Ae 3 ce, .slice (some ⟨W.heap.size, 0, none⟩) 3 3] (W.alloc (.cells #[.int .i64 1, .int .i64 2, .int .i64 3] 3)) (fun e w' => e = .returned (.bool true) ∧ Below (W.alloc (.cells #[.int .i64 1, .int .i64 2, .int .i64 3] 3)).heap.size (W.alloc (.cells #[.int .i64 1, .int .i64 2, .int .i64 3] 3)) w') from same_lit [1, 2, 3] Ae ce 3 _ W h (by decide) rfl))
  have S3 := Lib.hid (fun (W : World) (h : IntsAt W W.heap.size Ah [0, -1, 1]) => (show Calls Tryz.prog 18 #[.slice Ah 3 ch, .slice (some ⟨W.heap.size, 0, none⟩) 3 3] (W.alloc (.cells #[.int .i64 0, .int .i64 (-1), .int .i64 1] 3)) (fun e w' => e = .returned (.bool true) ∧ Below (W.alloc (.cells #[.int .i64 0, .int .i64 (-1), .int .i64 1] 3)).heap.size (W.alloc (.cells #[.int .i64 0, .int .i64 (-1), .int .i64 1] 3)) w') from same_lit [0, -1, 1] Ah ch 3 _ W h (by decide) rfl))
  have S4 := Lib.hid (fun (W : World) (h : IntsAt W W.heap.size Ai [1, -1, 1]) => (show Calls Tryz.prog 18 #[.slice Ai 3 ci, .slice (some ⟨W.heap.size, 0, none⟩) 3 3] (W.alloc (.cells #[.int .i64 1, .int .i64 (-1), .int .i64 1] 3)) (fun e w' => e = .returned (.bool true) ∧ Below (W.alloc (.cells #[.int .i64 1, .int .i64 (-1), .int .i64 1] 3)).heap.size (W.alloc (.cells #[.int .i64 1, .int .i64 (-1), .int .i64 1] 3)) w') from same_lit [1, -1, 1] Ai ci 3 _ W h (by decide) rfl))
  have M1 := Lib.hid (HM.out.later C5.out)
  have M2 := Lib.hid (fun W (hb : Below wi.heap.size wi W) => (HE.out.later D5.out).later hb)
  have M3 := Lib.hid (fun W (hb : Below wi.heap.size wi W) => (HH.out.later E5.out).later hb)
  have M4 := Lib.hid (fun W (hb : Below wi.heap.size wi W) => HI.out.later hb)
  have al : ∀ (W W' : World) (o : Obj), Below (W.alloc o).heap.size (W.alloc o) W' → Below W.heap.size W W' := fun W W' o h => ((Below.refl W.heap.size W).alloc (Nat.le_refl _) o).trans (h.mono (by simp))
  clear B1 B2 B3 B4 B5 B6 C5 D5 E5 HM HE HH HI
  go_wp2_with (go_at_call 18; first
    | ((with_reducible refine (S1.out _ M1.out).mono ?_); rintro e x1 ⟨rfl, y1⟩; have z1 := al _ _ _ y1)
    | ((with_reducible refine (S2.out _ (M2.out _ z1)).mono ?_); rintro e x2 ⟨rfl, y2⟩; have z2 := z1.trans ((al _ _ _ y2).mono z1.size))
    | ((with_reducible refine (S3.out _ (M3.out _ z2)).mono ?_); rintro e x3 ⟨rfl, y3⟩; have z3 := z2.trans ((al _ _ _ y3).mono z2.size))
    | ((with_reducible refine (S4.out _ (M4.out _ z3)).mono ?_); rintro e x4 ⟨rfl, y4⟩; have z4 := z3.trans ((al _ _ _ y4).mono z3.size)))
  go_ret
  exact ⟨rfl, Z0.out.trans (z4.mono Z0.out.size)⟩
end Go.Proofs.YtbkekdbabkncfaaGreat
