/- Reports of accounts, by the program: what its small functions answer, where the table of what each kind needs lies in memory as the program's text has it. -/
import Derived.Test.YtkpaikampmeooaaGreatDoorTCardP1

namespace Go.Proofs.YtkpaikampmeooaaGreatDoor
open Go.RowKit

def needsCells : Array Value := #[.int .i64 0, .int .i64 0, .bool false, .int .i64 100000, .int .i64 0, .bool false, .int .i64 100000, .int .i64 1000000000000, .bool false, .int .i64 100000, .int .i64 1000000000000, .bool false, .int .i64 100000, .int .i64 1000000000000, .bool false,
  .int .i64 100000, .int .i64 10000, .bool false, .int .i64 100000, .int .i64 1000000000000, .bool false, .int .i64 100000, .int .i64 0, .bool false, .int .i64 100000, .int .i64 1000000000000, .bool true, .int .i64 0, .int .i64 0, .bool true]
/-- The table lies in block 0. -/
def NeedsAt (W : World) : Prop := 0 < W.heap.size ∧ ∀ i, W.cell? ⟨0, i, none⟩ = needsCells[i]?
theorem NeedsAt.below {B : Nat} {w w' : World} (h : NeedsAt w) (hb : Below B w w') (hB : 0 < B) : NeedsAt w' := ⟨Nat.lt_of_lt_of_le h.1 hb.size, fun i => (hb.cell (p := ⟨0, i, none⟩) hB).trans (h.2 i)⟩
theorem NeedsAt.later {w w' : World} (h : NeedsAt w) (hb : Below w.heap.size w w') : NeedsAt w' := h.below hb h.1
theorem NeedsAt.at_ {W : World} (h : NeedsAt W) {k : Int} (hk : 1 ≤ k ∧ k ≤ 9) : W.cell? ⟨0, k.toNat * 3, none⟩ = some (.int .i64 (needAbout k)) ∧ W.cell? ⟨0, k.toNat * 3 + 1, none⟩ = some (.int .i64 (needCents k)) ∧ W.cell? ⟨0, k.toNat * 3 + 2, none⟩ = some (.bool (needOf k)) := by
  have hh : k = 1 ∨ k = 2 ∨ k = 3 ∨ k = 4 ∨ k = 5 ∨ k = 6 ∨ k = 7 ∨ k = 8 ∨ k = 9 := by omega
  rcases hh with rfl | rfl | rfl | rfl | rfl | rfl | rfl | rfl | rfl <;> exact ⟨(h.2 _).trans rfl, (h.2 _).trans rfl, (h.2 _).trans rfl⟩

set_option maxHeartbeats 400000 in
theorem withinP_any (n lo hi : Int) (w : World) :
    Calls Tryz.prog 75 #[.int .i64 n, .int .i64 lo, .int .i64 hi] w fun e w' => e = .returned (.bool (inN n lo hi)) ∧ w = w' := by
  go_enter Tryz.func75, Tryz.ntmps75
  go_wp2
  all_goals go_ret
  all_goals refine ⟨ret_bool ?_, rfl⟩
  · have h : lo ≤ n := by assumption
    simp [inN, h]
  · have h : n < lo := by assumption
    have h' : ¬ lo ≤ n := by omega
    simp [inN, h']
set_option maxHeartbeats 400000 in
theorem isFact_any (r : Rep) (w : World) :
    Calls Tryz.prog 80 #[.agg #[.int .i64 r.id, .int .i64 r.src, .int .i64 r.acc, .int .i64 r.made, .int .i64 r.about, .int .u8 r.kind, .int .i64 r.cents, .int .i64 r.of_]] w fun e w' => e = .returned (.bool (decide (r.kind ≤ 7))) ∧ Below w.heap.size w w' := by
  have hb : Below w.heap.size w (w.alloc (.cells #[.int .i64 r.id, .int .i64 r.src, .int .i64 r.acc, .int .i64 r.made, .int .i64 r.about, .int .u8 r.kind, .int .i64 r.cents, .int .i64 r.of_] 56)) := (Below.refl _ _).alloc (Nat.le_refl _) _
  go_enter Tryz.func80, Tryz.ntmps80
  go_wp2
  go_ret
  exact ⟨rfl, hb⟩
set_option maxHeartbeats 400000 in
theorem centsValid_any (k n : Int) (w : World) (hN : NeedsAt w) (hk : 1 ≤ k ∧ k ≤ 9) :
    Calls Tryz.prog 102 #[.int .u8 k, .int .i64 n] w fun e w' => e = .returned (.bool (inN n 0 (needCents k))) ∧ w = w' := by
  have HW := Lib.hid (fun hi W => withinP_any n 0 hi W)
  obtain ⟨_, c1, _⟩ := hN.at_ hk
  generalize needCents k = m at *
  have b0 : 0 ≤ k := by omega
  have b1 : k < 10 := by omega
  have b2 : k.toNat < 10 := by omega
  clear hN hk
  go_enter Tryz.func102, Tryz.ntmps102
  go_wp2_with (go_at_call 75; (with_reducible refine (HW.out _ _).mono ?_); rintro e w1 ⟨rfl, rfl⟩)
  go_ret
  exact ⟨rfl, rfl⟩
def ofB (r : Rep) : Bool := if needOf r.kind then inN r.of_ 0 999999 && !decide (r.of_ = r.id) else decide (r.of_ = 0)
set_option maxHeartbeats 1000000 in
theorem ofValid_any (r : Rep) (w : World) (hN : NeedsAt w) (hk : 1 ≤ r.kind ∧ r.kind ≤ 9) :
    Calls Tryz.prog 113 #[.agg #[.int .i64 r.id, .int .i64 r.src, .int .i64 r.acc, .int .i64 r.made, .int .i64 r.about, .int .u8 r.kind, .int .i64 r.cents, .int .i64 r.of_]] w fun e w' => e = .returned (.bool (ofB r)) ∧ Below w.heap.size w w' := by
  have HW := Lib.hid (fun n lo hi W => withinP_any n lo hi W)
  have hb : Below w.heap.size w (w.alloc (.cells #[.int .i64 r.id, .int .i64 r.src, .int .i64 r.acc, .int .i64 r.made, .int .i64 r.about, .int .u8 r.kind, .int .i64 r.cents, .int .i64 r.of_] 56)) := (Below.refl _ _).alloc (Nat.le_refl _) _
  obtain ⟨_, _, c2⟩ := (hN.later hb).at_ hk
  have b0 : 0 ≤ r.kind := by omega
  have b1 : r.kind < 10 := by omega
  have b2 : r.kind.toNat < 10 := by omega
  unfold ofB
  cases hn : needOf r.kind with
  | false =>
    rw [hn] at c2
    rw [if_neg (by decide), show decide (r.of_ = 0) = (r.of_ == 0) from rfl]
    clear hN hk hn
    go_enter Tryz.func113, Tryz.ntmps113
    go_wp2_with fail
    go_ret
    exact ⟨rfl, hb⟩
  | true =>
    rw [hn] at c2
    rw [if_pos rfl]
    clear hN hk hn
    cases ho : inN r.of_ 0 999999 with
    | false =>
      go_enter Tryz.func113, Tryz.ntmps113
      go_wp2_with (go_at_call 75; (with_reducible refine (HW.out _ _ _ _).mono ?_); rintro e w1 ⟨rfl, rfl⟩)
      go_ret
      exact ⟨rfl, hb⟩
    | true =>
      go_enter Tryz.func113, Tryz.ntmps113
      go_wp2_with (go_at_call 75; (with_reducible refine (HW.out _ _ _ _).mono ?_); rintro e w1 ⟨rfl, rfl⟩)
      go_ret
      exact ⟨ret_bool (by rw [Bool.eq_iff_iff]; simp [bne]), hb⟩

set_option maxRecDepth 100000 in
set_option maxHeartbeats 8000000 in
theorem reportValid_any (r : Rep) (w : World) (hN : NeedsAt w) (hu : 0 ≤ r.kind ∧ r.kind ≤ 255) :
    Calls Tryz.prog 98 #[.agg #[.int .i64 r.id, .int .i64 r.src, .int .i64 r.acc, .int .i64 r.made, .int .i64 r.about, .int .u8 r.kind, .int .i64 r.cents, .int .i64 r.of_]] w fun e w' => e = .returned (.bool (validB r)) ∧ Below w.heap.size w w' := by
  rw [← validP_eq]
  have hws : IntKind.i64.wrap r.kind = r.kind := IntWalk.i64_in _ (by omega)
  have hb1 : Below w.heap.size w (w.alloc (.cells #[.int .i64 r.id, .int .i64 r.src, .int .i64 r.acc, .int .i64 r.made, .int .i64 r.about, .int .u8 r.kind, .int .i64 r.cents, .int .i64 r.of_] 56)) := (Below.refl _ _).alloc (Nat.le_refl _) _
  have hN1 := hN.later hb1
  have kr := Blk.new w #[.int .i64 r.id, .int .i64 r.src, .int .i64 r.acc, .int .i64 r.made, .int .i64 r.about, .int .u8 r.kind, .int .i64 r.cents, .int .i64 r.of_] 56
  clear hu hN
  go_enter Tryz.func98, Tryz.ntmps98
  go_upto_region 1 with fail
  generalize hW1 : w.alloc (.cells #[.int .i64 r.id, .int .i64 r.src, .int .i64 r.acc, .int .i64 r.made, .int .i64 r.about, .int .u8 r.kind, .int .i64 r.cents, .int .i64 r.of_] 56) = W1 at hb1 hN1 kr ⊢
  clear hW1
  have krc := After.cells (B := W1.heap.size) kr.cell kr.lt
  clear kr
  cases hk : inN r.kind 1 9 with
  | false =>
    have ev : validP r = false := by simp [validP, hk]
    have Ev := Lib.hid ev
    clear ev
    have Ghk : Hid (∀ x : After W1.heap.size W1, Calls Tryz.prog 75 #[.int .i64 r.kind, .int .i64 1, .int .i64 9] x.val fun e w' => e = .returned (.bool false) ∧ x.val = w') := Lib.hid (fun x => by have q := withinP_any r.kind 1 9 x.val; rw [hk] at q; exact q)
    clear hk hN1
    refine wp_region_class_lit (C := fun w' => ∃ z : After W1.heap.size W1, w' = z.val) (by kernel_rfl) (by kernel_rfl) ⟨⟨_, (Below.refl _ _).drew⟩, rfl⟩ ?_
    repeat (go_big_quiet_step ((first
      | (go_at_call 75; with_reducible exact after_of_same _ (Ghk.out _)))))
    refine wpQuiet_nil ?_
    intro wq hw'
    obtain ⟨⟨wz, hz⟩, hw''⟩ := hw'
    dsimp only at hw''
    subst hw''
    go_wp2_with fail
    go_ret
    exact ⟨ret_bool Ev.out.symm, hb1.trans (hz.mono hb1.size)⟩
  | true =>
    have hkk : 1 ≤ r.kind ∧ r.kind ≤ 9 := inN_iff.1 hk
    obtain ⟨k1, _, _⟩ := hN1.at_ hkk
    have d1 := After.cell (B := W1.heap.size) k1 hN1.1
    have q0 : 0 ≤ r.kind := by omega
    have q1 : r.kind < 10 := by omega
    have q2 : r.kind.toNat < 10 := by omega
    clear k1
    cases h0 : inN r.id 0 999999 with
    | false =>
      have ev : validP r = false := by simp [validP, hk, h0]
      have Ev := Lib.hid ev
      clear ev
      have Ghk : Hid (∀ x : After W1.heap.size W1, Calls Tryz.prog 75 #[.int .i64 r.kind, .int .i64 1, .int .i64 9] x.val fun e w' => e = .returned (.bool true) ∧ x.val = w') := Lib.hid (fun x => by have q := withinP_any r.kind 1 9 x.val; rw [hk] at q; exact q)
      have Gh0 : Hid (∀ x : After W1.heap.size W1, Calls Tryz.prog 75 #[.int .i64 r.id, .int .i64 0, .int .i64 999999] x.val fun e w' => e = .returned (.bool false) ∧ x.val = w') := Lib.hid (fun x => by have q := withinP_any r.id 0 999999 x.val; rw [h0] at q; exact q)
      clear hk h0 hN1 hkk
      refine wp_region_class_lit (C := fun w' => ∃ z : After W1.heap.size W1, w' = z.val) (by kernel_rfl) (by kernel_rfl) ⟨⟨_, (Below.refl _ _).drew⟩, rfl⟩ ?_
      repeat (go_big_quiet_step ((first
        | (go_at_call 75; with_reducible exact after_of_same _ (Ghk.out _))
        | (go_at_call 75; with_reducible exact after_of_same _ (Gh0.out _)))))
      refine wpQuiet_nil ?_
      intro wq hw'
      obtain ⟨⟨wz, hz⟩, hw''⟩ := hw'
      dsimp only at hw''
      subst hw''
      go_wp2_with fail
      go_ret
      exact ⟨ret_bool Ev.out.symm, hb1.trans (hz.mono hb1.size)⟩
    | true =>
      cases h1 : inN r.src 0 999999 with
      | false =>
        have ev : validP r = false := by simp [validP, hk, h0, h1]
        have Ev := Lib.hid ev
        clear ev
        have Ghk : Hid (∀ x : After W1.heap.size W1, Calls Tryz.prog 75 #[.int .i64 r.kind, .int .i64 1, .int .i64 9] x.val fun e w' => e = .returned (.bool true) ∧ x.val = w') := Lib.hid (fun x => by have q := withinP_any r.kind 1 9 x.val; rw [hk] at q; exact q)
        have Gh0 : Hid (∀ x : After W1.heap.size W1, Calls Tryz.prog 75 #[.int .i64 r.id, .int .i64 0, .int .i64 999999] x.val fun e w' => e = .returned (.bool true) ∧ x.val = w') := Lib.hid (fun x => by have q := withinP_any r.id 0 999999 x.val; rw [h0] at q; exact q)
        have Gh1 : Hid (∀ x : After W1.heap.size W1, Calls Tryz.prog 75 #[.int .i64 r.src, .int .i64 0, .int .i64 999999] x.val fun e w' => e = .returned (.bool false) ∧ x.val = w') := Lib.hid (fun x => by have q := withinP_any r.src 0 999999 x.val; rw [h1] at q; exact q)
        clear hk h0 h1 hN1 hkk
        refine wp_region_class_lit (C := fun w' => ∃ z : After W1.heap.size W1, w' = z.val) (by kernel_rfl) (by kernel_rfl) ⟨⟨_, (Below.refl _ _).drew⟩, rfl⟩ ?_
        repeat (go_big_quiet_step ((first
          | (go_at_call 75; with_reducible exact after_of_same _ (Ghk.out _))
          | (go_at_call 75; with_reducible exact after_of_same _ (Gh0.out _))
          | (go_at_call 75; with_reducible exact after_of_same _ (Gh1.out _)))))
        refine wpQuiet_nil ?_
        intro wq hw'
        obtain ⟨⟨wz, hz⟩, hw''⟩ := hw'
        dsimp only at hw''
        subst hw''
        go_wp2_with fail
        go_ret
        exact ⟨ret_bool Ev.out.symm, hb1.trans (hz.mono hb1.size)⟩
      | true =>
        cases h2 : inN r.acc 0 999999 with
        | false =>
          have ev : validP r = false := by simp [validP, hk, h0, h1, h2]
          have Ev := Lib.hid ev
          clear ev
          have Ghk : Hid (∀ x : After W1.heap.size W1, Calls Tryz.prog 75 #[.int .i64 r.kind, .int .i64 1, .int .i64 9] x.val fun e w' => e = .returned (.bool true) ∧ x.val = w') := Lib.hid (fun x => by have q := withinP_any r.kind 1 9 x.val; rw [hk] at q; exact q)
          have Gh0 : Hid (∀ x : After W1.heap.size W1, Calls Tryz.prog 75 #[.int .i64 r.id, .int .i64 0, .int .i64 999999] x.val fun e w' => e = .returned (.bool true) ∧ x.val = w') := Lib.hid (fun x => by have q := withinP_any r.id 0 999999 x.val; rw [h0] at q; exact q)
          have Gh1 : Hid (∀ x : After W1.heap.size W1, Calls Tryz.prog 75 #[.int .i64 r.src, .int .i64 0, .int .i64 999999] x.val fun e w' => e = .returned (.bool true) ∧ x.val = w') := Lib.hid (fun x => by have q := withinP_any r.src 0 999999 x.val; rw [h1] at q; exact q)
          have Gh2 : Hid (∀ x : After W1.heap.size W1, Calls Tryz.prog 75 #[.int .i64 r.acc, .int .i64 0, .int .i64 999999] x.val fun e w' => e = .returned (.bool false) ∧ x.val = w') := Lib.hid (fun x => by have q := withinP_any r.acc 0 999999 x.val; rw [h2] at q; exact q)
          clear hk h0 h1 h2 hN1 hkk
          refine wp_region_class_lit (C := fun w' => ∃ z : After W1.heap.size W1, w' = z.val) (by kernel_rfl) (by kernel_rfl) ⟨⟨_, (Below.refl _ _).drew⟩, rfl⟩ ?_
          repeat (go_big_quiet_step ((first
            | (go_at_call 75; with_reducible exact after_of_same _ (Ghk.out _))
            | (go_at_call 75; with_reducible exact after_of_same _ (Gh0.out _))
            | (go_at_call 75; with_reducible exact after_of_same _ (Gh1.out _))
            | (go_at_call 75; with_reducible exact after_of_same _ (Gh2.out _)))))
          refine wpQuiet_nil ?_
          intro wq hw'
          obtain ⟨⟨wz, hz⟩, hw''⟩ := hw'
          dsimp only at hw''
          subst hw''
          go_wp2_with fail
          go_ret
          exact ⟨ret_bool Ev.out.symm, hb1.trans (hz.mono hb1.size)⟩
        | true =>
          cases h3 : inN r.made 0 100000 with
          | false =>
            have ev : validP r = false := by simp [validP, hk, h0, h1, h2, h3]
            have Ev := Lib.hid ev
            clear ev
            have Ghk : Hid (∀ x : After W1.heap.size W1, Calls Tryz.prog 75 #[.int .i64 r.kind, .int .i64 1, .int .i64 9] x.val fun e w' => e = .returned (.bool true) ∧ x.val = w') := Lib.hid (fun x => by have q := withinP_any r.kind 1 9 x.val; rw [hk] at q; exact q)
            have Gh0 : Hid (∀ x : After W1.heap.size W1, Calls Tryz.prog 75 #[.int .i64 r.id, .int .i64 0, .int .i64 999999] x.val fun e w' => e = .returned (.bool true) ∧ x.val = w') := Lib.hid (fun x => by have q := withinP_any r.id 0 999999 x.val; rw [h0] at q; exact q)
            have Gh1 : Hid (∀ x : After W1.heap.size W1, Calls Tryz.prog 75 #[.int .i64 r.src, .int .i64 0, .int .i64 999999] x.val fun e w' => e = .returned (.bool true) ∧ x.val = w') := Lib.hid (fun x => by have q := withinP_any r.src 0 999999 x.val; rw [h1] at q; exact q)
            have Gh2 : Hid (∀ x : After W1.heap.size W1, Calls Tryz.prog 75 #[.int .i64 r.acc, .int .i64 0, .int .i64 999999] x.val fun e w' => e = .returned (.bool true) ∧ x.val = w') := Lib.hid (fun x => by have q := withinP_any r.acc 0 999999 x.val; rw [h2] at q; exact q)
            have Gh3 : Hid (∀ x : After W1.heap.size W1, Calls Tryz.prog 75 #[.int .i64 r.made, .int .i64 0, .int .i64 100000] x.val fun e w' => e = .returned (.bool false) ∧ x.val = w') := Lib.hid (fun x => by have q := withinP_any r.made 0 100000 x.val; rw [h3] at q; exact q)
            clear hk h0 h1 h2 h3 hN1 hkk
            refine wp_region_class_lit (C := fun w' => ∃ z : After W1.heap.size W1, w' = z.val) (by kernel_rfl) (by kernel_rfl) ⟨⟨_, (Below.refl _ _).drew⟩, rfl⟩ ?_
            repeat (go_big_quiet_step ((first
              | (go_at_call 75; with_reducible exact after_of_same _ (Ghk.out _))
              | (go_at_call 75; with_reducible exact after_of_same _ (Gh0.out _))
              | (go_at_call 75; with_reducible exact after_of_same _ (Gh1.out _))
              | (go_at_call 75; with_reducible exact after_of_same _ (Gh2.out _))
              | (go_at_call 75; with_reducible exact after_of_same _ (Gh3.out _)))))
            refine wpQuiet_nil ?_
            intro wq hw'
            obtain ⟨⟨wz, hz⟩, hw''⟩ := hw'
            dsimp only at hw''
            subst hw''
            go_wp2_with fail
            go_ret
            exact ⟨ret_bool Ev.out.symm, hb1.trans (hz.mono hb1.size)⟩
          | true =>
            cases h4 : inN r.about 0 (needAbout r.kind) with
            | false =>
              have ev : validP r = false := by simp [validP, hk, h0, h1, h2, h3, h4]
              have Ev := Lib.hid ev
              clear ev
              have Ghk : Hid (∀ x : After W1.heap.size W1, Calls Tryz.prog 75 #[.int .i64 r.kind, .int .i64 1, .int .i64 9] x.val fun e w' => e = .returned (.bool true) ∧ x.val = w') := Lib.hid (fun x => by have q := withinP_any r.kind 1 9 x.val; rw [hk] at q; exact q)
              have Gh0 : Hid (∀ x : After W1.heap.size W1, Calls Tryz.prog 75 #[.int .i64 r.id, .int .i64 0, .int .i64 999999] x.val fun e w' => e = .returned (.bool true) ∧ x.val = w') := Lib.hid (fun x => by have q := withinP_any r.id 0 999999 x.val; rw [h0] at q; exact q)
              have Gh1 : Hid (∀ x : After W1.heap.size W1, Calls Tryz.prog 75 #[.int .i64 r.src, .int .i64 0, .int .i64 999999] x.val fun e w' => e = .returned (.bool true) ∧ x.val = w') := Lib.hid (fun x => by have q := withinP_any r.src 0 999999 x.val; rw [h1] at q; exact q)
              have Gh2 : Hid (∀ x : After W1.heap.size W1, Calls Tryz.prog 75 #[.int .i64 r.acc, .int .i64 0, .int .i64 999999] x.val fun e w' => e = .returned (.bool true) ∧ x.val = w') := Lib.hid (fun x => by have q := withinP_any r.acc 0 999999 x.val; rw [h2] at q; exact q)
              have Gh3 : Hid (∀ x : After W1.heap.size W1, Calls Tryz.prog 75 #[.int .i64 r.made, .int .i64 0, .int .i64 100000] x.val fun e w' => e = .returned (.bool true) ∧ x.val = w') := Lib.hid (fun x => by have q := withinP_any r.made 0 100000 x.val; rw [h3] at q; exact q)
              have Gh4 : Hid (∀ x : After W1.heap.size W1, Calls Tryz.prog 75 #[.int .i64 r.about, .int .i64 0, .int .i64 (needAbout r.kind)] x.val fun e w' => e = .returned (.bool false) ∧ x.val = w') := Lib.hid (fun x => by have q := withinP_any r.about 0 (needAbout r.kind) x.val; rw [h4] at q; exact q)
              clear hk h0 h1 h2 h3 h4 hN1 hkk
              refine wp_region_class_lit (C := fun w' => ∃ z : After W1.heap.size W1, w' = z.val) (by kernel_rfl) (by kernel_rfl) ⟨⟨_, (Below.refl _ _).drew⟩, rfl⟩ ?_
              repeat (go_big_quiet_step ((first
                | (go_at_call 75; with_reducible exact after_of_same _ (Ghk.out _))
                | (go_at_call 75; with_reducible exact after_of_same _ (Gh0.out _))
                | (go_at_call 75; with_reducible exact after_of_same _ (Gh1.out _))
                | (go_at_call 75; with_reducible exact after_of_same _ (Gh2.out _))
                | (go_at_call 75; with_reducible exact after_of_same _ (Gh3.out _))
                | (go_at_call 75; with_reducible exact after_of_same _ (Gh4.out _)))))
              refine wpQuiet_nil ?_
              intro wq hw'
              obtain ⟨⟨wz, hz⟩, hw''⟩ := hw'
              dsimp only at hw''
              subst hw''
              go_wp2_with fail
              go_ret
              exact ⟨ret_bool Ev.out.symm, hb1.trans (hz.mono hb1.size)⟩
            | true =>
              cases h5 : inN r.cents 0 (needCents r.kind) with
              | false =>
                have ev : validP r = false := by simp [validP, hk, h0, h1, h2, h3, h4, h5]
                have Ev := Lib.hid ev
                clear ev
                have Ghk : Hid (∀ x : After W1.heap.size W1, Calls Tryz.prog 75 #[.int .i64 r.kind, .int .i64 1, .int .i64 9] x.val fun e w' => e = .returned (.bool true) ∧ x.val = w') := Lib.hid (fun x => by have q := withinP_any r.kind 1 9 x.val; rw [hk] at q; exact q)
                have Gh0 : Hid (∀ x : After W1.heap.size W1, Calls Tryz.prog 75 #[.int .i64 r.id, .int .i64 0, .int .i64 999999] x.val fun e w' => e = .returned (.bool true) ∧ x.val = w') := Lib.hid (fun x => by have q := withinP_any r.id 0 999999 x.val; rw [h0] at q; exact q)
                have Gh1 : Hid (∀ x : After W1.heap.size W1, Calls Tryz.prog 75 #[.int .i64 r.src, .int .i64 0, .int .i64 999999] x.val fun e w' => e = .returned (.bool true) ∧ x.val = w') := Lib.hid (fun x => by have q := withinP_any r.src 0 999999 x.val; rw [h1] at q; exact q)
                have Gh2 : Hid (∀ x : After W1.heap.size W1, Calls Tryz.prog 75 #[.int .i64 r.acc, .int .i64 0, .int .i64 999999] x.val fun e w' => e = .returned (.bool true) ∧ x.val = w') := Lib.hid (fun x => by have q := withinP_any r.acc 0 999999 x.val; rw [h2] at q; exact q)
                have Gh3 : Hid (∀ x : After W1.heap.size W1, Calls Tryz.prog 75 #[.int .i64 r.made, .int .i64 0, .int .i64 100000] x.val fun e w' => e = .returned (.bool true) ∧ x.val = w') := Lib.hid (fun x => by have q := withinP_any r.made 0 100000 x.val; rw [h3] at q; exact q)
                have Gh4 : Hid (∀ x : After W1.heap.size W1, Calls Tryz.prog 75 #[.int .i64 r.about, .int .i64 0, .int .i64 (needAbout r.kind)] x.val fun e w' => e = .returned (.bool true) ∧ x.val = w') := Lib.hid (fun x => by have q := withinP_any r.about 0 (needAbout r.kind) x.val; rw [h4] at q; exact q)
                have G5 : Hid (∀ x : After W1.heap.size W1, Calls Tryz.prog 102 #[.int .u8 r.kind, .int .i64 r.cents] x.val fun e w' => e = .returned (.bool false) ∧ x.val = w') := Lib.hid (fun x => by have q := centsValid_any r.kind r.cents x.val (hN1.later x.property) hkk; rw [h5] at q; exact q)
                clear hk h0 h1 h2 h3 h4 h5 hN1 hkk
                refine wp_region_class_lit (C := fun w' => ∃ z : After W1.heap.size W1, w' = z.val) (by kernel_rfl) (by kernel_rfl) ⟨⟨_, (Below.refl _ _).drew⟩, rfl⟩ ?_
                repeat (go_big_quiet_step ((first
                  | (go_at_call 75; with_reducible exact after_of_same _ (Ghk.out _))
                  | (go_at_call 75; with_reducible exact after_of_same _ (Gh0.out _))
                  | (go_at_call 75; with_reducible exact after_of_same _ (Gh1.out _))
                  | (go_at_call 75; with_reducible exact after_of_same _ (Gh2.out _))
                  | (go_at_call 75; with_reducible exact after_of_same _ (Gh3.out _))
                  | (go_at_call 75; with_reducible exact after_of_same _ (Gh4.out _))
                  | (go_at_call 102; with_reducible exact after_of_same _ (G5.out _)))))
                refine wpQuiet_nil ?_
                intro wq hw'
                obtain ⟨⟨wz, hz⟩, hw''⟩ := hw'
                dsimp only at hw''
                subst hw''
                go_wp2_with fail
                go_ret
                exact ⟨ret_bool Ev.out.symm, hb1.trans (hz.mono hb1.size)⟩
              | true =>
                have ev : validP r = ofB r := by simp [validP, ofB, hk, h0, h1, h2, h3, h4, h5]
                have Ev := Lib.hid ev
                clear ev
                have Ghk : Hid (∀ x : After W1.heap.size W1, Calls Tryz.prog 75 #[.int .i64 r.kind, .int .i64 1, .int .i64 9] x.val fun e w' => e = .returned (.bool true) ∧ x.val = w') := Lib.hid (fun x => by have q := withinP_any r.kind 1 9 x.val; rw [hk] at q; exact q)
                have Gh0 : Hid (∀ x : After W1.heap.size W1, Calls Tryz.prog 75 #[.int .i64 r.id, .int .i64 0, .int .i64 999999] x.val fun e w' => e = .returned (.bool true) ∧ x.val = w') := Lib.hid (fun x => by have q := withinP_any r.id 0 999999 x.val; rw [h0] at q; exact q)
                have Gh1 : Hid (∀ x : After W1.heap.size W1, Calls Tryz.prog 75 #[.int .i64 r.src, .int .i64 0, .int .i64 999999] x.val fun e w' => e = .returned (.bool true) ∧ x.val = w') := Lib.hid (fun x => by have q := withinP_any r.src 0 999999 x.val; rw [h1] at q; exact q)
                have Gh2 : Hid (∀ x : After W1.heap.size W1, Calls Tryz.prog 75 #[.int .i64 r.acc, .int .i64 0, .int .i64 999999] x.val fun e w' => e = .returned (.bool true) ∧ x.val = w') := Lib.hid (fun x => by have q := withinP_any r.acc 0 999999 x.val; rw [h2] at q; exact q)
                have Gh3 : Hid (∀ x : After W1.heap.size W1, Calls Tryz.prog 75 #[.int .i64 r.made, .int .i64 0, .int .i64 100000] x.val fun e w' => e = .returned (.bool true) ∧ x.val = w') := Lib.hid (fun x => by have q := withinP_any r.made 0 100000 x.val; rw [h3] at q; exact q)
                have Gh4 : Hid (∀ x : After W1.heap.size W1, Calls Tryz.prog 75 #[.int .i64 r.about, .int .i64 0, .int .i64 (needAbout r.kind)] x.val fun e w' => e = .returned (.bool true) ∧ x.val = w') := Lib.hid (fun x => by have q := withinP_any r.about 0 (needAbout r.kind) x.val; rw [h4] at q; exact q)
                have G5 : Hid (∀ x : After W1.heap.size W1, Calls Tryz.prog 102 #[.int .u8 r.kind, .int .i64 r.cents] x.val fun e w' => e = .returned (.bool true) ∧ x.val = w') := Lib.hid (fun x => by have q := centsValid_any r.kind r.cents x.val (hN1.later x.property) hkk; rw [h5] at q; exact q)
                have GO : Hid (∀ x : After W1.heap.size W1, Calls Tryz.prog 113 #[.agg #[.int .i64 r.id, .int .i64 r.src, .int .i64 r.acc, .int .i64 r.made, .int .i64 r.about, .int .u8 r.kind, .int .i64 r.cents, .int .i64 r.of_]] x.val fun e w' => e = .returned (.bool (ofB r)) ∧ Below x.val.heap.size x.val w') := Lib.hid (fun x => ofValid_any r x.val (hN1.later x.property) hkk)
                generalize ofB r = res at *
                clear hk h0 h1 h2 h3 h4 h5 hN1 hkk
                refine wp_region_class_lit (C := fun w' => ∃ z : After W1.heap.size W1, w' = z.val) (by kernel_rfl) (by kernel_rfl) ⟨⟨_, (Below.refl _ _).drew⟩, rfl⟩ ?_
                repeat (go_big_quiet_step ((first
                  | (go_at_call 75; with_reducible exact after_of_same _ (Ghk.out _))
                  | (go_at_call 75; with_reducible exact after_of_same _ (Gh0.out _))
                  | (go_at_call 75; with_reducible exact after_of_same _ (Gh1.out _))
                  | (go_at_call 75; with_reducible exact after_of_same _ (Gh2.out _))
                  | (go_at_call 75; with_reducible exact after_of_same _ (Gh3.out _))
                  | (go_at_call 75; with_reducible exact after_of_same _ (Gh4.out _))
                  | (go_at_call 102; with_reducible exact after_of_same _ (G5.out _))
                  | (go_at_call 113; with_reducible exact after_of (Nat.le_refl _) _ (GO.out _)))))
                refine wpQuiet_nil ?_
                intro wq hw'
                obtain ⟨⟨wz, hz⟩, hw''⟩ := hw'
                dsimp only at hw''
                subst hw''
                go_wp2_with fail
                go_ret
                exact ⟨ret_bool Ev.out.symm, hb1.trans (hz.mono hb1.size)⟩

end Go.Proofs.YtkpaikampmeooaaGreatDoor
