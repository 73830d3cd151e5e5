/- Which report a withdrawal or a correction names, by the reference. -/
import Derived.Test.YtliijiflbfgfaaaDoorAList

namespace Go.Proofs.YtliijiflbfgfaaaDoor
open Go.RowKit Go.Maps

set_option maxRecDepth 100000 in
set_option maxHeartbeats 4000000 in
theorem aims3_any (l : List Rep) (A : Option Addr) (c : Nat) (r : Rep) (w : World) (h : Reps w w.heap.size A l) (hl : l.length ≤ maxLen) :
    Calls Tryd.prog 19 #[.slice A l.length c, .agg #[.int .i64 r.id, .int .i64 r.src, .int .i64 r.acc, .int .i64 r.made, .int .i64 r.about, .int .u8 r.kind, .int .i64 r.cents, .int .i64 r.of_]] w fun e w' => e = .returned (.bool (aimsB l r)) ∧ Below w.heap.size w w' := by
  have hb1 : Below w.heap.size w (w.alloc (.cells #[.int .i64 r.id, .int .i64 r.src, .int .i64 r.acc, .int .i64 r.made, .int .i64 r.about, .int .u8 r.kind, .int .i64 r.cents, .int .i64 r.of_] 47)) := (Below.refl _ _).alloc (Nat.le_refl _) _
  have h1 := h.later hb1
  have kr := Blk.new w #[.int .i64 r.id, .int .i64 r.src, .int .i64 r.acc, .int .i64 r.made, .int .i64 r.about, .int .u8 r.kind, .int .i64 r.cents, .int .i64 r.of_] 47
  have HA := Lib.hid (fun W hh => at3_any l A c r.of_ W hh hl)
  unfold maxLen at hl
  go_enter Tryd.func19, Tryd.ntmps19
  go_upto_region 2 with (go_at_call 18; (with_reducible refine (HA.out _ h1).mono ?_); rintro e w2 ⟨rfl, rfl⟩)
  generalize hW1 : w.alloc (.cells #[.int .i64 r.id, .int .i64 r.src, .int .i64 r.acc, .int .i64 r.made, .int .i64 r.about, .int .u8 r.kind, .int .i64 r.cents, .int .i64 r.of_] 47) = W1 at hb1 h1 kr ⊢
  clear hW1 HA
  have krc := After.cells (B := W1.heap.size) kr.cell kr.lt
  clear kr
  rcases ixR_cases l r.of_ with ⟨hx, ha⟩ | ⟨k, hk, hx, ha⟩
  · have Hv : Hid (aimsB l r = false) := Lib.hid (by unfold aimsB; rw [ha])
    rw [hx]
    clear hx ha h1
    refine wp_region_class_lit (C := fun w' => ∃ z : After W1.heap.size W1, w' = z.val) (by kernel_rfl) (by kernel_rfl) ⟨⟨_, (Below.refl _ _).drew⟩, rfl⟩ ?_
    repeat (go_big_quiet_step (fail))
    refine wpQuiet_nil ?_
    intro wq hw'
    obtain ⟨⟨wz, hz⟩, hw''⟩ := hw'
    dsimp only at hw''
    subst hw''
    go_wp2_with fail
    go_ret
    exact ⟨by rw [Hv.out]; rfl, hb1.trans (hz.mono hb1.size)⟩
  · obtain ⟨b, off, rfl, hb, C⟩ := h1.eight hk
    have Hv : Hid (aimsB l r = (decide (l[k].src = r.src) && decide (l[k].acc = r.acc))) := Lib.hid (by unfold aimsB; rw [ha])
    rw [hx]
    have d1 := After.cell (B := W1.heap.size) C.c1 hb
    have d2 := After.cell (B := W1.heap.size) C.c2 hb
    generalize l[k] = s at *
    have hkl : (k : Int) < (l.length : Int) := by omega
    have hk0 : decide ((0 : Int) ≤ (k : Int)) = true := decide_eq_true (by omega)
    clear hx ha C h1
    by_cases e1 : s.src = r.src
    · have f1 : (s.src == r.src) = true := by simp [e1]
      by_cases e2 : s.acc = r.acc
      · have f2 : (s.acc == r.acc) = true := by simp [e2]
        have Hw : Hid (aimsB l r = true) := Lib.hid (by rw [Hv.out]; simp [e1, e2])
        clear e1 e2 Hv
        refine wp_region_class_lit (C := fun w' => ∃ z : After W1.heap.size W1, w' = z.val) (by kernel_rfl) (by kernel_rfl) ⟨⟨_, (Below.refl _ _).drew⟩, rfl⟩ ?_
        repeat (go_big_quiet_step (fail))
        refine wpQuiet_nil ?_
        intro wq hw'
        obtain ⟨⟨wz, hz⟩, hw''⟩ := hw'
        dsimp only at hw''
        subst hw''
        go_wp2_with fail
        go_ret
        exact ⟨by rw [Hw.out]; rfl, hb1.trans (hz.mono hb1.size)⟩
      · have f2 : (s.acc == r.acc) = false := by simpa using e2
        have Hw : Hid (aimsB l r = false) := Lib.hid (by rw [Hv.out]; simp [e2])
        clear e1 e2 Hv
        refine wp_region_class_lit (C := fun w' => ∃ z : After W1.heap.size W1, w' = z.val) (by kernel_rfl) (by kernel_rfl) ⟨⟨_, (Below.refl _ _).drew⟩, rfl⟩ ?_
        repeat (go_big_quiet_step (fail))
        refine wpQuiet_nil ?_
        intro wq hw'
        obtain ⟨⟨wz, hz⟩, hw''⟩ := hw'
        dsimp only at hw''
        subst hw''
        go_wp2_with fail
        go_ret
        exact ⟨by rw [Hw.out]; rfl, hb1.trans (hz.mono hb1.size)⟩
    · have f1 : (s.src == r.src) = false := by simpa using e1
      have Hw : Hid (aimsB l r = false) := Lib.hid (by rw [Hv.out]; simp [e1])
      clear e1 Hv
      refine wp_region_class_lit (C := fun w' => ∃ z : After W1.heap.size W1, w' = z.val) (by kernel_rfl) (by kernel_rfl) ⟨⟨_, (Below.refl _ _).drew⟩, rfl⟩ ?_
      repeat (go_big_quiet_step (fail))
      refine wpQuiet_nil ?_
      intro wq hw'
      obtain ⟨⟨wz, hz⟩, hw''⟩ := hw'
      dsimp only at hw''
      subst hw''
      go_wp2_with fail
      go_ret
      exact ⟨by rw [Hw.out]; rfl, hb1.trans (hz.mono hb1.size)⟩

end Go.Proofs.YtliijiflbfgfaaaDoor
