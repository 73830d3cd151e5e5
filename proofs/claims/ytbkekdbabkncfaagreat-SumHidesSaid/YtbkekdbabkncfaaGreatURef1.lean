/- Questions, by the reference: who is asked for, what each one counts. -/
import Derived.Test.YtbkekdbabkncfaaGreatD2

namespace Go.Proofs.YtbkekdbabkncfaaGreat
open Go.RowKit Go.Maps

theorem whes_at {w : World} {B : Nat} {A : Option Addr} {l : List Whe} (h : WhesAt w B A l) {k : Nat} (hk : k < l.length) : ∃ b off, A = some ⟨b, off, none⟩ ∧ b < B ∧ w.cell? ⟨b, off + k * 3, none⟩ = some (.int .i64 l[k].col) ∧ w.cell? ⟨b, off + k * 3 + 1, none⟩ = some (.int .i64 l[k].lo) ∧ w.cell? ⟨b, off + k * 3 + 2, none⟩ = some (.int .i64 l[k].hi) := by
  obtain ⟨b, off, e, h1, h2⟩ := h k hk
  exact ⟨b, off, e, h1, h2 0 (by omega), h2 1 (by omega), h2 2 (by omega)⟩
set_option maxHeartbeats 400000 in
theorem within10_any (n lo hi : Int) (w : World) :
    Calls Tryz.prog 59 #[.int .i64 n, .int .i64 lo, .int .i64 hi] w fun e w' => e = .returned (.bool (inN n lo hi)) ∧ w = w' := by
  go_enter Tryz.func59, Tryz.ntmps59
  go_wp2
  all_goals go_ret
  all_goals refine ⟨ret_bool ?_, rfl⟩
  · have h : lo ≤ n := by assumption
    simp [inN, h]
  · have h : n < lo := by assumption
    have h' : ¬ lo ≤ n := by omega
    simp [inN, h']
set_option maxRecDepth 100000 in
set_option maxHeartbeats 4000000 in
theorem asked10_any (id : Int) (vals : List Int) (V : Option Addr) (vc : Nat) (wh : List Whe) (col clip step : Int) (W : Option Addr) (wc : Nat) (w : World) (hs : IntsAt w w.heap.size V vals) (hq : WhesAt w w.heap.size W wh) (hc : ∀ i, (h : i < wh.length) → ∃ k : Nat, wh[i].col = k ∧ k < vals.length) (hl : wh.length ≤ 100 ∧ vals.length ≤ 100) :
    Calls Tryz.prog 32 #[.agg #[.int .i64 id, .slice V vals.length vc], .agg #[.slice W wh.length wc, .int .i64 col, .int .i64 clip, .int .i64 step]] w fun e w' => e = .returned (.bool (askB ⟨id, vals⟩ ⟨wh, col, clip, step⟩)) ∧ Below w.heap.size w w' := by
  have b2 := ((Below.refl w.heap.size w).alloc (Nat.le_refl _) (.cells #[.int .i64 id, .slice V vals.length vc] 56)).alloc (by simp) (.cells #[.slice W wh.length wc, .int .i64 col, .int .i64 clip, .int .i64 step] 25)
  have k1 := (Blk.new w #[.int .i64 id, .slice V vals.length vc] 56).alloc (.cells #[.slice W wh.length wc, .int .i64 col, .int .i64 clip, .int .i64 step] 25)
  have k2 := newAt' (w.alloc (.cells #[.int .i64 id, .slice V vals.length vc] 56)) #[.slice W wh.length wc, .int .i64 col, .int .i64 clip, .int .i64 step] 25 (g := w.heap.size + 1) (by simp)
  have HAll : Hid (∀ i, i < wh.length → (∀ j, (h : j < wh.length) → j < i → inN (vals.getD wh[j].col.toNat 0) wh[j].lo wh[j].hi = true) → (h : i < wh.length) → inN (vals.getD wh[i].col.toNat 0) wh[i].lo wh[i].hi = false → askB ⟨id, vals⟩ ⟨wh, col, clip, step⟩ = false) := Lib.hid (fun i hi _ h h2 => by
    unfold askB
    rw [List.all_eq_false]
    exact ⟨wh[i], List.getElem_mem h, by dsimp only; rw [h2]; simp⟩)
  have HT : Hid ((∀ j, (h : j < wh.length) → inN (vals.getD wh[j].col.toNat 0) wh[j].lo wh[j].hi = true) → askB ⟨id, vals⟩ ⟨wh, col, clip, step⟩ = true) := Lib.hid (fun h => by
    unfold askB
    rw [List.all_eq_true]
    intro x hx
    obtain ⟨j, hj, rfl⟩ := List.mem_iff_getElem.1 hx
    exact h j hj)
  generalize askB ⟨id, vals⟩ ⟨wh, col, clip, step⟩ = R at *
  have HS := Lib.hid hs
  have HQ := Lib.hid hq
  have HC := Lib.hid hc
  have hs2 := b2.size
  clear hs hq hc
  go_enter Tryz.func32, Tryz.ntmps32
  go_wp2_with fail
  generalize hW : (w.alloc (.cells #[.int .i64 id, .slice V vals.length vc] 56)).alloc (.cells #[.slice W wh.length wc, .int .i64 col, .int .i64 clip, .int .i64 step] 25) = W1 at *
  clear hW
  have HB := Lib.hid b2
  have g1 := k1.lt
  have g2 := k2.lt
  have HK1 : Hid (∀ W', Below W1.heap.size W1 W' → Blk W' w.heap.size #[.int .i64 id, .slice V vals.length vc] 56) := Lib.hid (fun W' h => k1.below h g1)
  have HK2 : Hid (∀ W', Below W1.heap.size W1 W' → Blk W' (w.heap.size + 1) #[.slice W wh.length wc, .int .i64 col, .int .i64 clip, .int .i64 step] 25) := Lib.hid (fun W' h => k2.below h g2)
  clear k1 k2 b2
  go_loopw [5] (fun ii wr => ∃ i : Nat, i ≤ wh.length ∧ ii = .int .i64 i ∧ Hid ((∀ j, (h : j < wh.length) → j < i → inN (vals.getD wh[j].col.toNat 0) wh[j].lo wh[j].hi = true) ∧ Below W1.heap.size W1 wr)) (fun ii _ => wh.length - (vInt ii).toNat)
  case atStart => exact ⟨0, Nat.zero_le _, rfl, Lib.hid ⟨fun j _ hj => by omega, Below.refl _ _⟩⟩
  case round =>
    obtain ⟨i, hi, rfl, hR⟩ := hrel
    obtain ⟨hJ, hB⟩ := hR.out
    clear hR
    have kq := HK2.out wr hB
    have ks := HK1.out wr hB
    have bw := HB.out.trans (hB.mono hs2)
    by_cases hlt : i < wh.length
    · have hil : (i : Int) < (wh.length : Int) := by omega
      obtain ⟨k, hk1, hk2⟩ := HC.out i hlt
      obtain ⟨b, off, rfl, hb, c0, c1, c2⟩ := whes_at (HQ.out.later bw) hlt
      obtain ⟨b', off', rfl, hb', c3⟩ := ints_at (HS.out.later bw) hk2
      rw [hk1] at c0
      have HV : Hid (inN (vals.getD wh[i].col.toNat 0) wh[i].lo wh[i].hi = inN vals[k] wh[i].lo wh[i].hi) := Lib.hid (by rw [hk1, Int.toNat_natCast, getD_lt _ _ hk2])
      have HF := Lib.hid (HAll.out i hlt hJ hlt)
      have HN : Hid (inN vals[k] wh[i].lo wh[i].hi = true → ∀ j, (h : j < wh.length) → j < i + 1 → inN (vals.getD wh[j].col.toNat 0) wh[j].lo wh[j].hi = true) := Lib.hid (fun h8 j h hj => by
        rcases Nat.lt_or_ge j i with h9 | h9
        · exact hJ j h h9
        · obtain rfl : j = i := by omega
          rw [HV.out]; exact h8)
      have hki : (k : Int) < (vals.length : Int) := by omega
      have HW := Lib.hid (within10_any vals[k] wh[i].lo wh[i].hi)
      have kqc := kq.cell
      have ksA := After.cells (B := wr.heap.size) ks.cell ks.lt
      have kqA := After.cells (B := wr.heap.size) kq.cell kq.lt
      have a0 := After.cell (B := wr.heap.size) c0 hb
      have a1 := After.cell (B := wr.heap.size) c1 hb
      have a2 := After.cell (B := wr.heap.size) c2 hb
      have a3 := After.cell (B := wr.heap.size) c3 hb'
      generalize wh[i].lo = lo at *
      generalize wh[i].hi = hi' at *
      generalize vals[k] = v at *
      have HW2 : Hid (∀ z : After wr.heap.size wr, Calls Tryz.prog 59 #[.int .i64 v, .int .i64 lo, .int .i64 hi'] z.val fun e w' => e = .returned (.bool (inN v lo hi')) ∧ Below z.val.heap.size z.val w') := Lib.hid (fun z => (HW.out z.val).mono fun e w' ⟨h1, h2⟩ => ⟨h1, h2 ▸ Below.refl _ _⟩)
      clear hJ hk1 HW c0 c1 c2 c3
      cases hin : inN v lo hi' with
      | true =>
        rw [hin] at HW2
        have HJ2 := Lib.hid (HN.out hin)
        clear HV HF HN hin
        go_upto_region 4 with fail
        refine wp_region_class_lit (C := fun w' => ∃ z : After wr.heap.size wr, w' = z.val) (by kernel_rfl) (by kernel_rfl) ⟨⟨_, (Below.refl _ _).drew⟩, rfl⟩ ?_
        repeat (go_big_quiet_step ((first
          | (go_at_call 59; with_reducible exact after_of (Nat.le_refl _) _ (HW2.out _)))))
        refine wpQuiet_nil ?_
        intro wz0 hw'
        obtain ⟨⟨wz, hz⟩, hw''⟩ := hw'
        dsimp only at hw''
        subst hw''
        clear ksA kqA a0 a1 a2 a3
        go_wp2_with fail
        go_roundw
        case rel => exact ⟨i + 1, by omega, by go_num, Lib.hid ⟨HJ2.out, hB.trans (hz.mono hB.size)⟩⟩
        case measure => simp [vInt]; omega
      | false =>
        rw [hin] at HW2
        have HR : Hid (R = false) := Lib.hid (HF.out (by rw [HV.out]; exact hin))
        clear HV HF HN hin
        go_upto_region 4 with fail
        refine wp_region_class_lit (C := fun w' => ∃ z : After wr.heap.size wr, w' = z.val) (by kernel_rfl) (by kernel_rfl) ⟨⟨_, (Below.refl _ _).drew⟩, rfl⟩ ?_
        repeat (go_big_quiet_step ((first
          | (go_at_call 59; with_reducible exact after_of (Nat.le_refl _) _ (HW2.out _)))))
        refine wpQuiet_nil ?_
        intro wz0 hw'
        obtain ⟨⟨wz, hz⟩, hw''⟩ := hw'
        dsimp only at hw''
        subst hw''
        clear ksA kqA a0 a1 a2 a3
        go_wp2_with fail
        go_ret
        exact ⟨ret_bool HR.out.symm, bw.trans (hz.mono bw.size)⟩
    · have hil : ¬ (i : Int) < (wh.length : Int) := by omega
      have HR : Hid (R = true) := Lib.hid (HT.out (fun j hj => hJ j hj (by omega)))
      obtain rfl : i = wh.length := by omega
      have kqc := kq.cell
      clear hJ
      go_wp2_with fail
      go_ret
      exact ⟨ret_bool HR.out.symm, bw⟩
end Go.Proofs.YtbkekdbabkncfaaGreat
