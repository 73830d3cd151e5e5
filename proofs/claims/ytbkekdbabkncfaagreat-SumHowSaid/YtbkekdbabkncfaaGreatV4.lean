/- Whether questions are an audit, by the reference. -/
import Derived.Test.YtbkekdbabkncfaaGreatURef6
import Derived.Test.YtbkekdbabkncfaaGreatURef5
import Derived.Test.YtbkekdbabkncfaaGreatW5
import Derived.Test.YtbkekdbabkncfaaGreatVAk

namespace Go.Proofs.YtbkekdbabkncfaaGreat
open Go.RowKit Go.Maps

set_option maxRecDepth 100000 in
set_option maxHeartbeats 8000000 in
theorem audit10_any (columns : Int) (q : List QueD) (Q : Option Addr) (qc : Nat) (w : World) (hq : QuesAt w w.heap.size Q q) (hn : q.length ≤ 100) (hw : ∀ x ∈ q, x.v.wheres.length ≤ 10) (hc : -1000 ≤ columns ∧ columns ≤ 1000) :
    Calls Tryz.prog 60 #[.int .i64 columns, .slice Q q.length qc] w fun e w' => e = .returned (.bool (avlB columns q)) ∧ Below w.heap.size w w' := by
  have HF : Hid (∀ i, (h : i < q.length) → fitB columns (q0L q) q[i].v = false → avlB columns q = false) := Lib.hid (fun i h h1 => by
    unfold avlB
    have : (q.all fun x : QueD => fitB columns (q0L q) x.v) = false := by
      rw [List.all_eq_false]
      exact ⟨_, List.getElem_mem h, by rw [h1]; decide⟩
    rw [this, Bool.and_false])
  have HG : Hid (q.length ≤ 8 → (∀ i, (h : i < q.length) → fitB columns (q0L q) q[i].v = true) → avlB columns q = true) := Lib.hid (fun h1 h2 => by
    unfold avlB
    rw [decide_eq_true h1, Bool.true_and, List.all_eq_true]
    intro x hx
    obtain ⟨i, hi, rfl⟩ := List.mem_iff_getElem.1 hx
    exact h2 i hi)
  have hT : 8 < q.length → avlB columns q = false := fun h => by unfold avlB; rw [decide_eq_false (by omega)]; rfl
  generalize avlB columns q = R at *
  by_cases q1 : 8 < q.length
  · have HR := Lib.hid (hT q1)
    have q1' : (8 : Int) < (q.length : Int) := by omega
    clear hq hT
    go_enter Tryz.func60, Tryz.ntmps60
    go_wp2_with fail
    go_ret
    exact ⟨by rw [HR.out]; rfl, Below.refl _ _⟩
  have q1' : ¬ (8 : Int) < (q.length : Int) := by omega
  have HQ := Lib.hid hq
  have HW := Lib.hid hw
  clear hq hT hw
  go_enter Tryz.func60, Tryz.ntmps60
  go_wp2_with fail
  go_loopw [5] (fun ii wr => ∃ i : Nat, i ≤ q.length ∧ ii = .int .i64 i ∧ Hid ((∀ j, (h : j < q.length) → j < i → fitB columns (q0L q) q[j].v = true) ∧ Below w.heap.size w wr)) (fun ii _ => q.length - (vInt ii).toNat)
  case atStart => exact ⟨0, Nat.zero_le _, rfl, Lib.hid ⟨fun j _ hj => by omega, Below.refl _ _⟩⟩
  case round =>
    obtain ⟨i, hi, rfl, hR⟩ := hrel
    obtain ⟨hJ, hB⟩ := hR.out
    clear hR
    by_cases hlt : i < q.length
    · have hil : (i : Int) < (q.length : Int) := by omega
      have h0 : 0 < q.length := by omega
      have h0I : (0 : Int) < (q.length : Int) := by omega
      obtain ⟨b, off, rfl, hbw, c0w, c1w, c2w, c3w, hv⟩ := ques_at HQ.out hlt
      obtain ⟨b', off', hA, hbw', _, d1w, d2w, _, _⟩ := ques_at HQ.out h0
      obtain ⟨rfl, rfl⟩ : b' = b ∧ off' = off := by simpa [eq_comm] using hA
      clear hA hbw'
      rw [Nat.zero_mul, Nat.add_zero] at d1w d2w
      have c0 := (hB.cell (p := ⟨b', off' + i * 4, none⟩) hbw).trans c0w
      have c1 := (hB.cell (p := ⟨b', off' + i * 4 + 1, none⟩) hbw).trans c1w
      have c2 := (hB.cell (p := ⟨b', off' + i * 4 + 2, none⟩) hbw).trans c2w
      have c3 := (hB.cell (p := ⟨b', off' + i * 4 + 3, none⟩) hbw).trans c3w
      have d1 := (hB.cell (p := ⟨b', off' + 1, none⟩) hbw).trans d1w
      have d2 := (hB.cell (p := ⟨b', off' + 2, none⟩) hbw).trans d2w
      have hb : b' < wr.heap.size := Nat.lt_of_lt_of_le hbw hB.size
      have a0 := After.cell (B := wr.heap.size) c0 hb
      have a1 := After.cell (B := wr.heap.size) c1 hb
      have a2 := After.cell (B := wr.heap.size) c2 hb
      have a3 := After.cell (B := wr.heap.size) c3 hb
      have a4 := After.cell (B := wr.heap.size) d1 hb
      have a5 := After.cell (B := wr.heap.size) d2 hb
      have HQu : Hid (∀ z : After wr.heap.size wr, Calls Tryz.prog 58 #[.int .i64 columns, .agg #[.slice q[i].W q[i].v.wheres.length q[i].c, .int .i64 q[i].v.col, .int .i64 q[i].v.clip, .int .i64 q[i].v.step]] z.val fun e w' => e = .returned (.bool (queB columns q[i].v)) ∧ Below z.val.heap.size z.val w') := Lib.hid (fun z => question10_any columns q[i].v.wheres q[i].v.col q[i].v.clip q[i].v.step q[i].W q[i].c z.val (hv.later (hB.trans (z.property.mono hB.size))) (by have := HW.out _ (List.getElem_mem hlt); omega) hc)
      have HFi := Lib.hid (HF.out i hlt)
      have HN : Hid (fitB columns (q0L q) q[i].v = true → ∀ j, (h : j < q.length) → j < i + 1 → fitB columns (q0L q) q[j].v = true) := Lib.hid (fun h8 j h hj => by
        rcases Nat.lt_or_ge j i with h9 | h9
        · exact hJ j h h9
        · obtain rfl : j = i := by omega
          exact h8)
      have hq0 : q0L q = q[0].v := by
        cases q with
        | nil => simp at h0
        | cons x r => rfl
      have hfit : fitB columns (q0L q) q[i].v = (queB columns q[i].v && decide (q[i].v.col = q[0].v.col ∧ q[i].v.clip = q[0].v.clip)) := by rw [hq0]; rfl
      rw [hfit] at HFi HN
      clear hJ c0w c1w c2w c3w d1w d2w hv hfit hq0
      generalize q[i].v.col = ci at *
      generalize q[i].v.clip = pi at *
      generalize q[0].v.col = c0' at *
      generalize q[0].v.clip = p0' at *
      generalize queB columns q[i].v = qb at *
      cases qb with
      | false =>
        have HR := Lib.hid (HFi.out (by simp))
        clear HFi HN
        go_upto_region 6 with fail
        refine wp_region_class_lit (C := fun w' => ∃ z : After wr.heap.size wr, w' = z.val) (by kernel_rfl) (by kernel_rfl) ⟨⟨_, (Below.refl _ _).drew⟩, rfl⟩ ?_
        repeat (go_big_quiet_step ((first
          | (go_at_call 58; with_reducible exact after_of (Nat.le_refl _) _ (HQu.out _)))))
        refine wpQuiet_nil ?_
        intro wz0 hw'
        obtain ⟨⟨wz, hz⟩, hw''⟩ := hw'
        dsimp only at hw''
        subst hw''
        clear a0 a1 a2 a3 a4 a5
        go_wp2_with fail
        go_ret
        exact ⟨by rw [HR.out]; rfl, hB.trans (hz.mono hB.size)⟩
      | true =>
        by_cases hx : ci = c0'
        · by_cases hy : pi = p0'
          · have HR := Lib.hid (HN.out (by simp [hx, hy]))
            clear HFi HN
            subst hx hy
            go_upto_region 6 with fail
            refine wp_region_class_lit (C := fun w' => ∃ z : After wr.heap.size wr, w' = z.val) (by kernel_rfl) (by kernel_rfl) ⟨⟨_, (Below.refl _ _).drew⟩, rfl⟩ ?_
            repeat (go_big_quiet_step ((first
              | (go_at_call 58; with_reducible exact after_of (Nat.le_refl _) _ (HQu.out _)))))
            refine wpQuiet_nil ?_
            intro wz0 hw'
            obtain ⟨⟨wz, hz⟩, hw''⟩ := hw'
            dsimp only at hw''
            subst hw''
            clear a0 a1 a2 a3 a4 a5
            go_wp2_with fail
            go_roundw
            case rel => exact ⟨i + 1, by omega, by go_num, Lib.hid ⟨HR.out, hB.trans (hz.mono hB.size)⟩⟩
            case measure => simp [vInt]; omega
          · have HR := Lib.hid (HFi.out (by simp [hy]))
            clear HFi HN
            subst hx
            go_upto_region 6 with fail
            refine wp_region_class_lit (C := fun w' => ∃ z : After wr.heap.size wr, w' = z.val) (by kernel_rfl) (by kernel_rfl) ⟨⟨_, (Below.refl _ _).drew⟩, rfl⟩ ?_
            repeat (go_big_quiet_step ((first
              | (go_at_call 58; with_reducible exact after_of (Nat.le_refl _) _ (HQu.out _)))))
            refine wpQuiet_nil ?_
            intro wz0 hw'
            obtain ⟨⟨wz, hz⟩, hw''⟩ := hw'
            dsimp only at hw''
            subst hw''
            clear a0 a1 a2 a3 a4 a5
            go_wp2_with fail
            go_ret
            exact ⟨by rw [HR.out]; rfl, hB.trans (hz.mono hB.size)⟩
        · have HR := Lib.hid (HFi.out (by simp [hx]))
          have hx2 : (ci != c0') = true := by simpa using hx
          clear HFi HN
          go_upto_region 6 with fail
          refine wp_region_class_lit (C := fun w' => ∃ z : After wr.heap.size wr, w' = z.val) (by kernel_rfl) (by kernel_rfl) ⟨⟨_, (Below.refl _ _).drew⟩, rfl⟩ ?_
          repeat (go_big_quiet_step ((first
            | (go_at_call 58; with_reducible exact after_of (Nat.le_refl _) _ (HQu.out _)))))
          refine wpQuiet_nil ?_
          intro wz0 hw'
          obtain ⟨⟨wz, hz⟩, hw''⟩ := hw'
          dsimp only at hw''
          subst hw''
          clear a0 a1 a2 a3 a4 a5
          go_wp2_with fail
          go_ret
          exact ⟨by rw [HR.out]; rfl, hB.trans (hz.mono hB.size)⟩
    · have hil : ¬ (i : Int) < (q.length : Int) := by omega
      have HR := Lib.hid (HG.out (by omega) (fun j h => hJ j h (by omega)))
      clear hJ
      go_wp2_with fail
      go_ret
      exact ⟨by rw [HR.out]; rfl, hB⟩
end Go.Proofs.YtbkekdbabkncfaaGreat

namespace Go.Proofs.YtbkekdbabkncfaaGreat
open Go.RowKit Go.Maps

def rdyB (columns : Int) (l : List SubD) (q : List QueD) : Bool := !grtB l q && (tabB columns (l.map SubD.v) && avlB columns q)
set_option maxRecDepth 100000 in
set_option maxHeartbeats 8000000 in
theorem ready_any (columns : Int) (l : List SubD) (A : Option Addr) (c : Nat) (q : List QueD) (Q : Option Addr) (qc : Nat) (w : World) (h : SubsAt w w.heap.size A l) (hm : ∀ x ∈ l, x.v.vals.length ≤ maxLen) (hq : QuesAt w w.heap.size Q q) (hwl : ∀ x ∈ q, x.v.wheres.length ≤ maxLen) :
    Calls Tryz.prog 34 #[.int .i64 columns, .slice A l.length c, .slice Q q.length qc] w fun e w' => e = .returned (.bool (rdyB columns l q)) ∧ Below w.heap.size w w' := by
  have b2 := Below.refl w.heap.size w
  have HGr := Lib.hid (great10_any l A c q Q qc w h hq ⟨hm, hwl⟩)
  unfold rdyB
  cases hg : grtB l q with
  | true =>
    rw [hg] at HGr
    clear h hm hq hg hwl
    go_enter Tryz.func34, Tryz.ntmps34
    go_wp2_with (first
      | (go_at_call 23; (with_reducible refine (HGr.out).mono ?_); rintro e w1 ⟨rfl, h1⟩; have b3 := b2.trans (h1.mono b2.size)))
    go_ret
    exact ⟨rfl, b3⟩
  | false =>
    rw [hg] at HGr
    obtain ⟨hl24, hq12, _, hw10⟩ := grt_parts hg
    have HC := Lib.hid (fun (W' : World) (hb : Below w.heap.size w W') => check10_any columns l A c W' (h.later hb) hl24)
    cases ht : tabB columns (l.map SubD.v) with
    | false =>
      rw [show tabE columns (l.map SubD.v) = 100 from by unfold tabE; rw [ht]; rfl] at HC
      clear h hm hq hg hw10 hwl
      go_enter Tryz.func34, Tryz.ntmps34
      go_wp2_with (first
        | (go_at_call 23; (with_reducible refine (HGr.out).mono ?_); rintro e w1 ⟨rfl, h1⟩; have b3 := b2.trans (h1.mono b2.size))
        | (go_at_call 57; (with_reducible refine (HC.out _ b3).mono ?_); rintro e w4 ⟨rfl, h4⟩; have b4 := b3.trans (h4.mono b3.size)))
      go_ret
      exact ⟨rfl, b4⟩
    | true =>
      rw [show tabE columns (l.map SubD.v) = 0 from by unfold tabE; rw [ht]; rfl] at HC
      have hcol := (ask_parts ht).1
      have HQn := Lib.hid (fun (W' : World) (hb : Below w.heap.size w W') => audit10_any columns q Q qc W' (hq.later hb) (by omega) (fun x hx => by
        obtain ⟨i, hi, rfl⟩ := List.mem_iff_getElem.1 hx
        exact hw10 i hi) (by omega))
      clear h hm hq hg hw10 hwl
      simp only [Bool.not_false, Bool.true_and]
      generalize avlB columns q = qb at *
      go_enter Tryz.func34, Tryz.ntmps34
      go_wp2_with (first
        | (go_at_call 23; (with_reducible refine (HGr.out).mono ?_); rintro e w1 ⟨rfl, h1⟩; have b3 := b2.trans (h1.mono b2.size))
        | (go_at_call 57; (with_reducible refine (HC.out _ b3).mono ?_); rintro e w4 ⟨rfl, h4⟩; have b4 := b3.trans (h4.mono b3.size))
        | (go_at_call 60; (with_reducible refine (HQn.out _ b4).mono ?_); rintro e w5 ⟨rfl, h5⟩; have b5 := b4.trans (h5.mono b4.size)))
      go_ret
      exact ⟨rfl, b5⟩
theorem rdy_parts {columns : Int} {l : List SubD} {q : List QueD} (h : rdyB columns l q = true) : grtB l q = false ∧ tabB columns (l.map SubD.v) = true ∧ avlB columns q = true := by
  unfold rdyB at h
  rw [Bool.and_eq_true, Bool.and_eq_true] at h
  exact ⟨by simpa using h.1, h.2.1, h.2.2⟩
end Go.Proofs.YtbkekdbabkncfaaGreat
