/- The sum that is printed, and its bound, by the reference. -/
import Derived.Test.YtjiajgmfkdkheaaURef4

namespace Go.Proofs.Ytjiajgmfkdkheaa
open Go.RowKit Go.Maps

def sumUp (l : List Sub) (q : Que) (i : Nat) : Int := sumL (((l.take i).filter fun s => askB s q).map fun s => cntQ s q)
theorem sumUp_succ {l : List Sub} {q : Que} {i : Nat} (h : i < l.length) : sumUp l q (i + 1) = sumUp l q i + if askB l[i] q = true then cntQ l[i] q else 0 := by
  unfold sumUp
  rw [List.take_succ_eq_append_getElem h, List.filter_append, List.map_append, sumL_append]
  by_cases h1 : askB l[i] q = true
  · simp [h1, sumL]
  · simp [h1, sumL]
theorem sumUp_all (l : List Sub) (q : Que) : sumUp l q l.length = sumN l q := by unfold sumUp sumN; rw [List.take_length]
theorem cnt_bound {columns : Int} {s : Sub} {q : Que} (hs : subB columns s = true) (hq : queB columns q = true) : 0 ≤ cntQ s q ∧ cntQ s q ≤ 1000000 := by
  obtain ⟨_, h2, h3⟩ := sub_parts hs
  unfold queB at hq
  simp only [Bool.and_eq_true] at hq
  have hq2 := hq.2
  unfold cntQ
  split
  · omega
  · rename_i hc
    rw [if_neg hc] at hq2
    simp only [Bool.and_eq_true, inN_iff] at hq2
    have hk : q.col.toNat < s.vals.length := by omega
    have := h3 _ (List.getElem_mem hk)
    rw [getD_lt _ _ hk]
    omega
theorem sumUp_bound {l : List Sub} {q : Que} (h : ∀ s ∈ l, 0 ≤ cntQ s q ∧ cntQ s q ≤ 1000000) : ∀ i, i ≤ l.length → 0 ≤ sumUp l q i ∧ sumUp l q i ≤ 1000000 * (i : Int)
  | 0, _ => by simp [sumUp, sumL]
  | i + 1, hi => by
    have h1 := sumUp_bound h i (by omega)
    have h2 := h l[i] (List.getElem_mem (by omega))
    rw [sumUp_succ (by omega)]
    split <;> omega
def sumP (columns : Int) (l : List Sub) (q : Que) : Int := if askE columns l q = 0 then nearN (sumN l q) q.step else 0
def sumB (columns : Int) (l : List Sub) (q : Que) : Int := if askE columns l q = 0 then leastN q.clip q.step else 0
theorem que_parts {columns : Int} {q : Que} (h : queB columns q = true) : q.wheres.length ≤ 4 ∧ (1 ≤ q.step ∧ q.step ≤ 1000000) ∧ (∀ i, (hi : i < q.wheres.length) → 0 ≤ q.wheres[i].col ∧ q.wheres[i].col < columns) ∧ (q.col = -1 ∧ q.clip = 1 ∨ (0 ≤ q.col ∧ q.col < columns) ∧ 1 ≤ q.clip ∧ q.clip ≤ 1000000) := by
  unfold queB at h
  simp only [Bool.and_eq_true, decide_eq_true_eq, List.all_eq_true] at h
  refine ⟨h.1.1.1, inN_iff.1 h.1.1.2, fun i hi => ?_, ?_⟩
  · have h2 := h.1.2 _ (List.getElem_mem hi)
    unfold wheB at h2
    simp only [Bool.and_eq_true, inN_iff] at h2
    omega
  · have h2 := h.2
    split at h2
    · rename_i hc
      simp only [decide_eq_true_eq] at h2
      exact .inl ⟨hc, h2⟩
    · simp only [Bool.and_eq_true, inN_iff] at h2
      exact .inr (by omega)
set_option maxRecDepth 100000 in
set_option maxHeartbeats 8000000 in
theorem sum10_any (columns : Int) (l : List SubD) (L : Option Addr) (lc : Nat) (wh : List Whe) (col clip step : Int) (W : Option Addr) (wc : Nat) (w : World) (hs : SubsAt w w.heap.size L l) (hl : l.length ≤ 24) (hq : WhesAt w w.heap.size W wh) (hw : wh.length ≤ 10) :
    Calls Try.prog 10 #[.int .i64 columns, .slice L l.length lc, .agg #[.slice W wh.length wc, .int .i64 col, .int .i64 clip, .int .i64 step]] w fun e w' => e = .returned (.tuple #[.int .i64 (sumP columns (l.map SubD.v) ⟨wh, col, clip, step⟩), .int .i64 (sumB columns (l.map SubD.v) ⟨wh, col, clip, step⟩), .int .i64 (askE columns (l.map SubD.v) ⟨wh, col, clip, step⟩)]) ∧ Below w.heap.size w w' := by
  have b1 := (Below.refl w.heap.size w).alloc (Nat.le_refl _) (.cells #[.slice W wh.length wc, .int .i64 col, .int .i64 clip, .int .i64 step] 25)
  have k1 := Blk.new w #[.slice W wh.length wc, .int .i64 col, .int .i64 clip, .int .i64 step] 25
  have hs1 := b1.size
  have HCk := Lib.hid (fun W' (h : Below w.heap.size w W') => check10_any columns l L lc W' (hs.later h) hl)
  cases q1 : tabB columns (l.map SubD.v) with
  | false =>
    have hE : askE columns (l.map SubD.v) ⟨wh, col, clip, step⟩ = 100 := by unfold askE; rw [q1]; rfl
    have hT : tabE columns (l.map SubD.v) = 100 := by unfold tabE; rw [q1]; rfl
    have hP : sumP columns (l.map SubD.v) ⟨wh, col, clip, step⟩ = 0 := by unfold sumP; rw [if_neg (by rw [hE]; decide)]
    have hB : sumB columns (l.map SubD.v) ⟨wh, col, clip, step⟩ = 0 := by unfold sumB; rw [if_neg (by rw [hE]; decide)]
    rw [hE, hP, hB]
    rw [hT] at HCk
    clear hs hq
    go_enter Try.func10, Try.ntmps10
    go_wp2_with (go_at_call 12; (with_reducible refine (HCk.out _ b1).mono ?_); rintro e w1 ⟨rfl, h1⟩; have b2 := b1.trans (h1.mono hs1))
    show bodyPost _ _ _ _ _ _
    exact bodyPost_ret (v := .tuple #[.int .i64 0, .int .i64 0, .int .i64 100]) (by simp [results, Try.results10, go_sem]) rfl ⟨rfl, b2⟩
  | true =>
    have hT : tabE columns (l.map SubD.v) = 0 := by unfold tabE; rw [if_pos q1]
    rw [hT] at HCk
    have hcol := (ask_parts q1).1
    have HQu := Lib.hid (fun W' (h : Below w.heap.size w W') => question10_any columns wh col clip step W wc W' (hq.later h) (by omega) (by omega))
    cases q2 : queB columns ⟨wh, col, clip, step⟩ with
    | false =>
      rw [q2] at HQu
      have hE : askE columns (l.map SubD.v) ⟨wh, col, clip, step⟩ = 101 := by unfold askE; rw [if_pos q1, q2]; rfl
      have hP : sumP columns (l.map SubD.v) ⟨wh, col, clip, step⟩ = 0 := by unfold sumP; rw [if_neg (by rw [hE]; decide)]
      have hB : sumB columns (l.map SubD.v) ⟨wh, col, clip, step⟩ = 0 := by unfold sumB; rw [if_neg (by rw [hE]; decide)]
      rw [hE, hP, hB]
      have k1c := k1.cell
      clear hs hq
      go_enter Try.func10, Try.ntmps10
      go_wp2_with (first
        | (go_at_call 12; (with_reducible refine (HCk.out _ b1).mono ?_); rintro e w1 ⟨rfl, h1⟩; have b2 := b1.trans (h1.mono hs1); have k2c := (k1.below h1 k1.lt).cell)
        | (go_at_call 18; (with_reducible refine (HQu.out _ b2).mono ?_); rintro e w3 ⟨rfl, h3⟩; have b4 := b2.trans (h3.mono b2.size)))
      show bodyPost _ _ _ _ _ _
      exact bodyPost_ret (v := .tuple #[.int .i64 0, .int .i64 0, .int .i64 101]) (by simp [results, Try.results10, go_sem]) rfl ⟨rfl, b4⟩
    | true =>
      rw [q2] at HQu
      have hE : askE columns (l.map SubD.v) ⟨wh, col, clip, step⟩ = 0 := by unfold askE; rw [if_pos q1, if_pos q2]
      have hP : sumP columns (l.map SubD.v) ⟨wh, col, clip, step⟩ = nearN (sumN (l.map SubD.v) ⟨wh, col, clip, step⟩) step := by unfold sumP; rw [if_pos hE]
      have hB : sumB columns (l.map SubD.v) ⟨wh, col, clip, step⟩ = leastN clip step := by unfold sumB; rw [if_pos hE]
      rw [hE, hP, hB]
      have k1c := k1.cell
      go_enter Try.func10, Try.ntmps10
      go_wp2_with (first
        | (go_at_call 12; (with_reducible refine (HCk.out _ b1).mono ?_); rintro e w1 ⟨rfl, h1⟩; have b2 := b1.trans (h1.mono hs1); have k2 := k1.below h1 k1.lt; have k2c := k2.cell)
        | (go_at_call 18; (with_reducible refine (HQu.out _ b2).mono ?_); rintro e w3 ⟨rfl, h3⟩; have b4 := b2.trans (h3.mono b2.size); have k4 := k2.below h3 k2.lt))
      have hpa := ask_parts q1
      have hqp := que_parts q2
      dsimp only at hqp
      have HBd : Hid (∀ s ∈ l.map SubD.v, 0 ≤ cntQ s ⟨wh, col, clip, step⟩ ∧ cntQ s ⟨wh, col, clip, step⟩ ≤ 1000000) := Lib.hid (fun s hs => cnt_bound (hpa.2.2.1 s hs) q2)
      have HSB : Hid (∀ i, i ≤ l.length → 0 ≤ sumUp (l.map SubD.v) ⟨wh, col, clip, step⟩ i ∧ sumUp (l.map SubD.v) ⟨wh, col, clip, step⟩ i ≤ 24000000) := Lib.hid (fun i hi => by
        have := sumUp_bound HBd.out i (by rw [List.length_map]; exact hi)
        omega)
      have HSS : Hid (∀ i, (h : i < l.length) → sumUp (l.map SubD.v) ⟨wh, col, clip, step⟩ (i + 1) = sumUp (l.map SubD.v) ⟨wh, col, clip, step⟩ i + if askB l[i].v ⟨wh, col, clip, step⟩ = true then cntQ l[i].v ⟨wh, col, clip, step⟩ else 0) := Lib.hid (fun i h => by
        have := sumUp_succ (l := l.map SubD.v) (q := ⟨wh, col, clip, step⟩) (i := i) (by rw [List.length_map]; exact h)
        simpa using this)
      have HSN : Hid (sumUp (l.map SubD.v) ⟨wh, col, clip, step⟩ l.length = sumN (l.map SubD.v) ⟨wh, col, clip, step⟩) := Lib.hid (by have := sumUp_all (l.map SubD.v) ⟨wh, col, clip, step⟩; rw [List.length_map] at this; exact this)
      have HVL : Hid (∀ i, (h : i < l.length) → (l[i].v.vals.length : Int) = columns) := Lib.hid (fun i h => (sub_parts (hpa.2.2.1 _ (List.mem_map_of_mem (List.getElem_mem h)))).2.1)
      have HB4 := Lib.hid b4
      have HK4 : Hid (∀ W', Below w3.heap.size w3 W' → Blk W' w.heap.size #[.slice W wh.length wc, .int .i64 col, .int .i64 clip, .int .i64 step] 25) := Lib.hid (fun W' h => k4.below h k4.lt)
      have HS := Lib.hid hs
      have HQ := Lib.hid hq
      have HQP := Lib.hid hqp
      clear hpa hqp k2c k2 k1c k1 b1 h1 h3 b2 k4 b4 hs hq hE hP hB hT q1 q2 HCk HQu hs1
      go_loopw [10, 11] (fun nn ii wr => ∃ i : Nat, i ≤ l.length ∧ nn = .int .i64 (sumUp (l.map SubD.v) ⟨wh, col, clip, step⟩ i) ∧ ii = .int .i64 i ∧ Hid (Below w3.heap.size w3 wr)) (fun _ ii _ => l.length - (vInt ii).toNat)
      case atStart => exact ⟨0, Nat.zero_le _, rfl, rfl, Lib.hid (Below.refl _ _)⟩
      case round =>
        obtain ⟨i, hi, rfl, rfl, hR⟩ := hrel
        have hB := hR.out
        have bw := HB4.out.trans (hB.mono HB4.out.size)
        have kq := HK4.out wr hB
        by_cases hlt : i < l.length
        · have hil : (i : Int) < (l.length : Int) := by omega
          obtain ⟨b, off, rfl, hbw, c0w, c1w, hv⟩ := subs_at HS.out hlt
          have c0 := (bw.cell (p := ⟨b, off + i * 2, none⟩) hbw).trans c0w
          have c1 := (bw.cell (p := ⟨b, off + i * 2 + 1, none⟩) hbw).trans c1w
          have hb : b < wr.heap.size := Nat.lt_of_lt_of_le hbw bw.size
          have a0 := After.cell (B := wr.heap.size) c0 hb
          have a1 := After.cell (B := wr.heap.size) c1 hb
          have kqA := After.cells (B := wr.heap.size) kq.cell kq.lt
          have hvl := HVL.out i hlt
          have hcc : ∀ j, (h : j < wh.length) → ∃ k : Nat, wh[j].col = k ∧ k < l[i].v.vals.length := fun j h => by
            have := HQP.out.2.2.1 j h
            exact ⟨wh[j].col.toNat, by omega, by omega⟩
          have hc2 : col = -1 ∨ ∃ k : Nat, col = k ∧ k < l[i].v.vals.length := by
            rcases HQP.out.2.2.2 with h | h
            · exact .inl h.1
            · exact .inr ⟨col.toNat, by omega, by omega⟩
          have HA : Hid (∀ z : After wr.heap.size wr, Calls Try.prog 20 #[.agg #[.int .i64 l[i].v.id, .slice l[i].V l[i].v.vals.length l[i].c], .agg #[.slice W wh.length wc, .int .i64 col, .int .i64 clip, .int .i64 step]] z.val fun e w' => e = .returned (.bool (askB l[i].v ⟨wh, col, clip, step⟩)) ∧ Below z.val.heap.size z.val w') := Lib.hid (fun z => asked10_any l[i].v.id l[i].v.vals l[i].V l[i].c wh col clip step W wc z.val (hv.later (bw.trans (z.property.mono bw.size))) (HQ.out.later (bw.trans (z.property.mono bw.size))) hcc (by omega))
          have HCn : Hid (∀ W', Below w.heap.size w W' → Calls Try.prog 24 #[.agg #[.int .i64 l[i].v.id, .slice l[i].V l[i].v.vals.length l[i].c], .agg #[.slice W wh.length wc, .int .i64 col, .int .i64 clip, .int .i64 step]] W' fun e w' => e = .returned (.int .i64 (cntQ l[i].v ⟨wh, col, clip, step⟩)) ∧ Below W'.heap.size W' w') := Lib.hid (fun W' h => counts10_any l[i].v.id l[i].v.vals l[i].V l[i].c wh col clip step W wc W' (hv.later h) hc2)
          have hss := HSS.out i hlt
          have hsb := HSB.out i hi
          have hcb := HBd.out _ (List.mem_map_of_mem (List.getElem_mem hlt))
          generalize cntQ l[i].v ⟨wh, col, clip, step⟩ = cn at *
          generalize sumUp (l.map SubD.v) ⟨wh, col, clip, step⟩ i = sn at *
          clear c0w c1w hcc hc2 hv
          cases hask : askB l[i].v ⟨wh, col, clip, step⟩ with
          | false =>
            rw [hask] at HA hss
            rw [if_neg (by decide)] at hss
            have HN := Lib.hid hss
            clear hss hask
            go_upto_region 10 with fail
            refine wp_region_class_lit (C := fun w' => ∃ z : After wr.heap.size wr, w' = z.val) (by kernel_rfl) (by kernel_rfl) ⟨⟨_, (Below.refl _ _).drew⟩, rfl⟩ ?_
            repeat (go_big_quiet_step ((first
              | (go_at_call 20; with_reducible exact after_of (Nat.le_refl _) _ (HA.out _)))))
            refine wpQuiet_nil ?_
            intro wz0 hw'
            obtain ⟨⟨wz, hz⟩, hw''⟩ := hw'
            dsimp only at hw''
            subst hw''
            clear a0 a1 kqA
            go_wp2_with fail
            go_roundw
            case rel => exact ⟨i + 1, by omega, by rw [HN.out, Int.add_zero], by go_num, Lib.hid (hB.trans (hz.mono hB.size))⟩
            case measure => simp [vInt]; omega
          | true =>
            rw [hask] at HA hss
            rw [if_pos rfl] at hss
            have HN := Lib.hid hss
            clear hss hask
            have hw1 : IntKind.i64.wrap (sn + cn) = sn + cn := IntWalk.i64_in _ (by omega)
            go_upto_region 10 with fail
            refine wp_region_class_lit (C := fun w' => ∃ z : After wr.heap.size wr, w' = z.val) (by kernel_rfl) (by kernel_rfl) ⟨⟨_, (Below.refl _ _).drew⟩, rfl⟩ ?_
            repeat (go_big_quiet_step ((first
              | (go_at_call 20; with_reducible exact after_of (Nat.le_refl _) _ (HA.out _)))))
            refine wpQuiet_nil ?_
            intro wz0 hw'
            obtain ⟨⟨wz, hz⟩, hw''⟩ := hw'
            dsimp only at hw''
            subst hw''
            clear a0 a1 kqA
            have a0 := After.cell (B := wz0.heap.size) ((hz.cell (p := ⟨b, off + i * 2, none⟩) hb).trans c0) (Nat.lt_of_lt_of_le hb hz.size)
            have a1 := After.cell (B := wz0.heap.size) ((hz.cell (p := ⟨b, off + i * 2 + 1, none⟩) hb).trans c1) (Nat.lt_of_lt_of_le hb hz.size)
            have kz := kq.below hz kq.lt
            have kqA := After.cells (B := wz0.heap.size) kz.cell kz.lt
            have bz := bw.trans (hz.mono bw.size)
            have HC2 := Lib.hid (fun z : After wz0.heap.size wz0 => HCn.out z.val (bz.trans (z.property.mono bz.size)))
            go_upto_region 11 with fail
            refine wp_region_class_lit (C := fun w' => ∃ z : After wz0.heap.size wz0, w' = z.val) (by kernel_rfl) (by kernel_rfl) ⟨⟨_, (Below.refl _ _).drew⟩, rfl⟩ ?_
            repeat (go_big_quiet_step ((first
              | (go_at_call 24; with_reducible exact after_of (Nat.le_refl _) _ (HC2.out _)))))
            refine wpQuiet_nil ?_
            intro wy0 hw'
            obtain ⟨⟨wy, hy⟩, hw''⟩ := hw'
            dsimp only at hw''
            subst hw''
            clear a0 a1 kqA
            go_wp2_with fail
            go_roundw
            case rel => exact ⟨i + 1, by omega, by rw [HN.out], by go_num, Lib.hid ((hB.trans (hz.mono hB.size)).trans (hy.mono (Nat.le_trans hB.size hz.size)))⟩
            case measure => simp [vInt]; omega
        · have hil : ¬ (i : Int) < (l.length : Int) := by omega
          obtain rfl : i = l.length := by omega
          have hsb := HSB.out l.length (Nat.le_refl _)
          have hn := HSN.out
          rw [hn] at hsb
          have kqc := kq.cell
          rw [hn]
          generalize hgs : sumN (l.map SubD.v) ⟨wh, col, clip, step⟩ = sn at *
          have HGS := Lib.hid hgs
          clear hgs
          clear HSB HSS HSN HBd hn
          have hst := HQP.out.2.1
          have hclip : 1 ≤ clip ∧ clip ≤ 1000000 := by rcases HQP.out.2.2.2 with h | h <;> omega
          have kqA := After.cells (B := wr.heap.size) kq.cell kq.lt
          have hw1 : IntKind.i64.wrap (2 * sn) = 2 * sn := IntWalk.i64_in _ (by omega)
          have hw2 : IntKind.i64.wrap (2 * sn + step) = 2 * sn + step := IntWalk.i64_in _ (by omega)
          have hw3 : IntKind.i64.wrap (2 * step) = 2 * step := IntWalk.i64_in _ (by omega)
          have hw5 : IntKind.i64.wrap (clip + step) = clip + step := IntWalk.i64_in _ (by omega)
          have hw6 : IntKind.i64.wrap (clip + step - 1) = clip + step - 1 := IntWalk.i64_in _ (by omega)
          have hz1 : (2 * step == 0) = false := by rw [beq_eq_false_iff_ne]; omega
          have hz2 : (step == 0) = false := by rw [beq_eq_false_iff_ne]; omega
          go_upto_region 12 with fail
          refine wp_region_class_lit (C := fun w' => ∃ z : After wr.heap.size wr, w' = z.val) (by kernel_rfl) (by kernel_rfl) ⟨⟨_, (Below.refl _ _).drew⟩, rfl⟩ ?_
          repeat (go_big_quiet_step (fail))
          refine wpQuiet_nil ?_
          intro wz0 hw'
          obtain ⟨⟨wz, hz⟩, hw''⟩ := hw'
          dsimp only at hw''
          subst hw''
          have hp : wrap64 ((2 * sn + step) / (2 * step) * step) = nearN sn step := by
            rw [← near_eq]
            have h1 : 0 ≤ (2 * sn + step) / (2 * step) := Int.ediv_nonneg (by omega) (by omega)
            have h2 := Int.ediv_mul_le (2 * sn + step) (show 2 * step ≠ 0 by omega)
            have h3 : (2 * sn + step) / (2 * step) * (2 * step) = 2 * ((2 * sn + step) / (2 * step) * step) := Int.mul_left_comm _ _ _
            have h4 : 0 ≤ (2 * sn + step) / (2 * step) * step := Int.mul_nonneg h1 (by omega)
            rw [h3] at h2
            clear h1 h3
            generalize (2 * sn + step) / (2 * step) * step = p at *
            unfold wrap64; omega
          have hb2 : wrap64 ((clip + step - 1) / step * step) = leastN clip step := by
            unfold leastN
            have h1 : 0 ≤ (clip + step - 1) / step := Int.ediv_nonneg (by omega) (by omega)
            have h2 := Int.ediv_mul_le (clip + step - 1) (show step ≠ 0 by omega)
            have h4 : 0 ≤ (clip + step - 1) / step * step := Int.mul_nonneg h1 (by omega)
            clear h1
            generalize (clip + step - 1) / step * step = p at *
            unfold wrap64; omega
          have HPB := Lib.hid (And.intro hp hb2)
          clear hp hb2 kqA
          generalize wrap64 ((2 * sn + step) / (2 * step) * step) = pp at *
          generalize wrap64 ((clip + step - 1) / step * step) = bb at *
          go_wp2_with fail
          show bodyPost _ _ _ _ _ _
          exact bodyPost_ret (v := .tuple #[.int .i64 pp, .int .i64 bb, .int .i64 0]) (by simp [results, Try.results10, go_sem]) rfl ⟨by rw [HPB.out.1, HPB.out.2, HGS.out], bw.trans (hz.mono bw.size)⟩
end Go.Proofs.Ytjiajgmfkdkheaa
