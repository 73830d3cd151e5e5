/- The law on a question more. Written by vmo.py. -/
import Derived.Test.YtbkekdbabkncfaaGreatV4
import Derived.Test.YtbkekdbabkncfaaGreatV3
import Derived.Test.YtbkekdbabkncfaaGreatVAl

namespace Go.Proofs.YtbkekdbabkncfaaGreat
open Go.RowKit Go.Maps
set_option maxRecDepth 100000 in
set_option maxHeartbeats 16000000 in
theorem sumMore_any (columns : Int) (l : List SubD) (A : Option Addr) (c : Nat) (q : List QueD) (Q : Option Addr) (qc : Nat) (wh : List Whe) (col clip step : Int) (W : Option Addr) (wk : Nat) (k : Int) (w : World) (h : SubsAt w w.heap.size A l) (hm : ∀ x ∈ l, x.v.vals.length ≤ maxLen) (hq : QuesAt w w.heap.size Q q) (hqc : q.length ≤ qc) (hql : q.length * 48 ≤ 140737488351232) (hqw : ∀ x ∈ q, x.v.wheres.length ≤ maxLen) (hw : WhesAt w w.heap.size W wh) (hwl : wh.length ≤ maxLen) (hk : 0 ≤ k ∧ k ≤ 255) :
    Calls Tryz.prog 10 #[.int .i64 columns, .slice A l.length c, .slice Q q.length qc, .agg #[.slice W wh.length wk, .int .i64 col, .int .i64 clip, .int .i64 step], .int .u8 k] w fun e w' => e = .returned (.bool true) ∧ Below w.heap.size w w' := by
  obtain ⟨i0, hi, hz0, hz1, hz2⟩ := info_parts queInfoM
  have b1 := (Below.refl w.heap.size w).alloc (Nat.le_refl _) (.cells #[.slice W wh.length wk, .int .i64 col, .int .i64 clip, .int .i64 step] 25)
  have k1 := Blk.new w #[.slice W wh.length wk, .int .i64 col, .int .i64 clip, .int .i64 step] 25
  have HAl := Lib.hid (fun W' => alive_any W')
  obtain ⟨x0, hx0⟩ : ∃ x0 : QueD, x0 = ⟨⟨wh, col, clip, step⟩, W, wk⟩ := ⟨_, rfl⟩
  have hxC : queC x0 = [.slice W wh.length wk, .int .i64 col, .int .i64 clip, .int .i64 step] := by rw [hx0]; rfl
  have hxw : WhesAt w w.heap.size x0.W x0.v.wheres := by rw [hx0]; exact hw
  have hxl : x0.v.wheres.length ≤ maxLen := by rw [hx0]; exact hwl
  clear hx0 hw hwl
  go_enter Tryz.func10, Tryz.ntmps10
  go_upto_region 4 with (first
      | (go_at_call 12; (with_reducible refine (HAl.out _).mono ?_); rintro e w1 ⟨rfl, h1⟩; have b2 := b1.trans (h1.mono b1.size); have k2 := k1.below h1 k1.lt))
  have g2 := k2.lt
  have HQ := Lib.hid hq
  have HX := Lib.hid hxw
  clear hq hxw k1 b1 h1
  -- the first of three lists
  have D1 : Below w1.heap.size w1 ((w1.alloc (.cells #[] 25)).drew) := ((Below.refl _ _).alloc (Nat.le_refl _) _).drew
  have D2 : Below w1.heap.size w1 (((w1.alloc (.cells #[.slice W wh.length wk, .int .i64 col, .int .i64 clip, .int .i64 step] 25)).alloc (.cells #[] 25)).drew) := (((Below.refl _ _).alloc (Nat.le_refl _) _).alloc (by simp) _).drew
  have D3 : Below w1.heap.size w1 (((w1.alloc (.cells #[] 25)).alloc (.cells #[.slice W wh.length wk, .int .i64 col, .int .i64 clip, .int .i64 step] 25)).drew) := (((Below.refl _ _).alloc (Nat.le_refl _) _).alloc (by simp) _).drew
  have HQ1 := Lib.hid (HQ.out.later (b2.trans (D1.mono b2.size)))
  have HQ2 := Lib.hid (HQ.out.later (b2.trans (D2.mono b2.size)))
  have HQ3 := Lib.hid (HQ.out.later (b2.trans (D3.mono b2.size)))
  have kD0 := k2.cell
  have kD1 := (k2.below D1 g2).cell
  have kD2 := (k2.below D2 g2).cell
  have kD3 := (k2.below D3 g2).cell
  have hE1 := own_drew (own_empty w1 25 4 w1.heap.size (Nat.le_refl _))
  have hE2 := own_drew (own_empty (w1.alloc (.cells #[.slice W wh.length wk, .int .i64 col, .int .i64 clip, .int .i64 step] 25)) 25 4 w1.heap.size (by simp))
  rw [World.size_alloc] at hE2
  have hE3 := own_drew (own_below (own_empty w1 25 4 w1.heap.size (Nat.le_refl _)) ((Below.refl _ _).alloc (Nat.le_refl _) (.cells #[.slice W wh.length wk, .int .i64 col, .int .i64 clip, .int .i64 step] 25)))
  have km2 := ((Blk.new w1 #[.slice W wh.length wk, .int .i64 col, .int .i64 clip, .int .i64 step] 25).alloc (.cells #[] 25)).drew
  have km3 := (newAt' (w1.alloc (.cells #[] 25)) #[.slice W wh.length wk, .int .i64 col, .int .i64 clip, .int .i64 step] 25 (g := w1.heap.size + 1) (by simp)).drew
  go_cut [12] (fun p wx => ∃ X cp, p = .slice X (q.length + 1) cp ∧ Hid (wx.ownsRow w1.heap.size 25 4 (.slice X (q.length + 1) cp) (q.length + 1) (q.flatMap queC ++ queC x0) ∧ Below w1.heap.size w1 wx))
  case first =>
    go_region_law (first
      | (refine step_append_src (by rfl) _ _ _ (by rfl) w1.heap.size 25 i0 _ 4 48 Tryz.underlying35 hi hz0 hz1 hz2 rfl (by decide) _ 0 [] (by rfl) hE1 Q q.length qc (q.flatMap queC) (by rfl) (flat_len queC_len q) (by rintro rfl; exact HQ1.out.row.none_) (HQ1.out.row.news queC_len (by decide)) (flat_ones queC_oneM q) (by unfold maxLen; omega) (by omega) (by first | (simp; done) | (simp; omega)) ?_; intro v3 w3 hown3 hg3 _; rw [Nat.zero_add, List.nil_append] at hown3; obtain ⟨X1, x1, rfl⟩ := own_slice hown3; have h3 : Below w1.heap.size w1 w3 := D1.grown hg3 D1.size (fun k e => (hE1.lt k e).1); have kc3 := (k2.below h3 g2).cell)
      | (refine step_append_src (by rfl) _ _ _ (by rfl) w1.heap.size 25 i0 _ 4 48 Tryz.underlying35 hi hz0 hz1 hz2 rfl (by decide) _ 0 [] (by rfl) hE2 Q q.length qc (q.flatMap queC) (by rfl) (flat_len queC_len q) (by rintro rfl; exact HQ2.out.row.none_) (HQ2.out.row.news queC_len (by decide)) (flat_ones queC_oneM q) (by unfold maxLen; omega) (by omega) (by first | (simp; done) | (simp; omega)) ?_; intro v3 w3 hown3 hg3 _; rw [Nat.zero_add, List.nil_append] at hown3; obtain ⟨X1, x1, rfl⟩ := own_slice hown3; have h3 : Below w1.heap.size w1 w3 := D2.grown hg3 D2.size (fun k e => (hE2.lt k e).1); have kc3 := (k2.below h3 g2).cell; have km := km2.grown hg3 (by intro e; simp [Value.ownBlock] at e))
      | (refine step_append_src (by rfl) _ _ _ (by rfl) w1.heap.size 25 i0 _ 4 48 Tryz.underlying35 hi hz0 hz1 hz2 rfl (by decide) _ 0 [] (by rfl) hE3 Q q.length qc (q.flatMap queC) (by rfl) (flat_len queC_len q) (by rintro rfl; exact HQ3.out.row.none_) (HQ3.out.row.news queC_len (by decide)) (flat_ones queC_oneM q) (by unfold maxLen; omega) (by omega) (by first | (simp; done) | (simp; omega)) ?_; intro v3 w3 hown3 hg3 _; rw [Nat.zero_add, List.nil_append] at hown3; obtain ⟨X1, x1, rfl⟩ := own_slice hown3; have h3 : Below w1.heap.size w1 w3 := D3.grown hg3 D3.size (fun k e => (hE3.lt k e).1); have kc3 := (k2.below h3 g2).cell; have km := km3.grown hg3 (by intro e; simp [Value.ownBlock] at e))
      | (refine step_append_src (by rfl) _ _ _ (by rfl) w1.heap.size 25 i0 _ 4 48 Tryz.underlying35 hi hz0 hz1 hz2 rfl (by decide) _ q.length (q.flatMap queC) (by rfl) hown3 (some ⟨w1.heap.size, 0, none⟩) 1 1 (queC x0) (by rfl) rfl (by intro e; cases e) (by intro ad e j u hj; cases e; rw [WideShapes.add_plain, Nat.zero_add]; exact (km.cell j).trans (by simpa [hxC] using hj)) (queC_oneM x0) (by unfold maxLen; omega) (by omega) h3.size ?_; intro v4 w4 hown4 hg4 _; obtain ⟨X2, x2, rfl⟩ := own_slice hown4; have h4 : Below w1.heap.size w1 w4 := h3.grown hg4 h3.size (fun k e => (hown3.lt k e).1))
      | (refine step_append_src (by rfl) _ _ _ (by rfl) w1.heap.size 25 i0 _ 4 48 Tryz.underlying35 hi hz0 hz1 hz2 rfl (by decide) _ q.length (q.flatMap queC) (by rfl) hown3 (some ⟨(w1.heap.size + 1), 0, none⟩) 1 1 (queC x0) (by rfl) rfl (by intro e; cases e) (by intro ad e j u hj; cases e; rw [WideShapes.add_plain, Nat.zero_add]; exact (km.cell j).trans (by simpa [hxC] using hj)) (queC_oneM x0) (by unfold maxLen; omega) (by omega) h3.size ?_; intro v4 w4 hown4 hg4 _; obtain ⟨X2, x2, rfl⟩ := own_slice hown4; have h4 : Below w1.heap.size w1 w4 := h3.grown hg4 h3.size (fun k e => (hown3.lt k e).1))
      | (refine step_append_src (by rfl) _ _ _ (by rfl) w1.heap.size 25 i0 _ 4 48 Tryz.underlying35 hi hz0 hz1 hz2 rfl (by decide) _ q.length (q.flatMap queC) (by rfl) (hown3.alloc (.cells #[.slice W wh.length wk, .int .i64 col, .int .i64 clip, .int .i64 step] 25)) (some ⟨w3.heap.size, 0, none⟩) 1 1 (queC x0) (by rfl) rfl (by intro e; cases e) (by intro ad e j u hj; cases e; rw [WideShapes.add_plain, Nat.zero_add]; exact ((Blk.new w3 #[.slice W wh.length wk, .int .i64 col, .int .i64 clip, .int .i64 step] 25).cell j).trans (by simpa [hxC] using hj)) (queC_oneM x0) (by unfold maxLen; omega) (by omega) (h3.alloc h3.size (.cells #[.slice W wh.length wk, .int .i64 col, .int .i64 clip, .int .i64 step] 25)).size ?_; intro v4 w4 hown4 hg4 _; obtain ⟨X2, x2, rfl⟩ := own_slice hown4; have h4 : Below w1.heap.size w1 w4 := (h3.alloc h3.size (.cells #[.slice W wh.length wk, .int .i64 col, .int .i64 clip, .int .i64 step] 25)).grown hg4 (h3.alloc h3.size (.cells #[.slice W wh.length wk, .int .i64 col, .int .i64 clip, .int .i64 step] 25)).size (fun k e => ((hown3.alloc (.cells #[.slice W wh.length wk, .int .i64 col, .int .i64 clip, .int .i64 step] 25)).lt k e).1)))
    all_goals first | (go_step; go_step; go_meet) | (go_step; go_meet) | go_meet
    all_goals exact ⟨X2, x2, rfl, Lib.hid ⟨hown4, h4⟩⟩
  case rest =>
    obtain ⟨X, cp, rfl, HH⟩ := hcut
    generalize wc = w3 at *
    have h3 := HH.out.2
    have b3 := b2.trans (h3.mono b2.size)
    have hQ1 := ques_own (q := q ++ [x0]) (by rw [List.flatMap_append]; simpa using HH.out.1) (by simp) (fun x hx => by
      rw [List.mem_append, List.mem_singleton] at hx
      rcases hx with hx | rfl
      · exact (HQ.out.each x hx).later b3
      · exact HX.out.later b3)
    clear D1 D2 D3 HQ1 HQ2 HQ3 kD0 kD1 kD2 kD3 hE1 hE2 hE3 km2 km3 HH k2 g2 HX b2 h3
    obtain ⟨qa, hqa⟩ : ∃ qa, qa = q ++ [x0] := ⟨_, rfl⟩
    have hla : qa.length = q.length + 1 := by rw [hqa]; simp
    have hqaw : ∀ x ∈ qa, x.v.wheres.length ≤ maxLen := fun x hx => by
      rw [hqa, List.mem_append, List.mem_singleton] at hx
      rcases hx with hx | rfl
      · exact hqw x hx
      · exact hxl
    have hqs : ∀ x ∈ q, x ∈ qa := fun x hx => by rw [hqa]; simp [hx]
    rw [← hqa] at hQ1
    clear hqa hxC hxl
    have HR1 := Lib.hid (fun (W' : World) (hb : Below w.heap.size w W') => ready_any columns l A c q Q qc W' (h.later hb) hm (HQ.out.later hb) hqw)
    have HR2 := Lib.hid (fun (W' : World) (hb : Below w3.heap.size w3 W') => ready_any columns l A c qa X cp W' (h.later (b3.trans (hb.mono b3.size))) hm (hQ1.later hb) hqaw)
    rw [hla] at HR2
    cases hr1 : rdyB columns l q with
    | false =>
      rw [hr1] at HR1
      clear h hm hqw hqaw hqs hr1 HR2
      go_wp2_with (first
        | (go_at_call 34; (with_reducible refine (HR1.out _ b3).mono ?_); rintro e w4 ⟨rfl, h4⟩; have b4 := b3.trans (h4.mono b3.size)))
      go_ret
      exact ⟨rfl, b4⟩
    | true =>
      rw [hr1] at HR1
      cases hr2 : rdyB columns l qa with
      | false =>
        rw [hr2] at HR2
        clear h hm hqw hqaw hqs hr1 hr2
        go_wp2_with (first
          | (go_at_call 34; first
            | ((with_reducible refine (HR1.out _ b3).mono ?_); rintro e w4 ⟨rfl, h4⟩; have b4 := b3.trans (h4.mono b3.size))
            | ((with_reducible refine (HR2.out _ h4).mono ?_); rintro e w5 ⟨rfl, h5⟩; have b5 := b4.trans (h5.mono b4.size))))
        go_ret
        exact ⟨rfl, b5⟩
      | true =>
        rw [hr2] at HR2
        by_cases hn0 : q.length = 0
        · have hz : ((q.length : Int) == 0) = true := by rw [hn0]; rfl
          clear h hm hqw hqaw hqs hr1 hr2 hn0
          go_wp2_with (first
            | (go_at_call 34; first
              | ((with_reducible refine (HR1.out _ b3).mono ?_); rintro e w4 ⟨rfl, h4⟩; have b4 := b3.trans (h4.mono b3.size))
              | ((with_reducible refine (HR2.out _ h4).mono ?_); rintro e w5 ⟨rfl, h5'⟩; have h5 := h4.trans (h5'.mono h4.size); have b5 := b3.trans (h5.mono b3.size))))
          go_ret
          exact ⟨rfl, b5⟩
        · have hne : ((q.length : Int) == 0) = false := by rw [beq_eq_false_iff_ne]; omega
          have hnI : ¬ ((q.length : Int) = 0) := by omega
          obtain ⟨kn, hkn⟩ : ∃ kn : Nat, k.tmod (q.length : Int) = kn := ⟨(k.tmod (q.length : Int)).toNat, (Int.toNat_of_nonneg (Int.tmod_nonneg (q.length : Int) hk.1)).symm⟩
          have hkl : kn < q.length := by
            have := Int.tmod_lt_of_pos k (show (0 : Int) < q.length by omega)
            rw [hkn] at this
            omega
          have hcv : IntKind.i64.wrap k = k := IntWalk.i64_in _ (by omega)
          obtain ⟨b, off, rfl, hb, c00, c01, c02, c03, _⟩ := ques_at HQ.out hkl
          go_upto_region 8 with (first
            | (go_at_call 34; first
              | ((with_reducible refine (HR1.out _ b3).mono ?_); rintro e w4 ⟨rfl, h4⟩; have b4 := b3.trans (h4.mono b3.size))
              | ((with_reducible refine (HR2.out _ h4).mono ?_); rintro e w5 ⟨rfl, h5'⟩; have h5 := h4.trans (h5'.mono h4.size); have b5 := b3.trans (h5.mono b3.size))))
          have HA2 := Lib.hid h5
          clear h4 b4 h5' HR1 HR2 hcv hkn hne hnI hn0
          obtain ⟨_, htb, hav⟩ := rdy_parts hr1
          obtain ⟨_, _, hava⟩ := rdy_parts hr2
          clear hr1 hr2
          -- the second list
          have HQ5 := Lib.hid (HQ.out.row.news queC_len (by decide))
          have D1 : Below w5.heap.size w5 ((w5.alloc (.cells #[] 25)).drew) := ((Below.refl _ _).alloc (Nat.le_refl _) _).drew
          have HN1 : Hid (∀ j v, ((q.drop kn).flatMap queC)[j]? = some v → ((w5.alloc (.cells #[] 25)).drew).cell? ((⟨b, off + kn * 4, none⟩ : Addr).add j) = some v) := Lib.hid (fun j v hj => by
            have h8 := flat_len queC_len (q.take kn)
            rw [List.length_take, Nat.min_eq_left (by omega)] at h8
            have e8 : q.flatMap queC = (q.take kn).flatMap queC ++ (q.drop kn).flatMap queC := by rw [← List.flatMap_append, List.take_append_drop]
            have h9 := (HQ.out.row.later (b5.trans (D1.mono b5.size))).news queC_len (by decide) _ rfl (kn * 4 + j) v (by rw [e8, List.getElem?_append_right (by omega), h8, Nat.add_sub_cancel_left]; exact hj)
            rw [WideShapes.add_plain] at h9 ⊢
            rw [Nat.add_assoc]; exact h9)
          have HN2 : Hid (∀ V, Below w5.heap.size w5 V → ∀ j v, ((q.take kn).flatMap queC)[j]? = some v → V.cell? ((⟨b, off, none⟩ : Addr).add j) = some v) := Lib.hid (fun V hV j v hj => by
            have e8 : q.flatMap queC = (q.take kn).flatMap queC ++ (q.drop kn).flatMap queC := by rw [← List.flatMap_append, List.take_append_drop]
            have hjl : j < ((q.take kn).flatMap queC).length := (List.getElem?_eq_some_iff.1 hj).1
            exact (HQ.out.row.later (b5.trans (hV.mono b5.size))).news queC_len (by decide) _ rfl j v (by rw [e8, List.getElem?_append_left hjl]; exact hj))
          have hE1 := own_drew (own_empty w5 25 4 w5.heap.size (Nat.le_refl _))
          have hkc : kn ≤ qc := by omega
          have hck : ¬ qc = kn := by omega
          have hkl2 : kn ≤ q.length := by omega
          have e1 : (kn : Int).toNat = kn := by omega
          have e2 : ¬ (kn : Int) < 0 := by omega
          have hln1 : ((q.drop kn).flatMap queC).length = (q.length - kn) * 4 := by rw [flat_len queC_len, List.length_drop]
          have hln2 : ((q.take kn).flatMap queC).length = kn * 4 := by rw [flat_len queC_len, List.length_take, Nat.min_eq_left hkl2]
          go_cut [14] (fun p wx => ∃ Y cy, p = .slice Y q.length cy ∧ Hid (wx.ownsRow w5.heap.size 25 4 (.slice Y q.length cy) q.length ((q.drop kn).flatMap queC ++ (q.take kn).flatMap queC) ∧ Below w5.heap.size w5 wx))
          case first =>
            go_region_law (first
              | (refine step_append_src (by rfl) (.tmp 58) (.tmp 61) _ (by rfl) w5.heap.size 25 i0 _ 4 48 Tryz.underlying35 hi hz0 hz1 hz2 rfl (by decide) _ 0 [] (by rfl) hE1 (some ⟨b, off + kn * 4, none⟩) (q.length - kn) (qc - kn) ((q.drop kn).flatMap queC) (by first | rfl | (simp [Act.eval]; done) | (simp [Act.eval]; intro e; omega)) hln1 (by intro e; cases e) (by intro ad e; cases e; exact HN1.out) (flat_ones queC_oneM _) (by unfold maxLen; omega) (by omega) (by first | (simp; done) | (simp; omega)) ?_; intro v6 w6 hown6 hg6 _; rw [Nat.zero_add, List.nil_append] at hown6; obtain ⟨Y1, y1, rfl⟩ := own_slice hown6; have h6 : Below w5.heap.size w5 w6 := D1.grown hg6 D1.size (fun k e => (hE1.lt k e).1))
              | (refine step_append_src (by rfl) (.tmp 62) (.tmp 65) _ (by rfl) w5.heap.size 25 i0 _ 4 48 Tryz.underlying35 hi hz0 hz1 hz2 rfl (by decide) _ (q.length - kn) ((q.drop kn).flatMap queC) (by rfl) hown6 (some ⟨b, off, none⟩) kn qc ((q.take kn).flatMap queC) (by first | rfl | (simp [Act.eval]; done)) hln2 (by intro e; cases e) (by intro ad e; cases e; exact HN2.out _ h6) (flat_ones queC_oneM _) (by unfold maxLen; omega) (by omega) h6.size ?_; intro v7 w7 hown7 hg7 _; obtain ⟨Y2, y2, rfl⟩ := own_slice hown7; have h7 : Below w5.heap.size w5 w7 := h6.grown hg7 h6.size (fun k e => (hown6.lt k e).1)))
            all_goals first | (go_step; go_step; go_meet) | (go_step; go_meet) | go_meet
            all_goals exact ⟨Y2, y2, rfl, Lib.hid ⟨by rw [Nat.sub_add_cancel hkl2] at hown7; exact hown7, h7⟩⟩
          case rest =>
            obtain ⟨Y, cy, rfl, HH⟩ := hcut
            generalize wc = w7 at *
            have h7 := HH.out.2
            have b7 := b5.trans (h7.mono b5.size)
            have a7 := HA2.out.trans (h7.mono HA2.out.size)
            obtain ⟨qt, hqt⟩ : ∃ qt, qt = q.drop kn ++ q.take kn := ⟨_, rfl⟩
            have hqtp : qt.Perm q := by rw [hqt]; exact List.perm_append_comm.trans (by rw [List.take_append_drop])
            have hlt : qt.length = q.length := hqtp.length_eq
            have hQt : QuesAt w7 w7.heap.size Y qt := ques_own (c := cy) (n := q.length) (by rw [hqt, List.flatMap_append]; exact HH.out.1) hlt.symm (fun x hx => (HQ.out.each x (hqtp.mem_iff.1 hx)).later b7)
            obtain ⟨ol, ho⟩ := srt_some l
            have hnd := tab_ids htb
            have h8q := (avl_parts hav).1
            have h8a := (avl_parts hava).1
            rw [hla] at h8a
            have het : dedR ol qt = dedR ol q := ded_same ho hnd h8q (by omega) (fun x => hqtp.mem_iff)
            have hed : dedR ol (q ++ [q[kn]]) = dedR ol q := ded_same ho hnd h8q (by simp; omega) (fun x => by
              rw [List.mem_append, List.mem_singleton]
              constructor
              · rintro (hx | rfl)
                · exact hx
                · exact List.getElem_mem hkl
              · exact .inl)
            have HSa := Lib.hid (ded_lt (qs := q) h8q (srt_ids ho hnd))
            have HSb := Lib.hid (ded_lt (qs := qa) (by omega) (srt_ids ho hnd))
            have HSub := Lib.hid (ded_sub (ol := ol) (qs := q) (qs' := qa) h8q (by omega) (fun v hv => by
              obtain ⟨x, hx, rfl⟩ := List.mem_map.1 hv
              exact List.mem_map_of_mem (hqs x hx)))
            have hl8 := ded8 (ol := ol) (qs := q) h8q
            have hl8b := ded8 (ol := ol) (qs := qa) (by omega)
            have HRq := Lib.hid (fun (W' : World) (hb' : Below w.heap.size w W') => (Rdy.mk (h.later hb') hm htb (HQ.out.later hb') hqw hav).ded0 (c := c) (sc := qc) ho)
            have HRa := Lib.hid (fun (W' : World) (hb' : Below w3.heap.size w3 W') => (Rdy.mk (h.later (b3.trans (hb'.mono b3.size))) hm htb (hQ1.later hb') hqaw hava).ded0 (c := c) (sc := cp) ho)
            have HRt := Lib.hid (fun (W' : World) (hb' : Below w7.heap.size w7 W') => (Rdy.mk (h.later (b7.trans (hb'.mono b7.size))) hm htb (hQt.later hb') (fun x hx => hqw x (hqtp.mem_iff.1 hx)) (avl_of hav (by omega) (fun x hx => hqtp.mem_iff.1 hx))).ded0 (c := c) (sc := cy) ho)
            have HRd := Lib.hid (fun (W' : World) (Z : Option Addr) (z : Nat) (hb' : Below w.heap.size w W') (hZ : QuesAt W' W'.heap.size Z (q ++ [q[kn]])) => (Rdy.mk (h.later hb') hm htb hZ (fun x hx => by
              rw [List.mem_append, List.mem_singleton] at hx
              rcases hx with hx | rfl
              · exact hqw x hx
              · exact hqw _ (List.getElem_mem hkl)) (avl_of hav (by simp; omega) (fun x hx => by
              rw [List.mem_append, List.mem_singleton] at hx
              rcases hx with hx | rfl
              · exact hx
              · exact List.getElem_mem hkl))).ded0 (c := c) (sc := z) ho)
            rw [hla] at HRa
            rw [hlt, het] at HRt
            rw [hed, List.length_append, List.length_singleton] at HRd
            have hlab := len_sorted HSa.out HSb.out HSub.out
            clear D1 HN1 HN2 hE1 hkc hck e1 e2 hln1 hln2 HQ5 HH hQ1 hQt h hm hqw hqaw hqs hav hava htb het hed hqt hqtp hnd ho HA2 h7 hla hlt HAl
            generalize dedR ol q = da at *
            generalize dedR ol qa = db at *
            go_upto_region 12 with (go_at_call 19; first
              | ((with_reducible refine (HRq.out _ b7).mono ?_); rintro e w8 ⟨A8, c8, rfl, i8, y8⟩; have a8 := a7.trans (y8.mono a7.size); have b8 := b7.trans (y8.mono b7.size); clear HRq)
              | ((with_reducible refine (HRa.out _ a8).mono ?_); rintro e w9 ⟨A9, c9, rfl, i9, y9⟩; have b9 := b8.trans (y9.mono b8.size); have y89 := y8.trans (y9.mono y8.size); clear HRa)
              | ((with_reducible refine (HRt.out _ y89).mono ?_); rintro e v1 ⟨A10, c10, rfl, i10, y10⟩; have b10 := b9.trans (y10.mono b9.size); clear HRt))
            have I8 := Lib.hid (i8.later (y9.trans (y10.mono y9.size)))
            have I9 := Lib.hid (i9.later y10)
            have I10 := Lib.hid i10
            clear i8 i9 i10 y8 y9 y10 a8 b8 b9 y89 a7 b7 b5
            have cc0 := (b10.cell (p := ⟨b, off + kn * 4, none⟩) hb).trans c00
            have cc1 := (b10.cell (p := ⟨b, off + kn * 4 + 1, none⟩) hb).trans c01
            have cc2 := (b10.cell (p := ⟨b, off + kn * 4 + 2, none⟩) hb).trans c02
            have cc3 := (b10.cell (p := ⟨b, off + kn * 4 + 3, none⟩) hb).trans c03
            have hvk := Lib.hid ((HQ.out.each _ (List.getElem_mem hkl)))
            have hb10 : b < v1.heap.size := Nat.lt_of_lt_of_le hb b10.size
            clear c00 c01 c02 c03
            generalize hyk : q[kn] = y at *
            clear hyk
            have hyC : queC y = [.slice y.W y.v.wheres.length y.c, .int .i64 y.v.col, .int .i64 y.v.clip, .int .i64 y.v.step] := rfl
            have hkI : (kn : Int) < (q.length : Int) := by omega
            -- the third list
            have D1 : Below v1.heap.size v1 ((v1.alloc (.cells #[] 25)).drew) := ((Below.refl _ _).alloc (Nat.le_refl _) _).drew
            have D2 : Below v1.heap.size v1 (((v1.alloc (.cells #[.slice y.W y.v.wheres.length y.c, .int .i64 y.v.col, .int .i64 y.v.clip, .int .i64 y.v.step] 25)).alloc (.cells #[] 25)).drew) := (((Below.refl _ _).alloc (Nat.le_refl _) _).alloc (by simp) _).drew
            have D3 : Below v1.heap.size v1 (((v1.alloc (.cells #[] 25)).alloc (.cells #[.slice y.W y.v.wheres.length y.c, .int .i64 y.v.col, .int .i64 y.v.clip, .int .i64 y.v.step] 25)).drew) := (((Below.refl _ _).alloc (Nat.le_refl _) _).alloc (by simp) _).drew
            have HQ1 := Lib.hid (HQ.out.later (b10.trans (D1.mono b10.size)))
            have HQ2 := Lib.hid (HQ.out.later (b10.trans (D2.mono b10.size)))
            have HQ3 := Lib.hid (HQ.out.later (b10.trans (D3.mono b10.size)))
            have cd0 := (D1.cell (p := ⟨b, off + kn * 4, none⟩) hb10).trans cc0
            have cd1 := (D1.cell (p := ⟨b, off + kn * 4 + 1, none⟩) hb10).trans cc1
            have cd2 := (D1.cell (p := ⟨b, off + kn * 4 + 2, none⟩) hb10).trans cc2
            have cd3 := (D1.cell (p := ⟨b, off + kn * 4 + 3, none⟩) hb10).trans cc3
            have hE1 := own_drew (own_empty v1 25 4 v1.heap.size (Nat.le_refl _))
            have hE2 := own_drew (own_empty (v1.alloc (.cells #[.slice y.W y.v.wheres.length y.c, .int .i64 y.v.col, .int .i64 y.v.clip, .int .i64 y.v.step] 25)) 25 4 v1.heap.size (by simp))
            rw [World.size_alloc] at hE2
            have hE3 := own_drew (own_below (own_empty v1 25 4 v1.heap.size (Nat.le_refl _)) ((Below.refl _ _).alloc (Nat.le_refl _) (.cells #[.slice y.W y.v.wheres.length y.c, .int .i64 y.v.col, .int .i64 y.v.clip, .int .i64 y.v.step] 25)))
            have km2 := ((Blk.new v1 #[.slice y.W y.v.wheres.length y.c, .int .i64 y.v.col, .int .i64 y.v.clip, .int .i64 y.v.step] 25).alloc (.cells #[] 25)).drew
            have km3 := (newAt' (v1.alloc (.cells #[] 25)) #[.slice y.W y.v.wheres.length y.c, .int .i64 y.v.col, .int .i64 y.v.clip, .int .i64 y.v.step] 25 (g := v1.heap.size + 1) (by simp)).drew
            go_cut [21, 22] (fun p s wx => ∃ Z cz, p = .slice Z da.length cz ∧ s = .int .i64 0 ∧ Hid (IntsAt wx wx.heap.size Z da ∧ Below v1.heap.size v1 wx))
            case first =>
              go_region_law (first
                | (refine step_append_src (by rfl) _ _ _ (by rfl) v1.heap.size 25 i0 _ 4 48 Tryz.underlying35 hi hz0 hz1 hz2 rfl (by decide) _ 0 [] (by rfl) hE1 (some ⟨b, off, none⟩) q.length qc (q.flatMap queC) (by rfl) (flat_len queC_len q) (by intro e; cases e) (HQ1.out.row.news queC_len (by decide)) (flat_ones queC_oneM q) (by unfold maxLen; omega) (by omega) (by first | (simp; done) | (simp; omega)) ?_; intro v3 w3 hown3 hg3 _; rw [Nat.zero_add, List.nil_append] at hown3; obtain ⟨X1, x1, rfl⟩ := own_slice hown3; have h3 : Below v1.heap.size v1 w3 := D1.grown hg3 D1.size (fun k e => (hE1.lt k e).1); have ce0 := (h3.cell (p := ⟨b, off + kn * 4, none⟩) hb10).trans cc0; have ce1 := (h3.cell (p := ⟨b, off + kn * 4 + 1, none⟩) hb10).trans cc1; have ce2 := (h3.cell (p := ⟨b, off + kn * 4 + 2, none⟩) hb10).trans cc2; have ce3 := (h3.cell (p := ⟨b, off + kn * 4 + 3, none⟩) hb10).trans cc3)
                | (refine step_append_src (by rfl) _ _ _ (by rfl) v1.heap.size 25 i0 _ 4 48 Tryz.underlying35 hi hz0 hz1 hz2 rfl (by decide) _ 0 [] (by rfl) hE2 (some ⟨b, off, none⟩) q.length qc (q.flatMap queC) (by rfl) (flat_len queC_len q) (by intro e; cases e) (HQ2.out.row.news queC_len (by decide)) (flat_ones queC_oneM q) (by unfold maxLen; omega) (by omega) (by first | (simp; done) | (simp; omega)) ?_; intro v3 w3 hown3 hg3 _; rw [Nat.zero_add, List.nil_append] at hown3; obtain ⟨X1, x1, rfl⟩ := own_slice hown3; have h3 : Below v1.heap.size v1 w3 := D2.grown hg3 D2.size (fun k e => (hE2.lt k e).1); have ce0 := (h3.cell (p := ⟨b, off + kn * 4, none⟩) hb10).trans cc0; have ce1 := (h3.cell (p := ⟨b, off + kn * 4 + 1, none⟩) hb10).trans cc1; have ce2 := (h3.cell (p := ⟨b, off + kn * 4 + 2, none⟩) hb10).trans cc2; have ce3 := (h3.cell (p := ⟨b, off + kn * 4 + 3, none⟩) hb10).trans cc3; have km := km2.grown hg3 (by intro e; simp [Value.ownBlock] at e))
                | (refine step_append_src (by rfl) _ _ _ (by rfl) v1.heap.size 25 i0 _ 4 48 Tryz.underlying35 hi hz0 hz1 hz2 rfl (by decide) _ 0 [] (by rfl) hE3 (some ⟨b, off, none⟩) q.length qc (q.flatMap queC) (by rfl) (flat_len queC_len q) (by intro e; cases e) (HQ3.out.row.news queC_len (by decide)) (flat_ones queC_oneM q) (by unfold maxLen; omega) (by omega) (by first | (simp; done) | (simp; omega)) ?_; intro v3 w3 hown3 hg3 _; rw [Nat.zero_add, List.nil_append] at hown3; obtain ⟨X1, x1, rfl⟩ := own_slice hown3; have h3 : Below v1.heap.size v1 w3 := D3.grown hg3 D3.size (fun k e => (hE3.lt k e).1); have ce0 := (h3.cell (p := ⟨b, off + kn * 4, none⟩) hb10).trans cc0; have ce1 := (h3.cell (p := ⟨b, off + kn * 4 + 1, none⟩) hb10).trans cc1; have ce2 := (h3.cell (p := ⟨b, off + kn * 4 + 2, none⟩) hb10).trans cc2; have ce3 := (h3.cell (p := ⟨b, off + kn * 4 + 3, none⟩) hb10).trans cc3; have km := km3.grown hg3 (by intro e; simp [Value.ownBlock] at e))
                | (refine step_append_src (by rfl) _ _ _ (by rfl) v1.heap.size 25 i0 _ 4 48 Tryz.underlying35 hi hz0 hz1 hz2 rfl (by decide) _ q.length (q.flatMap queC) (by rfl) hown3 (some ⟨v1.heap.size, 0, none⟩) 1 1 (queC y) (by rfl) rfl (by intro e; cases e) (by intro ad e j u hj; cases e; rw [WideShapes.add_plain, Nat.zero_add]; exact (km.cell j).trans (by simpa [hyC] using hj)) (queC_oneM y) (by unfold maxLen; omega) (by omega) h3.size ?_; intro v4 w4 hown4 hg4 _; obtain ⟨X2, x2, rfl⟩ := own_slice hown4; have h4 : Below v1.heap.size v1 w4 := h3.grown hg4 h3.size (fun k e => (hown3.lt k e).1))
                | (refine step_append_src (by rfl) _ _ _ (by rfl) v1.heap.size 25 i0 _ 4 48 Tryz.underlying35 hi hz0 hz1 hz2 rfl (by decide) _ q.length (q.flatMap queC) (by rfl) hown3 (some ⟨(v1.heap.size + 1), 0, none⟩) 1 1 (queC y) (by rfl) rfl (by intro e; cases e) (by intro ad e j u hj; cases e; rw [WideShapes.add_plain, Nat.zero_add]; exact (km.cell j).trans (by simpa [hyC] using hj)) (queC_oneM y) (by unfold maxLen; omega) (by omega) h3.size ?_; intro v4 w4 hown4 hg4 _; obtain ⟨X2, x2, rfl⟩ := own_slice hown4; have h4 : Below v1.heap.size v1 w4 := h3.grown hg4 h3.size (fun k e => (hown3.lt k e).1))
                | (refine step_append_src (by rfl) _ _ _ (by rfl) v1.heap.size 25 i0 _ 4 48 Tryz.underlying35 hi hz0 hz1 hz2 rfl (by decide) _ q.length (q.flatMap queC) (by rfl) (hown3.alloc (.cells #[.slice y.W y.v.wheres.length y.c, .int .i64 y.v.col, .int .i64 y.v.clip, .int .i64 y.v.step] 25)) (some ⟨w3.heap.size, 0, none⟩) 1 1 (queC y) (by rfl) rfl (by intro e; cases e) (by intro ad e j u hj; cases e; rw [WideShapes.add_plain, Nat.zero_add]; exact ((Blk.new w3 #[.slice y.W y.v.wheres.length y.c, .int .i64 y.v.col, .int .i64 y.v.clip, .int .i64 y.v.step] 25).cell j).trans (by simpa [hyC] using hj)) (queC_oneM y) (by unfold maxLen; omega) (by omega) (h3.alloc h3.size (.cells #[.slice y.W y.v.wheres.length y.c, .int .i64 y.v.col, .int .i64 y.v.clip, .int .i64 y.v.step] 25)).size ?_; intro v4 w4 hown4 hg4 _; obtain ⟨X2, x2, rfl⟩ := own_slice hown4; have h4 : Below v1.heap.size v1 w4 := (h3.alloc h3.size (.cells #[.slice y.W y.v.wheres.length y.c, .int .i64 y.v.col, .int .i64 y.v.clip, .int .i64 y.v.step] 25)).grown hg4 (h3.alloc h3.size (.cells #[.slice y.W y.v.wheres.length y.c, .int .i64 y.v.col, .int .i64 y.v.clip, .int .i64 y.v.step] 25)).size (fun k e => ((hown3.alloc (.cells #[.slice y.W y.v.wheres.length y.c, .int .i64 y.v.col, .int .i64 y.v.clip, .int .i64 y.v.step] 25)).lt k e).1))
                | (go_simp; go_at_call 19; (with_reducible refine (HRd.out _ X2 x2 (b10.trans (h4.mono b10.size)) (ques_own (q := q ++ [y]) (c := x2) (n := q.length + 1) (by rw [List.flatMap_append]; simpa using hown4) (by simp) (fun x hx => by
                    rw [List.mem_append, List.mem_singleton] at hx
                    rcases hx with hx | rfl
                    · exact WhesAt.lat (HQ.out.each x hx) (b10.trans (h4.mono b10.size))
                    · exact WhesAt.lat hvk.out (b10.trans (h4.mono b10.size))))).mono ?_); rintro e w9 ⟨Z9, z9, rfl, i9, y9⟩; have h9 := h4.trans (y9.mono h4.size)))
              all_goals first | (go_step; go_step; go_step; go_step; go_meet) | (go_step; go_step; go_step; go_meet) | (go_step; go_step; go_meet) | (go_step; go_meet) | go_meet
              all_goals exact ⟨Z9, z9, rfl, rfl, Lib.hid ⟨i9, h9⟩⟩
            case rest =>
              obtain ⟨Z, cz, rfl, rfl, HH⟩ := hcut
              generalize wc = u at *
              have hu := HH.out.2
              have bu := b10.trans (hu.mono b10.size)
              have J8 := Lib.hid (I8.out.later hu)
              have J9 := Lib.hid (I9.out.later hu)
              have J10 := Lib.hid (I10.out.later hu)
              have J11 := Lib.hid HH.out.1
              clear D1 D2 D3 HQ1 HQ2 HQ3 cd0 cd1 cd2 cd3 cc0 cc1 cc2 cc3 hE1 hE2 hE3 km2 km3 HH I8 I9 I10 hyC hvk HRd HQ b10 hb10 hu hkI
              have hnl : ¬ (db.length : Int) < (da.length : Int) := by omega
              have HIn := Lib.hid (fun Aa Ab ca cb (W' : World) hi1 hi2 => sameInts_any da Aa Ab ca cb W' hi1 hi2 (by omega))
              go_upto_region 15 with (go_at_call 18; first
                | ((with_reducible refine (HIn.out A8 A10 c8 c10 _ J8.out J10.out).mono ?_); rintro e u1 ⟨rfl, y1⟩; clear J10)
                | ((with_reducible refine (HIn.out A8 Z c8 cz _ (J8.out.later y1) (J11.out.later y1)).mono ?_); rintro e u2 ⟨rfl, y2'⟩; have y2 := y1.trans (y2'.mono y1.size)))
              have K8 := Lib.hid (J8.out.later y2)
              have K9 := Lib.hid (J9.out.later y2)
              have b2' := bu.trans (y2.mono bu.size)
              clear J8 J9 J11 y1 y2 y2' HIn hnl bu
              have HS0 : Hid (Still da db 0 0) := Lib.hid ⟨Nat.zero_le _, by simpa using HSub.out⟩
              go_wp2_with fail
              go_loopw [23, 138] (fun ii jj wr => ∃ (i j : Nat), j ≤ db.length ∧ i ≤ da.length ∧ ii = .int .i64 i ∧ jj = .int .i64 j ∧ Hid (Still da db i j ∧ Below u2.heap.size u2 wr)) (fun _ jj _ => db.length - (vInt jj).toNat)
              case atStart => exact ⟨0, 0, Nat.zero_le _, Nat.zero_le _, rfl, rfl, Lib.hid ⟨HS0.out, Below.refl _ _⟩⟩
              case round =>
                obtain ⟨i, j, hj, hil, rfl, rfl, hR⟩ := hrel
                obtain ⟨hS, hB⟩ := hR.out
                by_cases hlt : j < db.length
                · have hjl : (j : Int) < (db.length : Int) := by omega
                  obtain ⟨bb, ob, rfl, hbb, cb⟩ := ints_at (K9.out.later hB) hlt
                  have hst := still_step HSa.out HSb.out hS hlt
                  by_cases hi2 : i < da.length
                  · have hiI : (i : Int) < (da.length : Int) := by omega
                    obtain ⟨ba, oa, rfl, hba, ca⟩ := ints_at (K8.out.later hB) hi2
                    by_cases heq : da[i] = db[j]
                    · have HN := Lib.hid (hst.1 hi2 heq)
                      rw [heq] at ca
                      clear hst hR hS
                      generalize db[j] = x at *
                      clear heq
                      have hbe : (x == x) = true := by simp
                      go_wp2_with fail
                      go_roundw
                      case rel => exact ⟨i + 1, j + 1, by omega, by omega, by go_num, by go_num, Lib.hid ⟨HN.out, hB⟩⟩
                      case measure => simp [vInt]; omega
                    · have HN := Lib.hid (hst.2 (fun _ => heq))
                      have hbe : (da[i] == db[j]) = false := by rw [beq_eq_false_iff_ne]; exact heq
                      clear hst hR hS
                      generalize db[j] = x at *
                      generalize da[i] = z at *
                      go_wp2_with fail
                      go_roundw
                      case rel => exact ⟨i, j + 1, by omega, by omega, rfl, by go_num, Lib.hid ⟨HN.out, hB⟩⟩
                      case measure => simp [vInt]; omega
                  · have hiI : ¬ (i : Int) < (da.length : Int) := by omega
                    have HN := Lib.hid (hst.2 (fun hc => absurd hc hi2))
                    clear hst hR hS
                    go_wp2_with fail
                    go_roundw
                    case rel => exact ⟨i, j + 1, by omega, by omega, rfl, by go_num, Lib.hid ⟨HN.out, hB⟩⟩
                    case measure => simp [vInt]; omega
                · have hjl : ¬ (j : Int) < (db.length : Int) := by omega
                  obtain rfl : j = db.length := by omega
                  obtain rfl := still_end hS
                  clear hR hS
                  have hbe : ((da.length : Int) == (da.length : Int)) = true := by simp
                  go_wp2_with fail
                  go_ret
                  exact ⟨ret_bool (by simp), b2'.trans (hB.mono b2'.size)⟩
end Go.Proofs.YtbkekdbabkncfaaGreat
