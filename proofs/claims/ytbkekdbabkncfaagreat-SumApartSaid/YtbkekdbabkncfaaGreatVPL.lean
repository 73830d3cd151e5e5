/- The law on what is apart: orders, and those who are not asked for. -/
import Derived.Test.YtbkekdbabkncfaaGreatVAk
import Derived.Test.YtbkekdbabkncfaaGreatVFew
import Derived.Test.YtbkekdbabkncfaaGreatVPm

namespace Go.Proofs.YtbkekdbabkncfaaGreat
open Go.RowKit Go.Maps
set_option maxRecDepth 100000 in
set_option maxHeartbeats 8000000 in
theorem sumApart_any (columns : Int) (l : List SubD) (A : Option Addr) (c : Nat) (wh : List Whe) (col clip step : Int) (W : Option Addr) (wk : Nat) (k : Int) (w : World) (h : SubsAt w w.heap.size A l) (hl : l.length ≤ maxLen) (_hlc : l.length ≤ c) (hm : ∀ x ∈ l, x.v.vals.length ≤ maxLen) (hq : WhesAt w w.heap.size W wh) (hwl : wh.length ≤ maxLen) (hk : 0 ≤ k ∧ k ≤ 255) :
    Calls Tryz.prog 7 #[.int .i64 columns, .slice A l.length c, .agg #[.slice W wh.length wk, .int .i64 col, .int .i64 clip, .int .i64 step], .int .u8 k] w fun e w' => e = .returned (.bool true) ∧ Below w.heap.size w w' := by
  have b1 := (Below.refl w.heap.size w).alloc (Nat.le_refl _) (.cells #[.slice W wh.length wk, .int .i64 col, .int .i64 clip, .int .i64 step] 25)
  have k1 := Blk.new w #[.slice W wh.length wk, .int .i64 col, .int .i64 clip, .int .i64 step] 25
  have HAl := Lib.hid (fun W' => alive_any W')
  have HAs := Lib.hid (fun (W' : World) (hb : Below w.heap.size w W') => asks_any columns l A c wh col clip step W wk W' (h.later hb) hm (hq.lat hb) hwl)
  cases hao : askOk columns l ⟨⟨wh, col, clip, step⟩, W, wk⟩ with
  | false =>
    rw [hao] at HAs
    go_enter Tryz.func7, Tryz.ntmps7
    go_wp2_with (first
      | (go_at_call 12; (with_reducible refine (HAl.out _).mono ?_); rintro e w1 ⟨rfl, h1⟩; have b2 := b1.trans (h1.mono b1.size); have k2 := k1.below h1 k1.lt; have k2c := k2.cell)
      | (go_at_call 31; (with_reducible refine (HAs.out _ b2).mono ?_); rintro e w2 ⟨rfl, h2⟩; have b3 := b2.trans (h2.mono b2.size)))
    go_ret
    exact ⟨rfl, b3⟩
  | true =>
    rw [hao] at HAs
    unfold askOk at hao
    simp only [Bool.and_eq_true, Bool.not_eq_true'] at hao
    obtain ⟨hgr, htb, hqb⟩ := hao
    obtain ⟨hl24, _, hv10, hw10⟩ := grt_parts hgr
    by_cases hn0 : l.length = 0
    · have hz : ((l.length : Int) == 0) = true := by rw [hn0]; rfl
      clear h hm hq hgr htb hqb hv10 hw10 hn0
      go_enter Tryz.func7, Tryz.ntmps7
      go_wp2_with (first
        | (go_at_call 12; (with_reducible refine (HAl.out _).mono ?_); rintro e w1 ⟨rfl, h1⟩; have b2 := b1.trans (h1.mono b1.size); have k2 := k1.below h1 k1.lt; have k2c := k2.cell)
        | (go_at_call 31; (with_reducible refine (HAs.out _ b2).mono ?_); rintro e w2 ⟨rfl, h2⟩; have b3 := b2.trans (h2.mono b2.size)))
      go_ret
      exact ⟨rfl, b3⟩
    · have hne : ((l.length : Int) == 0) = false := by rw [beq_eq_false_iff_ne]; omega
      have hnI : ¬ ((l.length : Int) = 0) := by omega
      obtain ⟨b, off, rfl, hb, c00, c01, _⟩ := subs_at h (show 0 < l.length by omega)
      obtain ⟨kn, hkn⟩ : ∃ kn : Nat, k.tmod (l.length : Int) = kn := ⟨(k.tmod (l.length : Int)).toNat, (Int.toNat_of_nonneg (Int.tmod_nonneg (l.length : Int) hk.1)).symm⟩
      have hkl : kn < l.length := by
        have := Int.tmod_lt_of_pos k (show (0 : Int) < l.length by omega)
        rw [hkn] at this
        omega
      have hcv : IntKind.i64.wrap k = k := IntWalk.i64_in _ (by omega)
      clear c00 c01
      obtain ⟨i0, hi0, hz0, hz1, hz2⟩ := info_parts subInfo
      go_enter Tryz.func7, Tryz.ntmps7
      go_upto_region 7 with (first
        | (go_at_call 12; (with_reducible refine (HAl.out _).mono ?_); rintro e w1 ⟨rfl, h1⟩; have b2 := b1.trans (h1.mono b1.size); have k2 := k1.below h1 k1.lt; have k2c := k2.cell)
        | (go_at_call 31; (with_reducible refine (HAs.out _ b2).mono ?_); rintro e x3 ⟨rfl, h2⟩; have b3 := b2.trans (h2.mono b2.size); have k3 := k2.below h2 k2.lt))
      have HX := Lib.hid b3
      have KX := Lib.hid k3
      have hst := (que_parts hqb).2.1
      have hclip : 1 ≤ clip ∧ clip ≤ 1000000 := by rcases (que_parts hqb).2.2.2 with h | h <;> (dsimp only at h; omega)
      dsimp only at hst
      have hcol := (ask_parts htb).1
      have HVL : Hid (∀ i, (h : i < l.length) → (l[i].v.vals.length : Int) = columns) := Lib.hid (fun i h => (sub_parts ((ask_parts htb).2.2.1 _ (List.mem_map_of_mem (List.getElem_mem h)))).2.1)
      have HQP := Lib.hid (que_parts hqb)
      have hw10' : wh.length ≤ 10 := hw10 0 (by simp)
      have HH := Lib.hid h
      have HQq := Lib.hid hq
      have HI0 : Hid (x3.ownsRow x3.heap.size 56 2 (.slice none 0 0) 0 ((aprL l ⟨wh, col, clip, step⟩ kn 0).flatMap subC) ∧ 0 = (aprL l ⟨wh, col, clip, step⟩ kn 0).length ∧ Below x3.heap.size x3 x3) := Lib.hid ⟨World.ownsRow_nil _ _ _ _, rfl, Below.refl _ _⟩
      have HTb := Lib.hid htb
      have HQb := Lib.hid hqb
      have HM := Lib.hid hm
      clear b3 k3 HAs hkn hcv hv10 hw10 b1 k1 h hq hm k2c k2 h1 h2 b2 hqb htb
      go_wp2_with fail
      go_loopw [11, 45] (fun ss ii wr => ∃ (i m : Nat) (A2 : Option Addr) (c2 : Nat), i ≤ l.length ∧ ss = .slice A2 m c2 ∧ ii = .int .i64 i ∧ Hid (wr.ownsRow x3.heap.size 56 2 (.slice A2 m c2) m ((aprL l ⟨wh, col, clip, step⟩ kn i).flatMap subC) ∧ m = (aprL l ⟨wh, col, clip, step⟩ kn i).length ∧ Below x3.heap.size x3 wr)) (fun _ ii _ => l.length - (vInt ii).toNat)
      case atStart => exact ⟨0, 0, none, 0, Nat.zero_le _, rfl, rfl, HI0⟩
      case round =>
        obtain ⟨i, m, A2, c2, hi9, rfl, rfl, hR⟩ := hrel
        obtain ⟨hO, hN, hB⟩ := hR.out
        have bw := HX.out.trans (hB.mono HX.out.size)
        have kq := KX.out.below hB KX.out.lt
        by_cases hlt : i < l.length
        · have hil : (i : Int) < (l.length : Int) := by omega
          obtain ⟨p, hp⟩ : ∃ p, p = (i + kn) % l.length := ⟨_, rfl⟩
          have hpl : p < l.length := by rw [hp]; exact Nat.mod_lt _ (by omega)
          have hwa : IntKind.i64.wrap ((i : Int) + (kn : Int)) = (i : Int) + (kn : Int) := IntWalk.i64_in _ (by omega)
          have hrm : ((i : Int) + (kn : Int)).tmod (l.length : Int) = (p : Int) := by rw [hp]; rw [Int.tmod_eq_emod_of_nonneg (by omega)]; push_cast; rfl
          have hpI : (p : Int) < (l.length : Int) := by omega
          obtain ⟨b', off', hA', hbw, c0w, c1w, hv⟩ := subs_at HH.out hpl
          simp only [Option.some.injEq, Addr.mk.injEq, and_true] at hA'
          obtain ⟨rfl, rfl⟩ := hA'
          have c0 := (bw.cell (p := ⟨b, off + p * 2, none⟩) hbw).trans c0w
          have c1 := (bw.cell (p := ⟨b, off + p * 2 + 1, none⟩) hbw).trans c1w
          have hsu := apr_succ l ⟨wh, col, clip, step⟩ kn i
          rw [← hp, getD_lt l _ hpl] at hsu
          clear hp
          have hvl := HVL.out p hpl
          have hcc : ∀ j, (h : j < wh.length) → ∃ k : Nat, wh[j].col = k ∧ k < l[p].v.vals.length := fun j h => by
            have := HQP.out.2.2.1 j h
            exact ⟨wh[j].col.toNat, by omega, by omega⟩
          have HA : Hid (∀ W', Below w.heap.size w W' → Calls Tryz.prog 32 #[.agg #[.int .i64 l[p].v.id, .slice l[p].V l[p].v.vals.length l[p].c], .agg #[.slice W wh.length wk, .int .i64 col, .int .i64 clip, .int .i64 step]] W' fun e w' => e = .returned (.bool (askB l[p].v ⟨wh, col, clip, step⟩)) ∧ Below W'.heap.size W' w') := Lib.hid (fun W' hb' => asked10_any l[p].v.id l[p].v.vals l[p].V l[p].c wh col clip step W wk W' (hv.later hb') (HQq.out.lat hb') hcc (by omega))
          have hml : m ≤ 24 := by have := apr_len l ⟨wh, col, clip, step⟩ kn i; omega
          clear c0w c1w hcc hv hvl
          generalize hyy : l[p] = y at *
          clear hyy
          have kb := Blk.new wr #[.int .i64 y.v.id, .slice y.V y.v.vals.length y.c] 56
          have bA := (Below.refl wr.heap.size wr).alloc (Nat.le_refl _) (.cells #[.int .i64 y.v.id, .slice y.V y.v.vals.length y.c] 56)
          have kqA := kq.below bA kq.lt
          have bwA := bw.trans (bA.mono bw.size)
          have HO := Lib.hid (own_below hO bA)
          have HN := Lib.hid hN
          cases hask : askB y.v ⟨wh, col, clip, step⟩ with
          | false =>
            rw [hask] at HA hsu
            rw [if_neg (by decide), List.append_nil] at hsu
            have HS := Lib.hid hsu
            clear hsu hask hO hN
            go_upto_region 12 with fail
            generalize hWA : wr.alloc (.cells #[.int .i64 y.v.id, .slice y.V y.v.vals.length y.c] 56) = WA at *
            have hWs : wr.heap.size ≤ WA.heap.size := by rw [← hWA]; simp
            clear hWA
            have kbc := kb.cell
            have kqc := kqA.cell
            go_wp2_with (go_at_call 32; (with_reducible refine (HA.out _ bwA).mono ?_); rintro e x5 ⟨rfl, y5⟩)
            go_roundw
            case rel => exact ⟨i + 1, m, A2, c2, by omega, rfl, by go_num, Lib.hid ⟨by rw [HS.out]; exact own_below HO.out y5, by rw [HS.out]; exact HN.out, hB.trans ((bA.trans (y5.mono hWs)).mono hB.size)⟩⟩
            case measure => simp [vInt]; omega
          | true =>
            rw [hask] at HA hsu
            rw [if_pos rfl] at hsu
            have HS := Lib.hid hsu
            clear hsu hask hO hN
            go_upto_region 12 with fail
            generalize hWA : wr.alloc (.cells #[.int .i64 y.v.id, .slice y.V y.v.vals.length y.c] 56) = WA at *
            have hWs : wr.heap.size ≤ WA.heap.size := by rw [← hWA]; simp
            clear hWA
            have kbc := kb.cell
            have kqc := kqA.cell
            go_upto_region 13 with (go_at_call 32; (with_reducible refine (HA.out _ bwA).mono ?_); rintro e x5 ⟨rfl, y5⟩)
            have b5 := hB.trans ((bA.trans (y5.mono hWs)).mono hB.size)
            have kb5 := (kb.below y5 kb.lt).cell
            have HO5 := Lib.hid ((own_below HO.out y5).alloc (.cells #[.int .i64 y.v.id, .slice y.V y.v.vals.length y.c] 56))
            have kn5 := Blk.new x5 #[.int .i64 y.v.id, .slice y.V y.v.vals.length y.c] 56
            have HB5 := Lib.hid b5
            have hs5 := b5.size
            go_wp2_with (at_builtin; refine wpList_append_own_at _ rfl _ _ 30 rfl x3.heap.size 56 i0 _ 2 32 Tryz.underlying30 hi0 hz0 hz1 hz2 rfl (by decide) _ _ _ rfl HO5.out ⟨x5.heap.size, 0, none⟩ 1 1 (subC y) rfl rfl (fun j u hj => by rw [WideShapes.add_plain, Nat.zero_add]; exact (kn5.cell j).trans (by simpa [subC] using hj)) (subC_one _) (by unfold maxLen; omega) (by omega) (by simp; omega) ?_; intro v' w6 hown6 hg6 _ hat6; obtain ⟨A3, c3, rfl⟩ := own_slice hown6; have hB6 := (HB5.out.alloc HB5.out.size (.cells #[.int .i64 y.v.id, .slice y.V y.v.vals.length y.c] 56)).grown hg6 (by simp; omega) (fun k e => (HO5.out.lt k e).1))
            go_roundw
            case rel => exact ⟨i + 1, m + 1, A3, c3, by omega, rfl, by go_num, Lib.hid ⟨by rw [HS.out, List.flatMap_append]; simpa using hown6, by rw [HS.out, List.length_append, ← HN.out]; rfl, hB6⟩⟩
            case measure => simp [vInt]; omega
        · have hil : ¬ (i : Int) < (l.length : Int) := by omega
          obtain rfl : i = l.length := by omega
          have hq10 := HQb.out
          have ht10 := HTb.out
          have htA := apr_tab (q := ⟨wh, col, clip, step⟩) hkl ht10
          have hgood : ∀ x : List SubD, tabB columns (x.map SubD.v) = true → askE columns (x.map SubD.v) ⟨wh, col, clip, step⟩ = 0 ∧ sumP columns (x.map SubD.v) ⟨wh, col, clip, step⟩ = nearN (sumN (x.map SubD.v) ⟨wh, col, clip, step⟩) step ∧ sumB columns (x.map SubD.v) ⟨wh, col, clip, step⟩ = leastN clip step ∧ metV columns (x.map SubD.v) ⟨wh, col, clip, step⟩ = metL (x.map SubD.v) ⟨wh, col, clip, step⟩ := fun x hx => by
            have hE : askE columns (x.map SubD.v) ⟨wh, col, clip, step⟩ = 0 := by unfold askE; rw [if_pos hx, if_pos hq10]
            exact ⟨hE, by unfold sumP; rw [if_pos hE], by unfold sumB; rw [if_pos hE], by unfold metV; rw [if_pos hE]⟩
          obtain ⟨e1, e2, e3, e4⟩ := hgood l ht10
          obtain ⟨f1, f2, f3, f4⟩ := hgood _ htA
          have hml := apr_metlen (q := ⟨wh, col, clip, step⟩) hkl ht10
          have hSm : SubsAt wr wr.heap.size A2 (aprL l ⟨wh, col, clip, step⟩ kn l.length) := ⟨Flat.of_own (c := c2) subC_len (by decide) (by rw [← hN]; exact hO), fun x hx => (HH.out.each x (apr_mem hkl hx).1).later bw⟩
          have hmm : ∀ x ∈ aprL l ⟨wh, col, clip, step⟩ kn l.length, x.v.vals.length ≤ maxLen := fun x hx => HM.out x (apr_mem hkl hx).1
          have hal := apr_len l ⟨wh, col, clip, step⟩ kn l.length
          have HSl := Lib.hid (fun W' (hb : Below wr.heap.size wr W') => sumP_any columns l (some ⟨b, off, none⟩) c wh col clip step W wk W' (HH.out.later (bw.trans (hb.mono bw.size))) hl HM.out (HQq.out.lat (bw.trans (hb.mono bw.size))) hwl)
          have HSs := Lib.hid (fun W' (hb : Below wr.heap.size wr W') => sumP_any columns (aprL l ⟨wh, col, clip, step⟩ kn l.length) A2 c2 wh col clip step W wk W' (hSm.later hb) (by omega) hmm (HQq.out.lat (bw.trans (hb.mono bw.size))) hwl)
          have HMl := Lib.hid (fun W' (hb : Below wr.heap.size wr W') => meetsP_any columns l (some ⟨b, off, none⟩) c wh col clip step W wk W' (HH.out.later (bw.trans (hb.mono bw.size))) hl HM.out (HQq.out.lat (bw.trans (hb.mono bw.size))) hwl)
          have HMs := Lib.hid (fun W' (hb : Below wr.heap.size wr W') => meetsP_any columns (aprL l ⟨wh, col, clip, step⟩ kn l.length) A2 c2 wh col clip step W wk W' (hSm.later hb) (by omega) hmm (HQq.out.lat (bw.trans (hb.mono bw.size))) hwl)
          rw [e1, e2, e3] at HSl
          rw [f1, f2, f3, apr_sum hkl, ← hN] at HSs
          rw [e1, e4] at HMl
          rw [f1, f4, apr_met hkl, ← hN] at HMs
          rw [← hN] at hml
          have hm24 : m ≤ 24 := by omega
          clear hgood e1 e2 e3 e4 f1 f2 f3 f4 hSm hmm hal hO hN htA ht10 hq10 hst hclip
          generalize metL (l.map SubD.v) ⟨wh, col, clip, step⟩ = ml at *
          generalize nearN (sumN (l.map SubD.v) ⟨wh, col, clip, step⟩) step = na at *
          generalize leastN clip step = bl at *
          have HIn := Lib.hid (fun Aa Ab ca cb (W' : World) hi1 hi2 => sameInts_any ml Aa Ab ca cb W' hi1 hi2 (by omega))
          have kqc := kq.cell
          have HKq := Lib.hid kq
          rw [hml] at HIn
          unfold MeetsPost at HMl HMs
          rw [hml] at HMl HMs
          go_upto_region 19 with (first
            | (go_at_call 14; first
              | ((with_reducible refine (HSl.out _ (Below.refl _ _)).mono ?_); rintro e z1 ⟨rfl, y1⟩; have kz1 := (HKq.out.below y1 HKq.out.lt).cell)
              | ((with_reducible refine (HSs.out _ y1).mono ?_); rintro e z2 ⟨rfl, y2'⟩; have y2 := y1.trans (y2'.mono y1.size); have kz2 := (HKq.out.below y2 HKq.out.lt).cell))
            | (go_at_call 21; first
              | ((with_reducible refine (HMl.out _ y2).mono ?_); rintro e z3 ⟨A3, c3, rfl, hi3, y3'⟩; have y3 := y2.trans (y3'.mono y2.size); have kz3 := (HKq.out.below y3 HKq.out.lt).cell)
              | ((with_reducible refine (HMs.out _ y3).mono ?_); rintro e z4 ⟨A4, c4, rfl, hi4, y4'⟩; have y4 := y3.trans (y4'.mono y3.size))))
          have I3 := Lib.hid (hi3.later y4')
          have I4 := Lib.hid hi4
          clear hi3 hi4
          go_wp2_with (go_at_call 18; (with_reducible refine (HIn.out A3 A4 c3 c4 _ I3.out I4.out).mono ?_); rintro e z5 ⟨rfl, y5⟩)
          go_ret
          exact ⟨ret_bool (by simp), bw.trans ((y4.trans (y5.mono y4.size)).mono bw.size)⟩
end Go.Proofs.YtbkekdbabkncfaaGreat
