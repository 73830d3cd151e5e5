/- Corrections, by the program. Written by gencop.py. -/
import Derived.Test.YtliijiflbfgfaaaDoorACoQ

namespace Go.Proofs.YtliijiflbfgfaaaDoor
open Go.RowKit Go.Maps

set_option maxRecDepth 100000 in
set_option maxHeartbeats 8000000 in
theorem correct_any (B m0 m1 m2 m3 n : Nat) (K : List Rep) (w : World) (hm : M4 B m0 m1 m2 m3) (hKN : KN w m0 m1 m2 m3 n (repF (leftL K)) (wdMV K) noM (wkMV K)) (hK : KnOk K) (hwf : KnWf K) (hN : NeedsAt w) (hB0 : 0 < B) (hB : B ≤ w.heap.size) (hn : n ≤ 3000) :
    Calls Tryd.prog 28 #[knowV m0 m1 m2 m3] w fun e w' => e = .returned (.tuple #[]) ∧ KN w' m0 m1 m2 m3 (n + 5000) (repF (leftL K)) (wdMV K) (coMV K) (wkA K) ∧ Step B w w' := by
  have HM := Lib.hid hm
  have HK := Lib.hid hK
  have HWF := Lib.hid hwf
  have kb := Blk.new w #[.map (some m0), .map (some m1), .map (some m2), .map (some m3)] 42
  have hKN1 := hKN.alloc (.cells #[.map (some m0), .map (some m1), .map (some m2), .map (some m3)] 42)
  have st1 := Step.alloc w hB (.cells #[.map (some m0), .map (some m1), .map (some m2), .map (some m3)] 42)
  have HO := Lib.hid (ofKind_any m0 n (leftL K) 8 _ (by rw [repG_eq]; exact hKN1.r0) hK.left.nodup hK.left.len)
  obtain ⟨hm0l, hm1l, hm2l, hm3l⟩ : m0 < w.heap.size ∧ m1 < w.heap.size ∧ m2 < w.heap.size ∧ m3 < w.heap.size := ⟨hKN.r0.lt, hKN.r1.lt, hKN.r2.lt, hKN.r3.lt⟩
  have kc0 := kb.cell
  have HKN1 := Lib.hid hKN1
  have Hst1 := Lib.hid st1
  have Hkb := Lib.hid kb
  have HN := Lib.hid hN
  clear hm hKN hK hwf kb hKN1 st1 hN
  generalize hkbe : w.heap.size = b0 at *
  go_enter Tryd.func28, Tryd.ntmps28
  go_wp2_with (go_at_call 39; (with_reducible refine (HO.out).mono ?_); rintro e w2 ⟨A', c', ws, rfl, hp, hs, hR, h2⟩)
  have hl2 : ws.length ≤ 1000 := Nat.le_trans (Nat.le_of_eq hp.length_eq) (Nat.le_trans (List.length_filter_le _ _) HK.out.left.len)
  have HI0 : Hid (KN w2 m0 m1 m2 m3 (n + 0) (repF (leftL K)) (wdMV K) (coM K (ws.take 0)) (wkMV K) ∧ Blk w2 b0 #[.map (some m0), .map (some m1), .map (some m2), .map (some m3)] 42 ∧ Reps w2 w2.heap.size A' ws ∧ Step B w w2) := by
    rw [List.take_zero, coM_nil]
    exact Lib.hid ⟨HKN1.out.later h2, (Hkb.out).step (Step.of h2 (Nat.zero_le _)), hR, Hst1.out.trans (Step.of h2 (by have := Hst1.out.size; omega))⟩
  have Hp := Lib.hid hp
  have Hs := Lib.hid hs
  clear hp hs hR h2 kc0 HKN1 Hst1 Hkb HO
  go_loopw [12] (fun ii wr => ∃ i : Nat, i ≤ ws.length ∧ ii = .int .i64 i ∧ Hid (KN wr m0 m1 m2 m3 (n + i) (repF (leftL K)) (wdMV K) (coM K (ws.take i)) (wkMV K) ∧ Blk wr b0 #[.map (some m0), .map (some m1), .map (some m2), .map (some m3)] 42 ∧ Reps wr wr.heap.size A' ws ∧ Step B w wr)) (fun ii _ => ws.length - (vInt ii).toNat)
  case atStart => exact ⟨0, Nat.zero_le _, rfl, HI0⟩
  case round =>
    obtain ⟨i, hi, rfl, hT⟩ := hrel
    clear HI0
    obtain ⟨hKN, hkb, hR, hSt⟩ := hT.out
    have kc := hkb.cell
    by_cases hlt : i < ws.length
    · have hil : (i : Int) < (ws.length : Int) := by omega
      obtain ⟨b, off, rfl, hb, C⟩ := hR.eight hlt
      have hmem := List.mem_filter.1 (Hp.out.mem_iff.1 (List.getElem_mem hlt))
      have HTk := Lib.hid (List.take_succ_eq_append_getElem hlt)
      generalize ws[i] = r at *
      obtain ⟨hrL, hr8⟩ := hmem
      obtain ⟨hrK, hrw⟩ := List.mem_filter.1 hrL
      have h8 : r.kind = 8 := by simpa [kindK] using hr8
      have hrw2 : wdV K r.id < 0 := by simpa using hrw
      obtain ⟨c0, c1, c2, c3, c4, c5, c6, c7⟩ := C
      have k3 := Blk.new wr #[.int .i64 r.id, .int .i64 r.src, .int .i64 r.acc, .int .i64 r.made, .int .i64 r.about, .int .u8 r.kind, .int .i64 r.cents, .int .i64 r.of_] 47
      have hb1 := (Below.refl wr.heap.size wr).alloc (Nat.le_refl _) (.cells #[.int .i64 r.id, .int .i64 r.src, .int .i64 r.acc, .int .i64 r.made, .int .i64 r.about, .int .u8 r.kind, .int .i64 r.cents, .int .i64 r.of_] 47)
      have hKN1 := hKN.alloc (.cells #[.int .i64 r.id, .int .i64 r.src, .int .i64 r.acc, .int .i64 r.made, .int .i64 r.about, .int .u8 r.kind, .int .i64 r.cents, .int .i64 r.of_] 47)
      have hkb1 := hkb.alloc (.cells #[.int .i64 r.id, .int .i64 r.src, .int .i64 r.acc, .int .i64 r.made, .int .i64 r.about, .int .u8 r.kind, .int .i64 r.cents, .int .i64 r.of_] 47)
      have hM0 : MapFn (wr.alloc (.cells #[.int .i64 r.id, .int .i64 r.src, .int .i64 r.acc, .int .i64 r.made, .int .i64 r.about, .int .u8 r.kind, .int .i64 r.cents, .int .i64 r.of_] 47)) Tryd.prog 3 m0 (n + i) (repG (leftL K)) := by rw [repG_eq]; exact hKN1.r0
      have hwo := HWF.out.of_ r hrK
      have hSB : B ≤ wr.heap.size := by have := hSt.size; omega
      have hkblt : b0 < wr.heap.size := hkb.lt
      clear hrL hr8 hrw
      cases ha : atR (leftL K) r.of_ with
      | none =>
        have HC := Lib.hid (named_none m0 _ (leftL K) r _ hM0 hwo ha)
        have Hco : Hid (coM K (ws.take (i + 1)) = coM K (ws.take i)) := Lib.hid (by rw [HTk.out, coM_skip (fun s hs => by rw [ha] at hs; cases hs)])
        clear h8 hrw2 ha
        have HKN2 := Lib.hid hKN1
        have Hkb2 := Lib.hid hkb1
        have HR2 := Lib.hid hR
        have Hk3 := Lib.hid k3
        have Hst := Lib.hid (hSt.trans (Step.of hb1 hSB))
        have HNw := Lib.hid (HN.out.step (hSt.trans (Step.of hb1 hSB)) hB0)
        clear hT hKN hKN1 hkb hkb1 hR hSt hM0 k3
        go_wp2_with (go_at_call 40; (with_reducible refine (HC.out).mono ?_); rintro e w3 ⟨rfl, h3⟩; have kb3 := (Hkb2.out.below h3 Hkb2.out.lt).cell; have k33 := (Hk3.out.below h3 Hk3.out.lt).cell; have h3k := Hk3.out.lt; have h3z := h3.size)
        have h4 := h3.alloc h3.size (.cells #[.int .i64 0, .int .i64 0, .int .i64 0, .int .i64 0, .int .i64 0, .int .u8 0, .int .i64 0, .int .i64 0] 47)
        have s4 := Step.of h4 (Nat.le_trans hSB hb1.size)
        go_roundw
        case rel => exact ⟨i + 1, by omega, by go_num, Lib.hid ⟨by rw [Hco.out]; exact (HKN2.out.later h4).mono (by omega), Hkb2.out.step s4, HR2.out.step ((Step.of hb1 hSB).trans s4), Hst.out.trans s4⟩⟩
        case measure => simp [vInt]; omega
      | some s =>
        have HC := Lib.hid (named_some m0 _ (leftL K) r s _ hM0 hwo ha)
        have hcb := corB_of HK.out.nodup h8 hrw2 ha
        cases hd : (decide (s.src = r.src) && decide (s.acc = r.acc)) with
        | false =>
          rw [hd] at HC
          rw [hd, Bool.false_and] at hcb
          have Hco : Hid (coM K (ws.take (i + 1)) = coM K (ws.take i)) := Lib.hid (by rw [HTk.out, coM_skip (fun s hs _ => hcb)])
          clear hcb h8 hrw2 ha hd
          have HKN2 := Lib.hid hKN1
          have Hkb2 := Lib.hid hkb1
          have HR2 := Lib.hid hR
          have Hk3 := Lib.hid k3
          have Hst := Lib.hid (hSt.trans (Step.of hb1 hSB))
          have HNw := Lib.hid (HN.out.step (hSt.trans (Step.of hb1 hSB)) hB0)
          clear hT hKN hKN1 hkb hkb1 hR hSt hM0 k3
          go_wp2_with (go_at_call 40; (with_reducible refine (HC.out).mono ?_); rintro e w3 ⟨rfl, h3⟩; have kb3 := (Hkb2.out.below h3 Hkb2.out.lt).cell; have k33 := (Hk3.out.below h3 Hk3.out.lt).cell; have h3k := Hk3.out.lt; have h3z := h3.size)
          have h4 := h3.alloc h3.size (.cells #[.int .i64 s.id, .int .i64 s.src, .int .i64 s.acc, .int .i64 s.made, .int .i64 s.about, .int .u8 s.kind, .int .i64 s.cents, .int .i64 s.of_] 47)
          have s4 := Step.of h4 (Nat.le_trans hSB hb1.size)
          go_roundw
          case rel => exact ⟨i + 1, by omega, by go_num, Lib.hid ⟨by rw [Hco.out]; exact (HKN2.out.later h4).mono (by omega), Hkb2.out.step s4, HR2.out.step ((Step.of hb1 hSB).trans s4), Hst.out.trans s4⟩⟩
          case measure => simp [vInt]; omega
        | true =>
          rw [hd] at HC
          rw [hd, Bool.true_and] at hcb
          obtain ⟨hsK, hsid⟩ := atR_some ha
          have hsk := HK.out.left.kind s hsK
          by_cases h7 : s.kind ≤ 7
          · have e7 : decide (s.kind ≤ 7) = true := decide_eq_true h7
            have hcn : inN r.cents 0 (needCents s.kind) = centsB s.kind r.cents := by unfold centsB needCents; rw [if_neg (by omega)]
            cases hcv : centsB s.kind r.cents with
            | false =>
              rw [hcv] at hcb hcn
              have Hco : Hid (coM K (ws.take (i + 1)) = coM K (ws.take i)) := Lib.hid (by rw [HTk.out, coM_skip (fun s hs _ => hcb)])
              have Hcn := Lib.hid hcn
              clear hcb h8 hrw2 ha hd hsid hcv hcn
              have HKN2 := Lib.hid hKN1
              have Hkb2 := Lib.hid hkb1
              have HR2 := Lib.hid hR
              have Hk3 := Lib.hid k3
              have Hst := Lib.hid (hSt.trans (Step.of hb1 hSB))
              have HNw := Lib.hid (HN.out.step (hSt.trans (Step.of hb1 hSB)) hB0)
              clear hT hKN hKN1 hkb hkb1 hR hSt hM0 k3
              go_upto_region 5 with (go_at_call 40; (with_reducible refine (HC.out).mono ?_); rintro e w3 ⟨rfl, h3⟩; have kb3 := (Hkb2.out.below h3 Hkb2.out.lt).cell; have k33 := (Hk3.out.below h3 Hk3.out.lt).cell; have h3k := Hk3.out.lt; have h3z := h3.size)
              have h4 := h3.alloc h3.size (.cells #[.int .i64 s.id, .int .i64 s.src, .int .i64 s.acc, .int .i64 s.made, .int .i64 s.about, .int .u8 s.kind, .int .i64 s.cents, .int .i64 s.of_] 47)
              have s4 := Step.of h4 (Nat.le_trans hSB hb1.size)
              have k4 := Blk.new w3 #[.int .i64 s.id, .int .i64 s.src, .int .i64 s.acc, .int .i64 s.made, .int .i64 s.about, .int .u8 s.kind, .int .i64 s.cents, .int .i64 s.of_] 47
              have hKV := HKN2.out.later h4
              have bkb := Hkb2.out.step s4
              have bk3 := Hk3.out.step s4
              have HRV := Lib.hid (HR2.out.step ((Step.of hb1 hSB).trans s4))
              have HstV := Lib.hid (Hst.out.trans s4)
              have HNV := Lib.hid (HNw.out.step s4 hB0)
              have h34 : wr.heap.size < w3.heap.size := by have := h3.size; simp at this; omega
              have hb03 : b0 < w3.heap.size := by omega
              clear h3 h4 s4 HKN2 Hkb2 Hk3 HR2 Hst HC kc kb3 k33 c0 c1 c2 c3 c4 c5 c6 c7 hb hb1 HNw h3z h3k
              generalize hV4 : w3.heap.size = b4 at *
              generalize w3.alloc (.cells #[.int .i64 s.id, .int .i64 s.src, .int .i64 s.acc, .int .i64 s.made, .int .i64 s.about, .int .u8 s.kind, .int .i64 s.cents, .int .i64 s.of_] 47) = V at *
              clear hV4 w3
              generalize hV3 : wr.heap.size = b3 at *
              clear hV3 wr
              have k0c := bkb.cell
              have k3c := bk3.cell
              have k4c := k4.cell
              have HKV := Lib.hid hKV
              have Hbs := Lib.hid (And.intro bkb (And.intro bk3 k4))
              have HF := Lib.hid (isFact_any s V)
              clear hKV bkb bk3 k4
              go_wp2_with (first
                | (go_at_call 30; (with_reducible refine (HF.out).mono ?_); rintro e w5 ⟨rfl, h5⟩; have k0d := (Hbs.out.1.below h5 Hbs.out.1.lt).cell; have k3d := (Hbs.out.2.1.below h5 Hbs.out.2.1.lt).cell; have k4d := (Hbs.out.2.2.below h5 Hbs.out.2.2.lt).cell; have HC2 := Lib.hid (Hcn.out ▸ centsValid_any s.kind r.cents w5 (HNV.out.later h5) ⟨by omega, by omega⟩))
                | (go_at_call 37; (with_reducible refine (HC2.out).mono ?_); rintro e w6 ⟨rfl, rfl⟩))
              have s5 := Step.of h5 (show B ≤ V.heap.size from by have := HstV.out.size; omega)
              go_roundw
              case rel => exact ⟨i + 1, by omega, by go_num, Lib.hid ⟨by rw [Hco.out]; exact (HKV.out.later h5).mono (by omega), Hbs.out.1.step s5, HRV.out.step s5, HstV.out.trans s5⟩⟩
              case measure => simp [vInt]; omega
            | true =>
              rw [hcv] at hcb hcn
              have Hcp := Lib.hid (coM_put (cs := ws.take i) ha h7 hcb)
              have Hsid := Lib.hid hsid
              have Hcn := Lib.hid hcn
              clear hcb h8 hrw2 ha hd hsid hcv hcn
              have HKN2 := Lib.hid hKN1
              have Hkb2 := Lib.hid hkb1
              have HR2 := Lib.hid hR
              have Hk3 := Lib.hid k3
              have Hst := Lib.hid (hSt.trans (Step.of hb1 hSB))
              have HNw := Lib.hid (HN.out.step (hSt.trans (Step.of hb1 hSB)) hB0)
              clear hT hKN hKN1 hkb hkb1 hR hSt hM0 k3
              go_upto_region 5 with (go_at_call 40; (with_reducible refine (HC.out).mono ?_); rintro e w3 ⟨rfl, h3⟩; have kb3 := (Hkb2.out.below h3 Hkb2.out.lt).cell; have k33 := (Hk3.out.below h3 Hk3.out.lt).cell; have h3k := Hk3.out.lt; have h3z := h3.size)
              have h4 := h3.alloc h3.size (.cells #[.int .i64 s.id, .int .i64 s.src, .int .i64 s.acc, .int .i64 s.made, .int .i64 s.about, .int .u8 s.kind, .int .i64 s.cents, .int .i64 s.of_] 47)
              have s4 := Step.of h4 (Nat.le_trans hSB hb1.size)
              have k4 := Blk.new w3 #[.int .i64 s.id, .int .i64 s.src, .int .i64 s.acc, .int .i64 s.made, .int .i64 s.about, .int .u8 s.kind, .int .i64 s.cents, .int .i64 s.of_] 47
              have hKV := HKN2.out.later h4
              have bkb := Hkb2.out.step s4
              have bk3 := Hk3.out.step s4
              have HRV := Lib.hid (HR2.out.step ((Step.of hb1 hSB).trans s4))
              have HstV := Lib.hid (Hst.out.trans s4)
              have HNV := Lib.hid (HNw.out.step s4 hB0)
              have h34 : wr.heap.size < w3.heap.size := by have := h3.size; simp at this; omega
              have hb03 : b0 < w3.heap.size := by omega
              clear h3 h4 s4 HKN2 Hkb2 Hk3 HR2 Hst HC kc kb3 k33 c0 c1 c2 c3 c4 c5 c6 c7 hb hb1 HNw h3z h3k
              generalize hV4 : w3.heap.size = b4 at *
              generalize w3.alloc (.cells #[.int .i64 s.id, .int .i64 s.src, .int .i64 s.acc, .int .i64 s.made, .int .i64 s.about, .int .u8 s.kind, .int .i64 s.cents, .int .i64 s.of_] 47) = V at *
              clear hV4 w3
              generalize hV3 : wr.heap.size = b3 at *
              clear hV3 wr
              have k0c := bkb.cell
              have k3c := bk3.cell
              have k4c := k4.cell
              have HKV := Lib.hid hKV
              have Hbs := Lib.hid (And.intro bkb (And.intro bk3 k4))
              have HF := Lib.hid (isFact_any s V)
              clear hKV bkb bk3 k4
              go_upto_region 6 with (first
                | (go_at_call 30; (with_reducible refine (HF.out).mono ?_); rintro e w5 ⟨rfl, h5⟩; have k0d := (Hbs.out.1.below h5 Hbs.out.1.lt).cell; have k3d := (Hbs.out.2.1.below h5 Hbs.out.2.1.lt).cell; have k4d := (Hbs.out.2.2.below h5 Hbs.out.2.2.lt).cell; have HC2 := Lib.hid (Hcn.out ▸ centsValid_any s.kind r.cents w5 (HNV.out.later h5) ⟨by omega, by omega⟩))
                | (go_at_call 37; (with_reducible refine (HC2.out).mono ?_); rintro e w6 ⟨rfl, rfl⟩))
              have s5 := Step.of h5 (show B ≤ V.heap.size from by have := HstV.out.size; omega)
              have hK5 := HKV.out.later h5
              obtain ⟨V1, hrun3, hput3, hg3⟩ := hK5.r2.put (int_keyed Tryd.underlying3) Tryd.underlying36 (by unfold maxLen; omega) (keyOf_int_mk Tryd.underlying3 (show (Lit.int .i64 s.id).wf = true by rw [Hsid.out]; exact hwo)) (val := .agg #[.int .i64 r.id, .int .i64 r.src, .int .i64 r.acc, .int .i64 r.made, .int .i64 r.about, .int .u8 r.kind, .int .i64 r.cents, .int .i64 r.of_])
              rw [intG_put, Hsid.out, Hcp.out, ← HTk.out] at hput3
              have hK6 := hK5.put2 HM.out hg3 (by omega) hput3
              have s6 := s5.trans (KN.step_put (B := B) hK5.r2 hg3 (by have := HM.out; obtain ⟨_, _, _, _⟩ := this; omega))
              have HK6 := Lib.hid hK6
              have Hs6 := Lib.hid s6
              clear hK5 hput3 hg3 hK6 s5 s6
              go_wp2_with fail
              go_roundw
              case rel => exact ⟨i + 1, by omega, by go_num, Lib.hid ⟨HK6.out.mono (by omega), Hbs.out.1.step Hs6.out, HRV.out.step Hs6.out, HstV.out.trans Hs6.out⟩⟩
              case measure => simp [vInt]; omega
          · have e7 : decide (s.kind ≤ 7) = false := decide_eq_false h7
            have Hco : Hid (coM K (ws.take (i + 1)) = coM K (ws.take i)) := Lib.hid (by rw [HTk.out, coM_skip (fun q hq hq7 => by rw [ha] at hq; cases hq; exact absurd hq7 h7)])
            clear hcb h8 hrw2 ha hd hsid
            have HKN2 := Lib.hid hKN1
            have Hkb2 := Lib.hid hkb1
            have HR2 := Lib.hid hR
            have Hk3 := Lib.hid k3
            have Hst := Lib.hid (hSt.trans (Step.of hb1 hSB))
            have HNw := Lib.hid (HN.out.step (hSt.trans (Step.of hb1 hSB)) hB0)
            clear hT hKN hKN1 hkb hkb1 hR hSt hM0 k3
            go_upto_region 5 with (go_at_call 40; (with_reducible refine (HC.out).mono ?_); rintro e w3 ⟨rfl, h3⟩; have kb3 := (Hkb2.out.below h3 Hkb2.out.lt).cell; have k33 := (Hk3.out.below h3 Hk3.out.lt).cell; have h3k := Hk3.out.lt; have h3z := h3.size)
            have h4 := h3.alloc h3.size (.cells #[.int .i64 s.id, .int .i64 s.src, .int .i64 s.acc, .int .i64 s.made, .int .i64 s.about, .int .u8 s.kind, .int .i64 s.cents, .int .i64 s.of_] 47)
            have s4 := Step.of h4 (Nat.le_trans hSB hb1.size)
            have k4 := Blk.new w3 #[.int .i64 s.id, .int .i64 s.src, .int .i64 s.acc, .int .i64 s.made, .int .i64 s.about, .int .u8 s.kind, .int .i64 s.cents, .int .i64 s.of_] 47
            have hKV := HKN2.out.later h4
            have bkb := Hkb2.out.step s4
            have bk3 := Hk3.out.step s4
            have HRV := Lib.hid (HR2.out.step ((Step.of hb1 hSB).trans s4))
            have HstV := Lib.hid (Hst.out.trans s4)
            have HNV := Lib.hid (HNw.out.step s4 hB0)
            have h34 : wr.heap.size < w3.heap.size := by have := h3.size; simp at this; omega
            have hb03 : b0 < w3.heap.size := by omega
            clear h3 h4 s4 HKN2 Hkb2 Hk3 HR2 Hst HC kc kb3 k33 c0 c1 c2 c3 c4 c5 c6 c7 hb hb1 HNw h3z h3k
            generalize hV4 : w3.heap.size = b4 at *
            generalize w3.alloc (.cells #[.int .i64 s.id, .int .i64 s.src, .int .i64 s.acc, .int .i64 s.made, .int .i64 s.about, .int .u8 s.kind, .int .i64 s.cents, .int .i64 s.of_] 47) = V at *
            clear hV4 w3
            generalize hV3 : wr.heap.size = b3 at *
            clear hV3 wr
            have k0c := bkb.cell
            have k3c := bk3.cell
            have k4c := k4.cell
            have HKV := Lib.hid hKV
            have Hbs := Lib.hid (And.intro bkb (And.intro bk3 k4))
            have HF := Lib.hid (isFact_any s V)
            clear hKV bkb bk3 k4
            go_wp2_with (go_at_call 30; (with_reducible refine (HF.out).mono ?_); rintro e w5 ⟨rfl, h5⟩)
            have s5 := Step.of h5 (show B ≤ V.heap.size from by have := HstV.out.size; omega)
            go_roundw
            case rel => exact ⟨i + 1, by omega, by go_num, Lib.hid ⟨by rw [Hco.out]; exact (HKV.out.later h5).mono (by omega), Hbs.out.1.step s5, HRV.out.step s5, HstV.out.trans s5⟩⟩
            case measure => simp [vInt]; omega
    · have hil : ¬ (i : Int) < (ws.length : Int) := by omega
      have hall : ws.take i = ws := List.take_of_length_le (by omega)
      rw [hall, coM_end HK.out Hp.out Hs.out] at hKN
      obtain ⟨D, hownD, hatD⟩ := hKN.r2
      have HatD := Lib.hid hatD
      have HKN := Lib.hid hKN
      have Hkb := Lib.hid hkb
      have HSt := Lib.hid hSt
      have hbl := hkb.lt
      obtain ⟨wo, rfl⟩ : ∃ wo : World, wo = wr := ⟨_, rfl⟩
      clear hT hR hSt hKN hatD hkb hall
      go_wp2_with (at_range; refine wpList_range_own _ rfl _ 36 rfl 3 47 (int_keyed Tryd.underlying3) Tryd.underlying36 rawElem m2 (n + i) D rfl hownD ?_; intro w0 hrg0 hg0 hs0)
      have hsz := Maps.size D
      have HDn := Lib.hid (size_le hownD)
      have HI1 : Hid (w0.ranges Tryd.prog 3 rawElem m2 wo.heap.size (n + i) D (has D) (Maps.size D) ∧ KN w0 m0 m1 m2 m3 (n + i + (Maps.size D - Maps.size D)) (repF (leftL K)) (wdMV K) (coMV K) (wkC K (has D)) ∧ Blk w0 b0 #[.map (some m0), .map (some m1), .map (some m2), .map (some m3)] 42 ∧ Step B w w0) := Lib.hid ⟨hrg0, by rw [← wkC_start HatD.out]; exact (HKN.out.more hg0).mono (by omega), Hkb.out.grown hg0 (by simp), HSt.out.trans (Step.of ⟨hg0.os, hg0.tape, hg0.output, hg0.size, fun k hk => hg0.block k hk (by simp)⟩ (by have := HSt.out.size; omega))⟩
      clear hrg0 hg0 hownD kc hsz
      obtain ⟨hI1, hI2⟩ : m2 < wo.heap.size ∧ b0 < wo.heap.size := ⟨by omega, by omega⟩
      go_loopw [7] (fun _ wi => ∃ left cnt, cnt ≤ Maps.size D ∧ Hid (wi.ranges Tryd.prog 3 rawElem m2 wo.heap.size (n + i) D left cnt ∧ KN wi m0 m1 m2 m3 (n + i + (Maps.size D - cnt)) (repF (leftL K)) (wdMV K) (coMV K) (wkC K left) ∧ Blk wi b0 #[.map (some m0), .map (some m1), .map (some m2), .map (some m3)] 42 ∧ Step B w wi)) (fun _ wi => wi.rangeLeft m2 wo.heap.size)
      case atStart => exact ⟨_, _, Nat.le_refl _, HI1⟩
      case round =>
        obtain ⟨left, cnt, hcnt, hR⟩ := hrel
        clear HI1
        obtain ⟨hrg, hKi, hki, hSi⟩ := hR.out
        clear hR
        have Hrg := Lib.hid hrg
        have hDn := HDn.out
        go_wp2_with (at_next; go_loud (refine wpList_next_ranges _ rfl _ rfl 3 (int_keyed Tryd.underlying3) rawElem (Value.int .i64) (fun u : Value => u) intKeyShape rawShape m2 wo.heap.size (n + i) D left cnt rfl Hrg.out ?_ ?_))
        · intro _ hl0
          have HE := Lib.hid (wkC_end (K := K) hl0)
          have HKi := Lib.hid hKi
          have HSi := Lib.hid hSi
          clear hl0 hrg hKi hki hSi
          go_wp2_with fail
          go_end0
          exact ⟨rfl, by rw [← HE.out]; exact HKi.out.mono (by omega), HSi.out⟩
        · intro k1 v kl ya yb w1 cnt1 hkey hlk hv hat1 hrg1 hlt2 hg1 hs1 hen
          obtain ⟨p, ep, rfl, hwp⟩ := Maps.keyOf_int_inv Tryd.underlying3 hkey
          injection ep with _ ep
          subst ep
          have hv' := Option.some.inj hv
          injection hv' with hv1 hv2
          subst hv1
          clear hv hv2
          have hq := got_some HatD.out hat1
          rw [intG_at] at hq
          obtain ⟨q, hcq, rfl⟩ := coMV_some hq
          have hqK : q ∈ K := by
            obtain ⟨_, _, _, h3⟩ := corK_some hcq
            exact (corV_some h3).1
          have hwq := HWF.out.id q hqK
          obtain ⟨ob, hob, hoc, how⟩ := ranges_it hrg
          have hK1 := (hKi.turn hg1 (fun es c e => how es c (Option.some.inj (hob.symm.trans e)))).alloc (.cells #[.int .i64 q.id, .int .i64 q.src, .int .i64 q.acc, .int .i64 q.made, .int .i64 q.about, .int .u8 q.kind, .int .i64 q.cents, .int .i64 q.of_] 47)
          have hk1 := (hki.step (Step.turn (B := 0) hg1 hob hoc (Nat.zero_le _))).alloc (.cells #[.int .i64 q.id, .int .i64 q.src, .int .i64 q.acc, .int .i64 q.made, .int .i64 q.about, .int .u8 q.kind, .int .i64 q.cents, .int .i64 q.of_] 47)
          have hS1 := (hSi.trans (Step.turn (B := B) hg1 hob hoc (by omega))).trans (Step.alloc w1 (by have := hSi.size; omega) (.cells #[.int .i64 q.id, .int .i64 q.src, .int .i64 q.acc, .int .i64 q.made, .int .i64 q.about, .int .u8 q.kind, .int .i64 q.cents, .int .i64 q.of_] 47))
          obtain ⟨w3, hrun3, hput3, hg3⟩ := hK1.r3.put (int_keyed Tryd.underlying3) Tryd.underlying40 (by unfold maxLen; omega) (keyOf_int_mk Tryd.underlying3 hwq) (val := .bool true)
          rw [intG_put, wkC_step hcq] at hput3
          have hM := HM.out
          obtain ⟨_, _, _, _⟩ := hM
          have hK2 := hK1.put3 HM.out hg3 (by omega) hput3
          have hS2 := hS1.trans (KN.step_put (B := B) hK1.r3 hg3 (by omega))
          have hk2 := hk1.step (KN.step_put (B := 0) hK1.r3 hg3 (Nat.zero_le _))
          have hrg2 := (hrg1.alloc (.cells #[.int .i64 q.id, .int .i64 q.src, .int .i64 q.acc, .int .i64 q.made, .int .i64 q.about, .int .u8 q.kind, .int .i64 q.cents, .int .i64 q.of_] 47)).kept hg3 (fun e => by have := Option.some.inj e; omega) (fun e => by have := Option.some.inj e; omega)
          have kq := (Blk.new w1 #[.int .i64 q.id, .int .i64 q.src, .int .i64 q.acc, .int .i64 q.made, .int .i64 q.about, .int .u8 q.kind, .int .i64 q.cents, .int .i64 q.of_] 47).cell
          have kc1 := hk1.cell
          have hb01 : b0 < w1.heap.size := by have := hki.lt; omega
          have HF := Lib.hid (And.intro hrg2 (And.intro (hK2.mono (n' := n + i + (Maps.size D - cnt1)) (by omega)) (And.intro hk2 hS2)))
          have Hlt2 := Lib.hid hlt2
          clear hrg1 hg1 hob hoc hKi hki hSi hK1 hk1 hS1 hput3 hg3 hK2 hS2 hk2 hrg2 hat1 hlk hrg hq hs1 hlt2 how hcq
          go_wp2_with fail
          go_roundw
          case rel => exact ⟨_, cnt1, by have := Hlt2.out; omega, HF⟩
          case measure => rw [HF.out.1.left_eq, Hrg.out.left_eq]; exact Hlt2.out

end Go.Proofs.YtliijiflbfgfaaaDoor
