/- Withdrawals, by the program. Written by genwdp.py. -/
import Derived.Test.YtliijiflbfgfaaaDoorAKnow
import Derived.Test.YtliijiflbfgfaaaDoorAStF

namespace Go.Proofs.YtliijiflbfgfaaaDoor
open Go.RowKit Go.Maps

def repF (K : List Rep) : Int → Option Value := fun id => (atR K id).map fun r => .agg #[.int .i64 r.id, .int .i64 r.src, .int .i64 r.acc, .int .i64 r.made, .int .i64 r.about, .int .u8 r.kind, .int .i64 r.cents, .int .i64 r.of_]
def noM : Int → Option Value := fun _ => none
/-- The least withdrawal that works of each number that has one. -/
def wdMV (K : List Rep) : Int → Option Value := fun id => if 0 ≤ wdV K id then some (.int .i64 (wdV K id)) else none
/-- The withdrawals that work. -/
def wkMV (K : List Rep) : Int → Option Value := fun id => if (K.any fun w => decide (w.id = id) && (decide (w.kind = 9) && worksW K w)) = true then some (.bool true) else none
def leftL (K : List Rep) : List Rep := K.filter fun r => decide (wdV K r.id < 0)
theorem wdM_end {K ws : List Rep} (h0 : ∀ r ∈ K, 0 ≤ r.id) (hp : ws.Perm (K.filter (kindK 9))) : wdM K ws = wdMV K := by
  funext id
  unfold wdM wdMV
  rw [wdP_end h0 (by rw [show (fun r : Rep => decide (r.kind = 9)) = kindK 9 from rfl]; exact hp)]
theorem wkM_end {K ws : List Rep} (hp : ws.Perm (K.filter (kindK 9))) : wkM K ws = wkMV K := by
  funext id
  unfold wkM wkMV
  have e : (ws.any fun w => decide (w.id = id) && worksW K w) = (K.any fun w => decide (w.id = id) && (decide (w.kind = 9) && worksW K w)) := by
    rw [Bool.eq_iff_iff, List.any_eq_true, List.any_eq_true]
    constructor
    · rintro ⟨r, hr, h⟩
      have h1 := List.mem_filter.1 (hp.mem_iff.1 hr)
      refine ⟨r, h1.1, ?_⟩
      have h2 : r.kind = 9 := by simpa [kindK] using h1.2
      simpa [h2] using h
    · rintro ⟨r, hr, h⟩
      simp only [Bool.and_eq_true, decide_eq_true_eq] at h
      exact ⟨r, hp.mem_iff.2 (List.mem_filter.2 ⟨hr, by simp [kindK, h.2.1]⟩), by simp [h.1, h.2.2]⟩
  rw [e]
/-- While those that are withdrawn are taken out. -/
def delM (K : List Rep) (left : Lit → Bool) : Int → Option Value := fun id => if left (.int .i64 id) = false ∧ 0 ≤ wdV K id then none else repF K id
theorem delM_start {K : List Rep} {D : DataW Value} (hat : ∀ kl z, D.atKey kl z = gotAt (intG (wdMV K) kl) z) : repF K = delM K (has D) := by
  funext id
  unfold delM
  rw [if_neg]
  rintro ⟨h1, h2⟩
  rw [has_some hat, intG_at] at h1
  unfold wdMV at h1
  rw [if_pos h2] at h1
  cases h1
theorem delM_step {K : List Rep} {left : Lit → Bool} {x : Int} (hx : 0 ≤ wdV K x) : (fun y => if y = x then none else delM K left y) = delM K (fun z => left z && !z.sameKey (.int .i64 x)) := by
  funext y
  unfold delM
  by_cases h : y = x
  · subst h
    rw [if_pos rfl, if_pos ⟨by show (left _ && !(Lit.int .i64 y).sameKey (.int .i64 y)) = false; rw [sameKey_int]; simp, hx⟩]
  · rw [if_neg h]
    have e : (Lit.int .i64 y).sameKey (.int .i64 x) = false := by rw [sameKey_int]; simp [h]
    show _ = if (left (.int .i64 y) && !(Lit.int .i64 y).sameKey (.int .i64 x)) = false ∧ 0 ≤ wdV K y then none else repF K y
    rw [e]
    simp
theorem delM_end {K : List Rep} (hn : (K.map Rep.id).Nodup) {left : Lit → Bool} (hl : ∀ kl, left kl = false) : delM K left = repF (leftL K) := by
  funext id
  unfold delM repF leftL
  have hnf : ((K.filter fun r => decide (wdV K r.id < 0)).map Rep.id).Nodup := hn.sublist (List.filter_sublist.map Rep.id)
  by_cases hw : 0 ≤ wdV K id
  · rw [if_pos ⟨hl _, hw⟩]
    have e : atR (K.filter fun r => decide (wdV K r.id < 0)) id = none := atR_none.2 fun r hr e => by
      have h1 := (List.mem_filter.1 hr).2
      simp only [decide_eq_true_eq] at h1
      rw [e] at h1
      omega
    rw [e]; rfl
  · rw [if_neg (fun e => hw e.2)]
    congr 1
    cases hr : atR K id with
    | none =>
      refine (atR_none.2 fun r hr2 => ?_).symm
      exact atR_none.1 hr r (List.mem_filter.1 hr2).1
    | some r =>
      obtain ⟨h1, rfl⟩ := atR_some hr
      exact (atR_mem hnf (List.mem_filter.2 ⟨h1, by simp; omega⟩)).symm
theorem ranges_it {H : Type} {w : World} {P : Program} {k : TypeId} {R : Value → Option (DataW H × List MemPlace)} {b r n : Nat} {D : DataW H} {left : Lit → Bool} {cnt : Nat} (h : w.ranges P k R b r n D left cnt) : ∃ o, w.heap[r]? = some o ∧ o.isCells = false ∧ ∀ es c, o ≠ .map es c := by
  obtain ⟨_, _, since, seen, c0, _, _, _, _, hr, _⟩ := h
  exact ⟨_, hr, rfl, fun _ _ e => by cases e⟩
/-- The numbers that reports name can be keys. -/
structure KnWf (K : List Rep) : Prop where
  id : ∀ r ∈ K, (Lit.int .i64 r.id).wf = true
  of_ : ∀ r ∈ K, (Lit.int .i64 r.of_).wf = true
theorem zeroBool (w : World) : (zeroValue 4).run Tryd.prog w = .ok (.bool false) w := by kernel_rfl
theorem zeroInt (w : World) : (zeroValue 3).run Tryd.prog w = .ok (.int .i64 0) w := by kernel_rfl
theorem worksW_none {K : List Rep} {r : Rep} (h : atR K r.of_ = none) : worksW K r = false := by unfold worksW aimsB; rw [h]; rfl
theorem worksW_some {K : List Rep} {r s : Rep} (h : atR K r.of_ = some s) : worksW K r = ((decide (s.src = r.src) && decide (s.acc = r.acc)) && !decide (s.kind = 9)) := by unfold worksW aimsB kindAt; rw [h]

set_option maxRecDepth 100000 in
set_option maxHeartbeats 8000000 in
theorem withdraw_any (B m0 m1 m2 m3 n : Nat) (K : List Rep) (w : World) (hm : M4 B m0 m1 m2 m3) (hKN : KN w m0 m1 m2 m3 n (repF K) noM noM noM) (hK : KnOk K) (hwf : KnWf K) (hB : B ≤ w.heap.size) (hn : n ≤ 1000) :
    Calls Tryd.prog 27 #[knowV m0 m1 m2 m3] w fun e w' => e = .returned (.tuple #[]) ∧ KN w' m0 m1 m2 m3 (n + 2000) (repF (leftL K)) (wdMV K) noM (wkMV K) ∧ Step B w w' := by
  have HM := Lib.hid hm
  have HK := Lib.hid hK
  have HWF := Lib.hid hwf
  have kb := Blk.new w #[.map (some m0), .map (some m1), .map (some m2), .map (some m3)] 42
  have hKN1 := hKN.alloc (.cells #[.map (some m0), .map (some m1), .map (some m2), .map (some m3)] 42)
  have st1 := Step.alloc w hB (.cells #[.map (some m0), .map (some m1), .map (some m2), .map (some m3)] 42)
  have HO := Lib.hid (ofKind_any m0 n K 9 _ (by rw [repG_eq]; exact hKN1.r0) hK.nodup hK.len)
  have hml : m0 < w.heap.size ∧ m1 < w.heap.size ∧ m2 < w.heap.size ∧ m3 < w.heap.size := ⟨hKN.r0.lt, hKN.r1.lt, hKN.r2.lt, hKN.r3.lt⟩
  obtain ⟨hm0l, hm1l, hm2l, hm3l⟩ := hml
  have kc0 := kb.cell
  have HKN1 := Lib.hid hKN1
  have Hst1 := Lib.hid st1
  have Hkb := Lib.hid kb
  clear hm hKN hK hwf kb hKN1 st1
  generalize hkbe : w.heap.size = b0 at *
  go_enter Tryd.func27, Tryd.ntmps27
  go_wp2_with (go_at_call 39; (with_reducible refine (HO.out).mono ?_); rintro e w2 ⟨A', c', ws, rfl, hp, hs, hR, h2⟩)
  have hl2 : ws.length ≤ 1000 := Nat.le_trans (Nat.le_of_eq hp.length_eq) (Nat.le_trans (List.length_filter_le _ _) HK.out.len)
  have HI0 : Hid (KN w2 m0 m1 m2 m3 (n + 2 * 0) (repF K) (wdM K (ws.take 0)) noM (wkM K (ws.take 0)) ∧ Blk w2 b0 #[.map (some m0), .map (some m1), .map (some m2), .map (some m3)] 42 ∧ Reps w2 w2.heap.size A' ws ∧ Step B w w2) := by
    rw [List.take_zero, wdM_nil, wkM_nil]
    exact Lib.hid ⟨HKN1.out.later h2, (Hkb.out).step (Step.of h2 (Nat.zero_le _)), hR, Hst1.out.trans (Step.of h2 (by have := Hst1.out.size; omega))⟩
  have Hp := Lib.hid hp
  have Hs := Lib.hid hs
  clear hp hs hR h2 kc0 HKN1 Hst1 Hkb HO
  go_loopw [13] (fun ii wr => ∃ i : Nat, i ≤ ws.length ∧ ii = .int .i64 i ∧ Hid (KN wr m0 m1 m2 m3 (n + 2 * i) (repF K) (wdM K (ws.take i)) noM (wkM K (ws.take i)) ∧ Blk wr b0 #[.map (some m0), .map (some m1), .map (some m2), .map (some m3)] 42 ∧ Reps wr wr.heap.size A' ws ∧ Step B w wr)) (fun ii _ => ws.length - (vInt ii).toNat)
  case atStart => exact ⟨0, Nat.zero_le _, rfl, HI0⟩
  case round =>
    obtain ⟨i, hi, rfl, hT⟩ := hrel
    clear HI0
    obtain ⟨hKN, hkb, hR, hSt⟩ := hT.out
    have kc := hkb.cell
    by_cases hlt : i < ws.length
    · have hil : (i : Int) < (ws.length : Int) := by omega
      obtain ⟨b, off, rfl, hb, C⟩ := hR.eight hlt
      have hmem := List.mem_filter.1 (Hp.out.mem_iff.1 (List.getElem_mem hlt))
      have HTk := Lib.hid (List.take_succ_eq_append_getElem hlt)
      generalize ws[i] = r at *
      obtain ⟨hrK, hr9⟩ := hmem
      have h9 : r.kind = 9 := by simpa [kindK] using hr9
      obtain ⟨c0, c1, c2, c3, c4, c5, c6, c7⟩ := C
      have k3 := Blk.new wr #[.int .i64 r.id, .int .i64 r.src, .int .i64 r.acc, .int .i64 r.made, .int .i64 r.about, .int .u8 r.kind, .int .i64 r.cents, .int .i64 r.of_] 47
      have hb1 := (Below.refl wr.heap.size wr).alloc (Nat.le_refl _) (.cells #[.int .i64 r.id, .int .i64 r.src, .int .i64 r.acc, .int .i64 r.made, .int .i64 r.about, .int .u8 r.kind, .int .i64 r.cents, .int .i64 r.of_] 47)
      have hKN1 := hKN.alloc (.cells #[.int .i64 r.id, .int .i64 r.src, .int .i64 r.acc, .int .i64 r.made, .int .i64 r.about, .int .u8 r.kind, .int .i64 r.cents, .int .i64 r.of_] 47)
      have hkb1 := hkb.alloc (.cells #[.int .i64 r.id, .int .i64 r.src, .int .i64 r.acc, .int .i64 r.made, .int .i64 r.about, .int .u8 r.kind, .int .i64 r.cents, .int .i64 r.of_] 47)
      have hM0 : MapFn (wr.alloc (.cells #[.int .i64 r.id, .int .i64 r.src, .int .i64 r.acc, .int .i64 r.made, .int .i64 r.about, .int .u8 r.kind, .int .i64 r.cents, .int .i64 r.of_] 47)) Tryd.prog 3 m0 (n + 2 * i) (repG K) := by rw [repG_eq]; exact hKN1.r0
      have hwo := HWF.out.of_ r hrK
      have hwi := HWF.out.id r hrK
      have hSB : B ≤ wr.heap.size := by have := hSt.size; omega
      have hkblt : b0 < wr.heap.size := hkb.lt
      cases ha : atR K r.of_ with
      | none =>
        have HC := Lib.hid (named_none m0 _ K r _ hM0 hwo ha)
        have hw := worksW_none ha
        have Hwd : Hid (wdM K (ws.take (i + 1)) = wdM K (ws.take i)) := Lib.hid (by rw [HTk.out, wdM_skip h9 hw])
        have Hwk : Hid (wkM K (ws.take (i + 1)) = wkM K (ws.take i)) := Lib.hid (by rw [HTk.out, wkM_skip hw])
        have HKN2 := Lib.hid hKN1
        have Hkb2 := Lib.hid hkb1
        have HR2 := Lib.hid hR
        have Hst := Lib.hid (hSt.trans (Step.of hb1 hSB))
        clear hw h9 hT hKN hKN1 hkb hkb1 hR hSt hM0 hr9
        go_wp2_with (go_at_call 40; (with_reducible refine (HC.out).mono ?_); rintro e w3 ⟨rfl, h3⟩; have kb3 := (Hkb2.out.below h3 Hkb2.out.lt).cell)
        have h4 := h3.alloc h3.size (.cells #[.int .i64 0, .int .i64 0, .int .i64 0, .int .i64 0, .int .i64 0, .int .u8 0, .int .i64 0, .int .i64 0] 47)
        have s4 := Step.of h4 (Nat.le_trans hSB hb1.size)
        go_roundw
        case rel => exact ⟨i + 1, by omega, by go_num, Lib.hid ⟨by rw [Hwd.out, Hwk.out]; exact (HKN2.out.later h4).mono (by omega), Hkb2.out.step s4, HR2.out.step ((Step.of hb1 hSB).trans s4), Hst.out.trans s4⟩⟩
        case measure => simp [vInt]; omega
      | some s =>
        have HC := Lib.hid (named_some m0 _ K r s _ hM0 hwo ha)
        have hws := worksW_some ha
        cases hd : (decide (s.src = r.src) && decide (s.acc = r.acc)) with
        | false =>
          rw [hd] at HC
          have hw : worksW K r = false := by rw [hws, hd]; rfl
          clear hws
          have Hwd : Hid (wdM K (ws.take (i + 1)) = wdM K (ws.take i)) := Lib.hid (by rw [HTk.out, wdM_skip h9 hw])
          have Hwk : Hid (wkM K (ws.take (i + 1)) = wkM K (ws.take i)) := Lib.hid (by rw [HTk.out, wkM_skip hw])
          have HKN2 := Lib.hid hKN1
          have Hkb2 := Lib.hid hkb1
          have HR2 := Lib.hid hR
          have Hst := Lib.hid (hSt.trans (Step.of hb1 hSB))
          clear hw h9 hT hKN hKN1 hkb hkb1 hR hSt hM0 hr9
          go_wp2_with (go_at_call 40; (with_reducible refine (HC.out).mono ?_); rintro e w3 ⟨rfl, h3⟩; have kb3 := (Hkb2.out.below h3 Hkb2.out.lt).cell)
          have h4 := h3.alloc h3.size (.cells #[.int .i64 s.id, .int .i64 s.src, .int .i64 s.acc, .int .i64 s.made, .int .i64 s.about, .int .u8 s.kind, .int .i64 s.cents, .int .i64 s.of_] 47)
          have s4 := Step.of h4 (Nat.le_trans hSB hb1.size)
          go_roundw
          case rel => exact ⟨i + 1, by omega, by go_num, Lib.hid ⟨by rw [Hwd.out, Hwk.out]; exact (HKN2.out.later h4).mono (by omega), Hkb2.out.step s4, HR2.out.step ((Step.of hb1 hSB).trans s4), Hst.out.trans s4⟩⟩
          case measure => simp [vInt]; omega
        | true =>
          rw [hd] at HC
          by_cases hs9 : s.kind = 9
          · have hw : worksW K r = false := by rw [hws, hd]; simp [hs9]
            have es9 : (s.kind == 9) = true := by simp [hs9]
            clear hws hs9
            have Hwd : Hid (wdM K (ws.take (i + 1)) = wdM K (ws.take i)) := Lib.hid (by rw [HTk.out, wdM_skip h9 hw])
            have Hwk : Hid (wkM K (ws.take (i + 1)) = wkM K (ws.take i)) := Lib.hid (by rw [HTk.out, wkM_skip hw])
            have HKN2 := Lib.hid hKN1
            have Hkb2 := Lib.hid hkb1
            have HR2 := Lib.hid hR
            have Hst := Lib.hid (hSt.trans (Step.of hb1 hSB))
            clear hw h9 hT hKN hKN1 hkb hkb1 hR hSt hM0 hr9
            go_wp2_with (go_at_call 40; (with_reducible refine (HC.out).mono ?_); rintro e w3 ⟨rfl, h3⟩; have kb3 := (Hkb2.out.below h3 Hkb2.out.lt).cell)
            have h4 := h3.alloc h3.size (.cells #[.int .i64 s.id, .int .i64 s.src, .int .i64 s.acc, .int .i64 s.made, .int .i64 s.about, .int .u8 s.kind, .int .i64 s.cents, .int .i64 s.of_] 47)
            have s4 := Step.of h4 (Nat.le_trans hSB hb1.size)
            go_roundw
            case rel => exact ⟨i + 1, by omega, by go_num, Lib.hid ⟨by rw [Hwd.out, Hwk.out]; exact (HKN2.out.later h4).mono (by omega), Hkb2.out.step s4, HR2.out.step ((Step.of hb1 hSB).trans s4), Hst.out.trans s4⟩⟩
            case measure => simp [vInt]; omega
          · have hw : worksW K r = true := by rw [hws, hd]; simp [hs9]
            have es9 : (s.kind == 9) = false := by simpa using hs9
            obtain ⟨hsK, hsid⟩ := atR_some ha
            have hr0 := (HK.out.id r hrK).1
            have Hw := Lib.hid hw
            have Hsid := Lib.hid hsid
            have H9 := Lib.hid h9
            have Hst := Lib.hid (hSt.trans (Step.of hb1 hSB))
            have HKN1 := Lib.hid hKN1
            have Hkb1 := Lib.hid hkb1
            have HR := Lib.hid hR
            have Hk3 := Lib.hid k3
            clear hws hs9 hd ha hw hT hKN hKN1 hkb hkb1 hR hSt hM0 hr9 h9 hsid k3
            go_upto_region 6 with (go_at_call 40; (with_reducible refine (HC.out).mono ?_); rintro e w3 ⟨rfl, h3⟩; have kb3 := (Hkb1.out.below h3 Hkb1.out.lt).cell)
            have hV := h3.alloc h3.size (.cells #[.int .i64 s.id, .int .i64 s.src, .int .i64 s.acc, .int .i64 s.made, .int .i64 s.about, .int .u8 s.kind, .int .i64 s.cents, .int .i64 s.of_] 47)
            have sV := Step.of hV (Nat.le_trans hSB hb1.size)
            have hKV := HKN1.out.later hV
            have bkb := Hkb1.out.step sV
            have bk3 := Hk3.out.step sV
            have bk4 := Blk.new w3 #[.int .i64 s.id, .int .i64 s.src, .int .i64 s.acc, .int .i64 s.made, .int .i64 s.about, .int .u8 s.kind, .int .i64 s.cents, .int .i64 s.of_] 47
            have HRV := Lib.hid (HR.out.step ((Step.of hb1 hSB).trans sV))
            have HstV := Lib.hid (Hst.out.trans sV)
            have h34 : wr.heap.size < w3.heap.size := by have := h3.size; simp at this; omega
            have hb03 : b0 < w3.heap.size := by omega
            clear h3 hV sV HKN1 Hkb1 Hk3 HR Hst HC kc kb3 c0 c1 c2 c3 c4 c5 c6 c7 hb hb1
            generalize hV4 : w3.heap.size = b4 at *
            generalize w3.alloc (.cells #[.int .i64 s.id, .int .i64 s.src, .int .i64 s.acc, .int .i64 s.made, .int .i64 s.about, .int .u8 s.kind, .int .i64 s.cents, .int .i64 s.of_] 47) = V at *
            clear hV4 w3
            generalize hV3 : wr.heap.size = b3 at *
            clear hV3 wr
            obtain ⟨V1, hrun3, hput3, hg3⟩ := hKV.r3.put (int_keyed Tryd.underlying3) Tryd.underlying40 (by unfold maxLen; omega) (keyOf_int_mk Tryd.underlying3 hwi) (val := .bool true)
            rw [intG_put, wkM_put Hw.out, ← HTk.out] at hput3
            have hK1 := hKV.put3 HM.out hg3 (by omega) hput3
            have s1 := KN.step_put (B := B) hKV.r3 hg3 (by have := HM.out; obtain ⟨_, _, _, _⟩ := this; omega)
            have look := hK1.r1.lookOk (int_keyed Tryd.underlying3) Tryd.underlying39 (zeroInt V1) (keyOf_int_mk Tryd.underlying3 (show (Lit.int .i64 s.id).wf = true by rw [Hsid.out]; exact hwo))
            rw [intG_at] at look
            have k0c := bkb.cell
            have k3c := bk3.cell
            have k4c := bk4.cell
            have k0d := (bkb.step s1).cell
            have k3d := (bk3.step s1).cell
            have k4d := (bk4.step s1).cell
            have hlk : wdM K (ws.take i) s.id = if 0 ≤ wdP K (ws.take i) r.of_ then some (.int .i64 (wdP K (ws.take i) r.of_)) else none := by rw [Hsid.out]; rfl
            rw [hlk] at look
            have HP1 := Lib.hid hput3
            have HK1 := Lib.hid hK1
            have Hs1 := Lib.hid s1
            have Hb := Lib.hid (And.intro bkb (And.intro bk3 bk4))
            clear hKV hput3 hg3 hlk bkb bk3 bk4
            by_cases hq : 0 ≤ wdP K (ws.take i) r.of_
            · rw [if_pos hq] at look
              simp only [Option.getD_some, Option.isSome_some] at look
              by_cases hlt2 : r.id < wdP K (ws.take i) r.of_
              · obtain ⟨V2, hrun1, hput1, hg1⟩ := hK1.r1.put (int_keyed Tryd.underlying3) Tryd.underlying39 (by unfold maxLen; omega) (keyOf_int_mk Tryd.underlying3 (show (Lit.int .i64 s.id).wf = true by rw [Hsid.out]; exact hwo)) (val := .int .i64 r.id)
                rw [intG_put, Hsid.out, wdM_put H9.out Hw.out hr0 (.inr hlt2), ← HTk.out] at hput1
                have HK2 := Lib.hid (hK1.put1 HM.out hg1 (by omega) hput1)
                have Hs2 := Lib.hid (Hs1.out.trans (KN.step_put (B := B) hK1.r1 hg1 (by have := HM.out; obtain ⟨_, _, _, _⟩ := this; omega)))
                generalize wdP K (ws.take i) r.of_ = z at *
                clear hK1 s1 hput1 hg1 hq
                go_wp2_with fail
                go_roundw
                case rel => exact ⟨i + 1, by omega, by go_num, Lib.hid ⟨HK2.out.mono (by omega), Hb.out.1.step Hs2.out, HRV.out.step Hs2.out, HstV.out.trans Hs2.out⟩⟩
                case measure => simp [vInt]; omega
              · have Hkeep := Lib.hid (wdM_keep H9.out Hw.out (ws := ws.take i) (by omega))
                rw [← HTk.out] at Hkeep
                generalize wdP K (ws.take i) r.of_ = z at *
                clear hK1 s1 hq
                go_wp2_with fail
                go_roundw
                case rel => exact ⟨i + 1, by omega, by go_num, Lib.hid ⟨by rw [Hkeep.out]; exact HK1.out.mono (by omega), Hb.out.1.step Hs1.out, HRV.out.step Hs1.out, HstV.out.trans Hs1.out⟩⟩
                case measure => simp [vInt]; omega
            · rw [if_neg hq] at look
              simp only [Option.getD_none, Option.isSome_none] at look
              obtain ⟨V2, hrun1, hput1, hg1⟩ := hK1.r1.put (int_keyed Tryd.underlying3) Tryd.underlying39 (by unfold maxLen; omega) (keyOf_int_mk Tryd.underlying3 (show (Lit.int .i64 s.id).wf = true by rw [Hsid.out]; exact hwo)) (val := .int .i64 r.id)
              rw [intG_put, Hsid.out, wdM_put H9.out Hw.out hr0 (.inl (by omega)), ← HTk.out] at hput1
              have HK2 := Lib.hid (hK1.put1 HM.out hg1 (by omega) hput1)
              have Hs2 := Lib.hid (Hs1.out.trans (KN.step_put (B := B) hK1.r1 hg1 (by have := HM.out; obtain ⟨_, _, _, _⟩ := this; omega)))
              clear hK1 s1 hput1 hg1 hq
              go_wp2_with fail
              go_roundw
              case rel => exact ⟨i + 1, by omega, by go_num, Lib.hid ⟨HK2.out.mono (by omega), Hb.out.1.step Hs2.out, HRV.out.step Hs2.out, HstV.out.trans Hs2.out⟩⟩
              case measure => simp [vInt]; omega
    · have hil : ¬ (i : Int) < (ws.length : Int) := by omega
      have hall : ws.take i = ws := List.take_of_length_le (by omega)
      rw [hall, wdM_end (fun r hr => (HK.out.id r hr).1) Hp.out, wkM_end Hp.out] at hKN
      obtain ⟨D, hownD, hatD⟩ := hKN.r1
      have HatD := Lib.hid hatD
      have HKN := Lib.hid hKN
      have Hkb := Lib.hid hkb
      have HSt := Lib.hid hSt
      have hbl := hkb.lt
      obtain ⟨wo, rfl⟩ : ∃ wo : World, wo = wr := ⟨_, rfl⟩
      clear hT hR hSt hKN hatD hkb hall
      go_wp2_with (at_range; refine wpList_range_own _ rfl _ 39 rfl 3 3 (int_keyed Tryd.underlying3) Tryd.underlying39 rawElem m1 (n + 2 * i) D rfl hownD ?_; intro w0 hrg0 hg0 hs0)
      have HI1 : Hid (w0.ranges Tryd.prog 3 rawElem m1 wo.heap.size (n + 2 * i) D (has D) _ ∧ KN w0 m0 m1 m2 m3 (n + 2 * i) (delM K (has D)) (wdMV K) noM (wkMV K) ∧ Blk w0 b0 #[.map (some m0), .map (some m1), .map (some m2), .map (some m3)] 42 ∧ Step B w w0) := Lib.hid ⟨hrg0, by rw [← delM_start HatD.out]; exact HKN.out.more hg0, Hkb.out.grown hg0 (by simp), HSt.out.trans (Step.of ⟨hg0.os, hg0.tape, hg0.output, hg0.size, fun k hk => hg0.block k hk (by simp)⟩ (by have := HSt.out.size; omega))⟩
      clear hrg0 hg0 hownD kc
      have Hitl : m0 < wo.heap.size ∧ b0 < wo.heap.size := ⟨by omega, by omega⟩
      go_loopw [8] (fun _ wi => ∃ left cnt, Hid (wi.ranges Tryd.prog 3 rawElem m1 wo.heap.size (n + 2 * i) D left cnt ∧ KN wi m0 m1 m2 m3 (n + 2 * i) (delM K left) (wdMV K) noM (wkMV K) ∧ Blk wi b0 #[.map (some m0), .map (some m1), .map (some m2), .map (some m3)] 42 ∧ Step B w wi)) (fun _ wi => wi.rangeLeft m1 wo.heap.size)
      case atStart => exact ⟨_, _, HI1⟩
      case round =>
        obtain ⟨left, cnt, hR⟩ := hrel
        clear HI1
        obtain ⟨hrg, hKi, hki, hSi⟩ := hR.out
        clear hR
        have Hrg := Lib.hid hrg
        go_wp2_with (at_next; go_loud (refine wpList_next_ranges _ rfl _ rfl 3 (int_keyed Tryd.underlying3) rawElem (Value.int .i64) (fun u : Value => u) intKeyShape rawShape m1 wo.heap.size (n + 2 * i) D left cnt rfl Hrg.out ?_ ?_))
        · intro _ hl0
          have HE := Lib.hid (delM_end HK.out.nodup hl0)
          have HKi := Lib.hid hKi
          have HSi := Lib.hid hSi
          clear hl0 hrg hKi hki hSi
          go_wp2_with fail
          go_end0
          exact ⟨rfl, by rw [← HE.out]; exact HKi.out.mono (by omega), HSi.out⟩
        · intro k1 v kl ya yb w1 cnt1 hkey hlk hv hat1 hrg1 hlt2 hg1 hs1 hen
          obtain ⟨p, ep, rfl, hwp⟩ := Maps.keyOf_int_inv Tryd.underlying3 hkey
          injection ep with _ ep
          subst ep
          have hv' := Option.some.inj hv
          injection hv' with hv1 hv2
          subst hv1
          clear hv hv2
          have hwd : 0 ≤ wdV K k1 := by
            have hq := got_some HatD.out hat1
            rw [intG_at] at hq
            unfold wdMV at hq
            by_cases h : 0 ≤ wdV K k1
            · exact h
            · rw [if_neg h] at hq; cases hq
          obtain ⟨ob, hob, hoc, how⟩ := ranges_it hrg
          have hK1 := hKi.turn hg1 (fun es c e => how es c (Option.some.inj (hob.symm.trans e)))
          have hk1 := hki.step (Step.turn (B := 0) hg1 hob hoc (Nat.zero_le _))
          have hS1 := hSi.trans (Step.turn hg1 hob hoc (by omega))
          obtain ⟨w2, hrun2, hdel2, hg2⟩ := hK1.r0.del (int_keyed Tryd.underlying3) Tryd.underlying36 (keyOf_int_mk Tryd.underlying3 hwp) 0
          rw [intG_del, delM_step hwd] at hdel2
          have hM := HM.out
          obtain ⟨_, _, _, _⟩ := hM
          have hK2 := hK1.put0 HM.out hg2 (Nat.le_refl _) hdel2
          have hS2 := hS1.trans (KN.step_put (B := B) hK1.r0 hg2 (by omega))
          have hk2 := hk1.step (KN.step_put (B := 0) hK1.r0 hg2 (Nat.zero_le _))
          have hrg2 := hrg1.kept hg2 (fun e => by have := Option.some.inj e; omega) (fun e => by have := Option.some.inj e; omega)
          have kc1 := hk1.cell
          have hrun2' : ∀ ty, (Builtin.delete_ #[36, 3] ty #[.map (some m0), .int .i64 k1]).run Tryd.prog w1 = .ok (.tuple #[]) w2 := fun ty => hrun2
          have HF := Lib.hid (And.intro hrg2 (And.intro hK2 (And.intro hk2 hS2)))
          have Hlt2 := Lib.hid hlt2
          clear hrg1 hg1 hob hoc hKi hki hSi hK1 hk1 hS1 hdel2 hg2 hK2 hS2 hk2 hrg2 hat1 hlk hrg hwd hrun2 hs1 hlt2 how
          go_wp2_with fail
          go_roundw
          case rel => exact ⟨_, _, HF⟩
          case measure => rw [HF.out.1.left_eq, Hrg.out.left_eq]; exact Hlt2.out

end Go.Proofs.YtliijiflbfgfaaaDoor
