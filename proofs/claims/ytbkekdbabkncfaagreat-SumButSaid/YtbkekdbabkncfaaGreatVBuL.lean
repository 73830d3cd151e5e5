/- The law on one question more: all, those before, those after. Written by vbl.py. -/
import Derived.Test.YtbkekdbabkncfaaGreatVBuW
import Derived.Test.YtbkekdbabkncfaaGreatVAl

namespace Go.Proofs.YtbkekdbabkncfaaGreat
open Go.RowKit Go.Maps

set_option maxRecDepth 100000 in
set_option maxHeartbeats 32000000 in
theorem sumBut_any (vs : List Int) (A : Option Addr) (c : Nat) (kk cl : Int) (w : World) (h : Flat 1 u16C w w.heap.size A vs) (hv : ∀ v ∈ vs, 0 ≤ v ∧ v ≤ 65535) (hk : 0 ≤ kk ∧ kk ≤ 255) (hcl : 0 ≤ cl ∧ cl ≤ 65535) :
    Calls Tryz.prog 11 #[.slice A vs.length c, .int .u8 kk, .int .u16 cl] w fun e w' => e = .returned (.bool true) ∧ Below w.heap.size w w' := by
  have b1 := (Below.refl w.heap.size w).alloc (Nat.le_refl _) (.cells #[.int .u16 cl] 66)
  have k1 := Blk.new w #[.int .u16 cl] 66
  have HAl := Lib.hid (fun W' => alive_any W')
  by_cases hn : vs.length = 0 ∨ 16 < vs.length
  · rcases hn with hn | hn
    · have hz : ((vs.length : Int) == 0) = true := by rw [hn]; rfl
      clear hn h
      go_enter Tryz.func11, Tryz.ntmps11
      go_wp2_with (go_at_call 12; (with_reducible refine (HAl.out _).mono ?_); rintro e w1 ⟨rfl, h1⟩; have b2 := b1.trans (h1.mono b1.size))
      go_ret
      exact ⟨rfl, b2⟩
    · have hz : ((vs.length : Int) == 0) = false := by rw [beq_eq_false_iff_ne]; omega
      have hz2 : (16 : Int) < (vs.length : Int) := by omega
      clear hn h
      go_enter Tryz.func11, Tryz.ntmps11
      go_wp2_with (go_at_call 12; (with_reducible refine (HAl.out _).mono ?_); rintro e w1 ⟨rfl, h1⟩; have b2 := b1.trans (h1.mono b1.size))
      go_ret
      exact ⟨rfl, b2⟩
  · obtain ⟨N, hN⟩ : ∃ N, N = vs.length := ⟨_, rfl⟩
    have hN1 : 1 ≤ N ∧ N ≤ 16 := by omega
    have hz : ((N : Int) == 0) = false := by rw [beq_eq_false_iff_ne]; omega
    have hz2 : ¬ (16 : Int) < (N : Int) := by omega
    have hnI : ¬ ((N : Int) = 0) := by omega
    obtain ⟨kn, hkn⟩ : ∃ kn : Nat, kk.tmod (N : Int) = kn := ⟨(kk.tmod (N : Int)).toNat, (Int.toNat_of_nonneg (Int.tmod_nonneg (N : Int) hk.1)).symm⟩
    have hkl : kn < N := by
      have := Int.tmod_lt_of_pos kk (show (0 : Int) < N by omega)
      rw [hkn] at this
      omega
    have hcv : IntKind.i64.wrap kk = kk := IntWalk.i64_in _ (by omega)
    rw [← hN]
    have HH : Hid (∀ i, (hi : i < N) → ∃ b off, A = some ⟨b, off, none⟩ ∧ b < w.heap.size ∧ w.cell? ⟨b, off + i, none⟩ = some (.int .u16 (vs.getD i 0)) ∧ 0 ≤ vs.getD i 0 ∧ vs.getD i 0 ≤ 65535) := Lib.hid (fun i hi => by
      obtain ⟨b, off, e, h1, h2⟩ := h i (by omega)
      have h3 := h2 0 (by omega)
      rw [getD_lt vs _ (by omega : i < vs.length)]
      exact ⟨b, off, e, h1, by simpa [u16C] using h3, hv _ (List.getElem_mem _)⟩)
    obtain ⟨b, off, rfl, hb, _⟩ := HH.out 0 (by omega)
    obtain ⟨i0, hi0, hz0, hz1, hz9⟩ := info_parts subInfo
    generalize hf : (fun i => vs.getD i 0) = f at *
    have HF : Hid (∀ i, (hi : i < N) → w.cell? ⟨b, off + i, none⟩ = some (.int .u16 (f i)) ∧ 0 ≤ f i ∧ f i ≤ 65535) := Lib.hid (fun i hi => by
      obtain ⟨b', off', e, _, h3, h4⟩ := HH.out i hi
      simp only [Option.some.injEq, Addr.mk.injEq, and_true] at e
      obtain ⟨rfl, rfl⟩ := e
      rw [← hf]; exact ⟨h3, h4⟩)
    clear HH h hv hn hf hN
    go_enter Tryz.func11, Tryz.ntmps11
    go_upto_region 8 with (go_at_call 12; (with_reducible refine (HAl.out _).mono ?_); rintro e x3 ⟨rfl, h1⟩; have b2 := b1.trans (h1.mono b1.size); have k2 := k1.below h1 k1.lt)
    have HX := Lib.hid b2
    have KX := Lib.hid k2
    have HI0 : Hid (SubsOwn x3.heap.size x3 none 0 [] ∧ ([] : List SubD).map SubD.v = butL f 0 ∧ Below x3.heap.size x3 x3) := Lib.hid ⟨⟨World.ownsRow_nil _ _ _ _, fun x hx => by cases hx⟩, rfl, Below.refl _ _⟩
    clear b1 k1 b2 k2 h1 hkn hcv
    go_wp2_with fail
    go_loopw [9, 43] (fun ss ii wr => ∃ (L : List SubD) (A2 : Option Addr) (c2 : Nat), L.length ≤ N ∧ ss = .slice A2 L.length c2 ∧ ii = .int .i64 (L.length : Nat) ∧ Hid (SubsOwn x3.heap.size wr A2 c2 L ∧ L.map SubD.v = butL f L.length ∧ Below x3.heap.size x3 wr)) (fun _ ii _ => N - (vInt ii).toNat)
    case atStart => exact ⟨[], none, 0, Nat.zero_le _, rfl, rfl, HI0⟩
    case round =>
      obtain ⟨L, A2, c2, hi9, rfl, rfl, hR⟩ := hrel
      obtain ⟨hO, hM, hB⟩ := hR.out
      clear hR
      have bw := HX.out.trans (hB.mono HX.out.size)
      obtain ⟨i, hi⟩ : ∃ i, i = L.length := ⟨_, rfl⟩
      by_cases hlt : i < N
      · have hil : (i : Int) < (N : Int) := by omega
        obtain ⟨c0w, hf0, hf1⟩ := HF.out i hlt
        have c0 := (bw.cell (p := ⟨b, off + i, none⟩) hb).trans c0w
        generalize hvv : f i = v at *
        have hw1 : IntKind.i64.wrap (7 * (i : Int)) = 7 * (i : Int) := IntWalk.i64_in _ (by omega)
        have hw2 : IntKind.i64.wrap v = v := IntWalk.i64_in _ (by omega)
        have HO := Lib.hid hO
        have HM := Lib.hid hM
        have HB := Lib.hid hB
        have hsz := hB.size
        have HLi := Lib.hid hi
        have HV := Lib.hid hvv
        rw [← hi]
        clear hO hM hB c0w hvv hi
        have HO1 : Hid (((wr.alloc (.cells #[.int .i64 (i : Int), .int .i64 v] 3)).alloc (.cells #[.int .i64 (7 * (i : Int)), .slice (some ⟨wr.heap.size, 0, none⟩) 2 2] 56)).ownsRow x3.heap.size 56 2 (.slice A2 i c2) i (L.flatMap subC)) := Lib.hid (by have h9 := (HO.out.1.alloc (.cells #[.int .i64 (i : Int), .int .i64 v] 3)).alloc (.cells #[.int .i64 (7 * (i : Int)), .slice (some ⟨wr.heap.size, 0, none⟩) 2 2] 56); rw [← HLi.out] at h9; exact h9)
        have kv := (Blk.new wr #[.int .i64 (i : Int), .int .i64 v] 3).alloc (.cells #[.int .i64 (7 * (i : Int)), .slice (some ⟨wr.heap.size, 0, none⟩) 2 2] 56)
        have ke := newAt' (wr.alloc (.cells #[.int .i64 (i : Int), .int .i64 v] 3)) #[.int .i64 (7 * (i : Int)), .slice (some ⟨wr.heap.size, 0, none⟩) 2 2] 56 (g := wr.heap.size + 1) (by simp)
        have bA := ((Below.refl wr.heap.size wr).alloc (Nat.le_refl _) (.cells #[.int .i64 (i : Int), .int .i64 v] 3)).alloc (by simp) (.cells #[.int .i64 (7 * (i : Int)), .slice (some ⟨wr.heap.size, 0, none⟩) 2 2] 56)
        have hX2 : FlatP 1 intC ((wr.alloc (.cells #[.int .i64 (i : Int), .int .i64 v] 3)).alloc (.cells #[.int .i64 (7 * (i : Int)), .slice (some ⟨wr.heap.size, 0, none⟩) 2 2] 56)) (fun b => (Value.slice A2 L.length c2).ownBlock ≠ some b) (some ⟨wr.heap.size, 0, none⟩) [(i : Int), v] := fun k hk9 => by
          have h3 : k = 0 ∨ k = 1 := by simp only [List.length_cons, List.length_nil] at hk9; omega
          refine ⟨wr.heap.size, 0, rfl, kv.lt, fun e => by have := (HO.out.1.lt _ e).2; omega, fun j hj => ?_⟩
          rw [kv.cell]
          obtain rfl : j = 0 := by omega
          rcases h3 with rfl | rfl <;> rfl
        have HX2 := Lib.hid hX2
        have HOL := Lib.hid (HO.out.later bA)
        have HBA := Lib.hid (HB.out.trans (bA.mono hsz))
        clear hX2 kv bA
        go_wp2_with (at_builtin; refine wpList_append_own_at _ rfl _ _ 30 rfl x3.heap.size 56 i0 _ 2 32 Tryz.underlying30 hi0 hz0 hz1 hz9 rfl (by decide) _ _ _ rfl HO1.out ⟨wr.heap.size + 1, 0, none⟩ 1 1 (subC ⟨⟨7 * (i : Int), [(i : Int), v]⟩, some ⟨wr.heap.size, 0, none⟩, 2⟩) rfl rfl (fun j u hj => by rw [WideShapes.add_plain, Nat.zero_add]; exact (ke.cell j).trans (by simpa [subC] using hj)) (subC_one _) (by unfold maxLen; omega) (by omega) (by simp; omega) ?_; intro v' w6 hown6 hg6 _ hat6; obtain ⟨A3, c3, rfl⟩ := own_slice hown6)
        have hB6 := HBA.out.grown hg6 (by simp; omega) (fun k e => (HO1.out.lt k e).1)
        have hlen : (L ++ [(⟨⟨7 * (i : Int), [(i : Int), v]⟩, some ⟨wr.heap.size, 0, none⟩, 2⟩ : SubD)]).length = i + 1 := by rw [List.length_append, ← HLi.out]; rfl
        have hS6 : SubsOwn x3.heap.size w6 A3 c3 (L ++ [⟨⟨7 * (i : Int), [(i : Int), v]⟩, some ⟨wr.heap.size, 0, none⟩, 2⟩]) := by
          refine subs_snoc (A := A2) (c := c2) HOL.out HX2.out (by rw [← HLi.out]; exact hg6) (by rw [← HLi.out]; exact hat6) ?_
          rw [← HLi.out]; exact hown6
        go_roundw
        case rel => exact ⟨_, A3, c3, by rw [hlen]; omega, by rw [hlen], by rw [hlen]; go_num, Lib.hid ⟨hS6, by rw [hlen, butL_succ, List.map_append, HM.out, ← HLi.out, HV.out]; rfl, hB6⟩⟩
        case measure => simp [vInt]; omega
      · have hil : ¬ (i : Int) < (N : Int) := by omega
        obtain rfl : i = N := by omega
        have kq := KX.out.below hB KX.out.lt
        have HT := Lib.hid (And.intro (by rw [← hi] at hM; exact hM : L.map SubD.v = butL f i) hO.at)
        have HLi := Lib.hid hi
        have HB := Lib.hid bw
        have KQ := Lib.hid kq
        rw [← hi]
        clear hO hM hB hi bw HI0 HX KX
        have kqc := kq.cell
        go_upto_region 14 with fail
        have hwk : IntKind.i64.wrap ((kn : Int) + 1) = (kn : Int) + 1 := IntWalk.i64_in _ (by omega)
        have hwm : IntKind.i64.wrap ((kn : Int) - 1) = (kn : Int) - 1 := IntWalk.i64_in _ (by omega)
        have hw7 : IntKind.i64.wrap (7 * (kn : Int)) = 7 * (kn : Int) := IntWalk.i64_in _ (by omega)
        have HC := Lib.hid (fun lo hi W (hb : Below wr.heap.size wr W) => askC_any lo hi cl w.heap.size W ((KQ.out.below hb KQ.out.lt).cell 0) (KQ.out.below hb KQ.out.lt).lt hcl)
        clear kqc kq hz2 hlt hil hi9
        go_upto_region 15 with (go_at_call 37; first
          | ((with_reducible refine (HC.out 0 _ _ (Below.refl _ _)).mono ?_); rintro e wa ⟨Wa, ca, rfl, Qa, ha⟩)
          | ((with_reducible refine (HC.out ((kn : Int) + 1) _ _ ha).mono ?_); rintro e wb ⟨Wb, cb, rfl, Qb, hb'⟩))
        have hab := ha.trans (hb'.mono ha.size)
        have kA := (Blk.new wb #[.slice Wa 1 ca, .int .i64 1, .int .i64 (1 + cl), .int .i64 1] 25).alloc (.cells #[.slice Wb 1 cb, .int .i64 1, .int .i64 (1 + cl), .int .i64 1] 25)
        have kB := newAt' (wb.alloc (.cells #[.slice Wa 1 ca, .int .i64 1, .int .i64 (1 + cl), .int .i64 1] 25)) #[.slice Wb 1 cb, .int .i64 1, .int .i64 (1 + cl), .int .i64 1] 25 (g := wb.heap.size + 1) (by simp)
        have bz := ((Below.refl wb.heap.size wb).alloc (Nat.le_refl _) (.cells #[.slice Wa 1 ca, .int .i64 1, .int .i64 (1 + cl), .int .i64 1] 25)).alloc (by simp) (.cells #[.slice Wb 1 cb, .int .i64 1, .int .i64 (1 + cl), .int .i64 1] 25)
        have qa := Lib.hid (((Qa.out.imp (Q := fun b => b < wb.heap.size) (fun b hb _ => Nat.lt_of_lt_of_le hb hb'.size)).move (Fr.below hb')).move (Fr.below bz))
        have qb := Lib.hid ((Qb.out.imp (Q := fun b => b < wb.heap.size) (fun b hb _ => hb)).move (Fr.below bz))
        have HW := Lib.hid (hab.trans (bz.mono hab.size))
        clear ha hb' Qa Qb hab bz
        generalize hWW : (wb.alloc (.cells #[.slice Wa 1 ca, .int .i64 1, .int .i64 (1 + cl), .int .i64 1] 25)).alloc (.cells #[.slice Wb 1 cb, .int .i64 1, .int .i64 (1 + cl), .int .i64 1] 25) = WB at *
        clear hWW
        generalize hg1 : wb.heap.size + 1 = gB at *
        clear hg1
        generalize hg2 : wb.heap.size = gA at *
        clear hg2
        go_upto_region 16 with (go_at_call 37; (with_reducible refine (HC.out 1 _ _ HW.out).mono ?_); rintro e wf ⟨Wf, cf, rfl, Qf, hf'⟩)
        have kF := Blk.new wf #[.slice Wf 1 cf, .int .i64 1, .int .i64 (1 + cl), .int .i64 1] 25
        have bz := (Below.refl wf.heap.size wf).alloc (Nat.le_refl _) (.cells #[.slice Wf 1 cf, .int .i64 1, .int .i64 (1 + cl), .int .i64 1] 25)
        have hfz := hf'.trans (bz.mono hf'.size)
        have kA2 := kA.below hfz kA.lt
        have kB2 := kB.below hfz kB.lt
        have qa2 := Lib.hid (qa.out.move (Fr.below hfz))
        have qb2 := Lib.hid (qb.out.move (Fr.below hfz))
        have qf2 := Lib.hid (Qf.out.move (Fr.below bz))
        have HW2 := Lib.hid (HW.out.trans (hfz.mono HW.out.size))
        have hgA : gA < wf.heap.size := by have := kA.lt; have := hf'.size; omega
        have hgB : gB < wf.heap.size := by have := kB.lt; have := hf'.size; omega
        have hwf : wr.heap.size ≤ wf.heap.size := Nat.le_trans HW.out.size hf'.size
        clear kA kB qa qb Qf hf' hfz bz HW
        generalize hWW : wf.alloc (.cells #[.slice Wf 1 cf, .int .i64 1, .int .i64 (1 + cl), .int .i64 1] 25) = WF at *
        clear hWW
        generalize hg3 : wf.heap.size = gF at *
        clear hg3
        have hFl := kF.lt
        by_cases hk0 : kn = 0
        · have hlt0 : ¬ (0 : Int) < (kn : Int) := by omega
          have HK0 := Lib.hid hk0
          have hbf : (butF kn).wheres = [⟨0, 1, 0⟩] := by unfold butF qW; rw [if_pos hk0]
          have HQf : Hid (FlatP 3 wheC WF (fun _ => True) Wf (butF kn).wheres) := Lib.hid (by rw [hbf]; exact qf2.out.imp (fun _ _ _ => trivial))
          have HQa : Hid (FlatP 3 wheC WF (fun _ => True) Wa [⟨0, 0, (i : Int)⟩]) := Lib.hid (qa2.out.imp (fun _ _ _ => trivial))
          have HQb : Hid (FlatP 3 wheC WF (fun _ => True) Wb [⟨0, (kn : Int) + 1, 1000000⟩]) := Lib.hid (qb2.out.imp (fun _ _ _ => trivial))
          clear hk0 hbf qf2 qa2 qb2 HC
          go_upto_region 18 with fail
          have HBW : Hid (ButW f i kn cl L A2 Wa Wf Wb WF) := Lib.hid ⟨hN1.2, hkl, fun j hj => (HF.out j hj).2, hcl, HT.out.1, HT.out.2.later HW2.out, HQa.out.flat, HQf.out.flat, HQb.out.flat⟩
          have kGc := kF.cell
          have kAc := kA2.cell
          have kBc := kB2.cell
          have hBk := Blk.new WF #[.slice Wa 1 ca, .int .i64 1, .int .i64 (1 + cl), .int .i64 1, .slice Wf 1 cf, .int .i64 1, .int .i64 (1 + cl), .int .i64 1, .slice Wb 1 cb, .int .i64 1, .int .i64 (1 + cl), .int .i64 1] 25
          have bN := (Below.refl WF.heap.size WF).alloc (Nat.le_refl _) (.cells #[.slice Wa 1 ca, .int .i64 1, .int .i64 (1 + cl), .int .i64 1, .slice Wf 1 cf, .int .i64 1, .int .i64 (1 + cl), .int .i64 1, .slice Wb 1 cb, .int .i64 1, .int .i64 (1 + cl), .int .i64 1] 25)
          go_upto_region 19 with fail
          have HB19 := Lib.hid (HBW.out.later bN)
          have HW19 := Lib.hid (HB.out.trans ((HW2.out.trans (bN.mono HW2.out.size)).mono HB.out.size))
          have HKB := Lib.hid (kB2.alloc (.cells #[.slice Wa 1 ca, .int .i64 1, .int .i64 (1 + cl), .int .i64 1, .slice Wf 1 cf, .int .i64 1, .int .i64 (1 + cl), .int .i64 1, .slice Wb 1 cb, .int .i64 1, .int .i64 (1 + cl), .int .i64 1] 25))
          have HBk := Lib.hid hBk
          clear HBW kGc kAc kBc bN HQa HQf HQb hBk kF kA2 kB2 HT HF
          generalize hWW : WF.alloc (.cells #[.slice Wa 1 ca, .int .i64 1, .int .i64 (1 + cl), .int .i64 1, .slice Wf 1 cf, .int .i64 1, .int .i64 (1 + cl), .int .i64 1, .slice Wb 1 cb, .int .i64 1, .int .i64 (1 + cl), .int .i64 1] 25) = W19 at *
          clear hWW
          generalize hgq : WF.heap.size = gq at *
          clear hgq
          go_upto_region 20 with (go_at_call 16; (with_reducible refine (but_how HB19.out c2 ca cf cb gq HBk.out).mono ?_); rintro e wh ⟨Ah, ch, rfl, IH, hh⟩)
          obtain ⟨gh, oh, rfl, hgh, p0, p1, p2⟩ := ints3 IH.out
          clear IH
          go_upto_region 21 with (go_at_call 20; (with_reducible refine (but_hide (HB19.out.later hh) c2 ca cf cb gq (HBk.out.below hh HBk.out.lt)).mono ?_); rintro e wi ⟨Ai, mi, ci, rfl, hi'⟩)
          have hhi := hh.trans (hi'.mono hh.size)
          have kBi := HKB.out.below hhi HKB.out.lt
          have kBic := kBi.cell
          have hBd := Blk.new wi #[.slice Wb 1 cb, .int .i64 1, .int .i64 (1 + cl), .int .i64 1] 25
          have bD := (Below.refl wi.heap.size wi).alloc (Nat.le_refl _) (.cells #[.slice Wb 1 cb, .int .i64 1, .int .i64 (1 + cl), .int .i64 1] 25)
          have HBd := Lib.hid ((HB19.out.later hhi).later bD)
          have HW22 := Lib.hid (HW19.out.trans ((hhi.trans (bD.mono hhi.size)).mono HW19.out.size))
          have hib := hi'.trans (bD.mono hi'.size)
          have q0 := (hib.cell (p := ⟨gh, oh, none⟩) hgh).trans p0
          have q1 := (hib.cell (p := ⟨gh, oh + 1, none⟩) hgh).trans p1
          have q2 := (hib.cell (p := ⟨gh, oh + 2, none⟩) hgh).trans p2
          have hghi : gh < wi.heap.size + 1 := Nat.lt_of_lt_of_le hgh (by have := hi'.size; omega)
          have hw2 : IntKind.i64.wrap ((kn : Int) + 2) = (kn : Int) + 2 := IntWalk.i64_in _ (by omega)
          have hw71 : IntKind.i64.wrap (7 * ((kn : Int) + 1)) = 7 * ((kn : Int) + 1) := IntWalk.i64_in _ (by omega)
          have e0 : ((kn : Int) == 0) = true := by rw [HK0.out]; rfl
          rw [if_pos HK0.out] at q1
          have hd2 : ∀ (r : List Int), (if kn + 2 = i then [7 * ((kn : Int) + 1)] else []) = r → Hid (Calls Tryz.prog 19 #[.int .i64 2, .slice A2 i c2, .slice (some ⟨wi.heap.size, 0, none⟩) 1 1] (wi.alloc (.cells #[.slice Wb 1 cb, .int .i64 1, .int .i64 (1 + cl), .int .i64 1] 25)) fun e w' => ∃ A' c', e = .returned (.tuple #[.slice A' r.length c', .int .i64 0]) ∧ Hid (IntsAt w' w'.heap.size A' r) ∧ Below (wi.alloc (.cells #[.slice Wb 1 cb, .int .i64 1, .int .i64 (1 + cl), .int .i64 1] 25)).heap.size (wi.alloc (.cells #[.slice Wb 1 cb, .int .i64 1, .int .i64 (1 + cl), .int .i64 1] 25)) w') := fun r hr => Lib.hid (but_ded HBd.out c2 cb wi.heap.size hBd hr rfl)
          clear hh hi' hhi bD hib p0 p1 p2 HB19 HBk HKB hBd HBd
          by_cases hl1 : kn + 1 = i
          · have ed : ((kn : Int) + 2 == (i : Int)) = false := by rw [beq_eq_false_iff_ne]; omega
            have el : ((kn : Int) + 1 == (i : Int)) = true := by rw [beq_iff_eq]; omega
            have ll : ¬ (kn : Int) + 1 < (i : Int) := by omega
            rw [if_pos (by omega)] at q2
            have HD := hd2 [] (by rw [if_neg (by omega)])
            simp only [List.length_nil] at HD
            clear hd2 hl1
            go_upto_region 22 with (go_at_call 19; (with_reducible refine (HD.out).mono ?_); rintro e wd ⟨Ad, cd, rfl, ID, hd⟩; have r0 := (hd.cell (p := ⟨gh, oh, none⟩) (by simpa using hghi)).trans q0; have r1 := (hd.cell (p := ⟨gh, oh + 1, none⟩) (by simpa using hghi)).trans q1; have r2 := (hd.cell (p := ⟨gh, oh + 2, none⟩) (by simpa using hghi)).trans q2)
            have HWd := Lib.hid (HW22.out.trans (hd.mono HW22.out.size))
            clear HW22 hd HD q0 q1 q2 kBic kBi
            go_wp2_with fail
            go_ret
            exact ⟨ret_bool (by simp), HWd.out⟩
          · by_cases hl2 : kn + 2 = i
            · have ed : ((kn : Int) + 2 == (i : Int)) = true := by rw [beq_iff_eq]; omega
              have el : ((kn : Int) + 1 == (i : Int)) = false := by rw [beq_eq_false_iff_ne]; omega
              have ll : (kn : Int) + 1 < (i : Int) := by omega
              rw [if_neg (by omega)] at q2
              have HD := hd2 [7 * ((kn : Int) + 1)] (by rw [if_pos (by omega)])
              simp only [List.length_cons, List.length_nil] at HD
              clear hd2 hl1 hl2
              go_upto_region 22 with (go_at_call 19; (with_reducible refine (HD.out).mono ?_); rintro e wd ⟨Ad, cd, rfl, ID, hd⟩; have r0 := (hd.cell (p := ⟨gh, oh, none⟩) (by simpa using hghi)).trans q0; have r1 := (hd.cell (p := ⟨gh, oh + 1, none⟩) (by simpa using hghi)).trans q1; have r2 := (hd.cell (p := ⟨gh, oh + 2, none⟩) (by simpa using hghi)).trans q2)
              have HWd := Lib.hid (HW22.out.trans (hd.mono HW22.out.size))
              clear HW22 hd HD q0 q1 q2 kBic kBi
              have S1 := Lib.hid (fun (W : World) (h : IntsAt W W.heap.size Ad [7 * ((kn : Int) + 1)]) => (show Calls Tryz.prog 18 #[.slice Ad 1 cd, .slice (some ⟨W.heap.size, 0, none⟩) 1 1] (W.alloc (.cells #[.int .i64 (7 * ((kn : Int) + 1))] 3)) (fun e w' => e = .returned (.bool true) ∧ Below (W.alloc (.cells #[.int .i64 (7 * ((kn : Int) + 1))] 3)).heap.size (W.alloc (.cells #[.int .i64 (7 * ((kn : Int) + 1))] 3)) w') from same_lit [7 * ((kn : Int) + 1)] Ad cd 1 _ W h (by simp) rfl))
              go_wp2_with (go_at_call 18; (with_reducible refine (S1.out _ ID.out).mono ?_); rintro e ws ⟨rfl, hs⟩; have hs2 := ((Below.refl wd.heap.size wd).alloc (Nat.le_refl _) (.cells #[.int .i64 (7 * ((kn : Int) + 1))] 3)).trans (hs.mono (by simp)))
              go_ret
              exact ⟨ret_bool (by simp), HWd.out.trans (hs2.mono HWd.out.size)⟩
            · have ed : ((kn : Int) + 2 == (i : Int)) = false := by rw [beq_eq_false_iff_ne]; omega
              have el : ((kn : Int) + 1 == (i : Int)) = false := by rw [beq_eq_false_iff_ne]; omega
              have ll : (kn : Int) + 1 < (i : Int) := by omega
              rw [if_neg (by omega)] at q2
              have HD := hd2 [] (by rw [if_neg (by omega)])
              simp only [List.length_nil] at HD
              clear hd2 hl1 hl2
              go_upto_region 22 with (go_at_call 19; (with_reducible refine (HD.out).mono ?_); rintro e wd ⟨Ad, cd, rfl, ID, hd⟩; have r0 := (hd.cell (p := ⟨gh, oh, none⟩) (by simpa using hghi)).trans q0; have r1 := (hd.cell (p := ⟨gh, oh + 1, none⟩) (by simpa using hghi)).trans q1; have r2 := (hd.cell (p := ⟨gh, oh + 2, none⟩) (by simpa using hghi)).trans q2)
              have HWd := Lib.hid (HW22.out.trans (hd.mono HW22.out.size))
              clear HW22 hd HD q0 q1 q2 kBic kBi
              go_wp2_with fail
              go_ret
              exact ⟨ret_bool (by simp), HWd.out⟩
        · have hlt0 : (0 : Int) < (kn : Int) := by omega
          have HK0 := Lib.hid hk0
          have hbf : (butF kn).wheres = [⟨0, 0, (kn : Int) - 1⟩] := by unfold butF qW; rw [if_neg hk0]
          clear hk0
          go_upto_region 18 with (go_at_call 37; (with_reducible refine (HC.out 0 _ _ HW2.out).mono ?_); rintro e w4 ⟨Wg, cg, rfl, Qg, hg'⟩; have kF4 := kF.below hg' kF.lt; have kF4c := kF4.cell; have kF4f := kF4.free)
          have kG : Blk ((((w4.setCell ⟨gF, 0, none⟩ (.slice Wg 1 cg)).setCell ⟨gF, 1, none⟩ (.int .i64 1)).setCell ⟨gF, 2, none⟩ (.int .i64 (1 + cl))).setCell ⟨gF, 3, none⟩ (.int .i64 1)) gF #[.slice Wg 1 cg, .int .i64 1, .int .i64 (1 + cl), .int .i64 1] 25 := by simpa using (((kF4.set 0 (.slice Wg 1 cg)).set 1 (.int .i64 1)).set 2 (.int .i64 (1 + cl))).set 3 (.int .i64 1)
          have HQf : Hid (FlatP 3 wheC ((((w4.setCell ⟨gF, 0, none⟩ (.slice Wg 1 cg)).setCell ⟨gF, 1, none⟩ (.int .i64 1)).setCell ⟨gF, 2, none⟩ (.int .i64 (1 + cl))).setCell ⟨gF, 3, none⟩ (.int .i64 1)) (fun _ => True) Wg (butF kn).wheres) := Lib.hid (by
            rw [hbf]
            exact ((Qg.out.move ((((Fr.set (p := ⟨gF, 0, none⟩) (fun e => absurd (show WF.heap.size ≤ gF from e) (by omega)) (.slice Wg 1 cg)).trans (Fr.set (p := ⟨gF, 1, none⟩) (fun e => absurd (show WF.heap.size ≤ gF from e) (by omega)) (.int .i64 1))).trans (Fr.set (p := ⟨gF, 2, none⟩) (fun e => absurd (show WF.heap.size ≤ gF from e) (by omega)) (.int .i64 (1 + cl)))).trans (Fr.set (p := ⟨gF, 3, none⟩) (fun e => absurd (show WF.heap.size ≤ gF from e) (by omega)) (.int .i64 1))))).imp (fun _ _ _ => trivial))
          have kA3 : Blk ((((w4.setCell ⟨gF, 0, none⟩ (.slice Wg 1 cg)).setCell ⟨gF, 1, none⟩ (.int .i64 1)).setCell ⟨gF, 2, none⟩ (.int .i64 (1 + cl))).setCell ⟨gF, 3, none⟩ (.int .i64 1)) gA #[.slice Wa 1 ca, .int .i64 1, .int .i64 (1 + cl), .int .i64 1] 25 := ((((kA2.below hg' kA2.lt).far (p := ⟨gF, 0, none⟩) (by show gA ≠ gF; omega) _).far (p := ⟨gF, 1, none⟩) (by show gA ≠ gF; omega) _).far (p := ⟨gF, 2, none⟩) (by show gA ≠ gF; omega) _).far (p := ⟨gF, 3, none⟩) (by show gA ≠ gF; omega) _
          have kB3 : Blk ((((w4.setCell ⟨gF, 0, none⟩ (.slice Wg 1 cg)).setCell ⟨gF, 1, none⟩ (.int .i64 1)).setCell ⟨gF, 2, none⟩ (.int .i64 (1 + cl))).setCell ⟨gF, 3, none⟩ (.int .i64 1)) gB #[.slice Wb 1 cb, .int .i64 1, .int .i64 (1 + cl), .int .i64 1] 25 := ((((kB2.below hg' kB2.lt).far (p := ⟨gF, 0, none⟩) (by show gB ≠ gF; omega) _).far (p := ⟨gF, 1, none⟩) (by show gB ≠ gF; omega) _).far (p := ⟨gF, 2, none⟩) (by show gB ≠ gF; omega) _).far (p := ⟨gF, 3, none⟩) (by show gB ≠ gF; omega) _
          have HQa : Hid (FlatP 3 wheC ((((w4.setCell ⟨gF, 0, none⟩ (.slice Wg 1 cg)).setCell ⟨gF, 1, none⟩ (.int .i64 1)).setCell ⟨gF, 2, none⟩ (.int .i64 (1 + cl))).setCell ⟨gF, 3, none⟩ (.int .i64 1)) (fun _ => True) Wa [⟨0, 0, (i : Int)⟩]) := Lib.hid (((qa2.out.move (Fr.below hg')).move ((((Fr.set (p := ⟨gF, 0, none⟩) (fun e => absurd (show gF < gA from e) (by omega)) (.slice Wg 1 cg)).trans (Fr.set (p := ⟨gF, 1, none⟩) (fun e => absurd (show gF < gA from e) (by omega)) (.int .i64 1))).trans (Fr.set (p := ⟨gF, 2, none⟩) (fun e => absurd (show gF < gA from e) (by omega)) (.int .i64 (1 + cl)))).trans (Fr.set (p := ⟨gF, 3, none⟩) (fun e => absurd (show gF < gA from e) (by omega)) (.int .i64 1)))).imp (fun _ _ _ => trivial))
          have HQb : Hid (FlatP 3 wheC ((((w4.setCell ⟨gF, 0, none⟩ (.slice Wg 1 cg)).setCell ⟨gF, 1, none⟩ (.int .i64 1)).setCell ⟨gF, 2, none⟩ (.int .i64 (1 + cl))).setCell ⟨gF, 3, none⟩ (.int .i64 1)) (fun _ => True) Wb [⟨0, (kn : Int) + 1, 1000000⟩]) := Lib.hid (((qb2.out.move (Fr.below hg')).move ((((Fr.set (p := ⟨gF, 0, none⟩) (fun e => absurd (show gF < gA from e) (by omega)) (.slice Wg 1 cg)).trans (Fr.set (p := ⟨gF, 1, none⟩) (fun e => absurd (show gF < gA from e) (by omega)) (.int .i64 1))).trans (Fr.set (p := ⟨gF, 2, none⟩) (fun e => absurd (show gF < gA from e) (by omega)) (.int .i64 (1 + cl)))).trans (Fr.set (p := ⟨gF, 3, none⟩) (fun e => absurd (show gF < gA from e) (by omega)) (.int .i64 1)))).imp (fun _ _ _ => trivial))
          have HW3 : Hid (Below wr.heap.size wr ((((w4.setCell ⟨gF, 0, none⟩ (.slice Wg 1 cg)).setCell ⟨gF, 1, none⟩ (.int .i64 1)).setCell ⟨gF, 2, none⟩ (.int .i64 (1 + cl))).setCell ⟨gF, 3, none⟩ (.int .i64 1))) := Lib.hid (((((HW2.out.trans (hg'.mono HW2.out.size)).setCell (p := ⟨gF, 0, none⟩) (by show wr.heap.size ≤ gF; omega) _).setCell (p := ⟨gF, 1, none⟩) (by show wr.heap.size ≤ gF; omega) _).setCell (p := ⟨gF, 2, none⟩) (by show wr.heap.size ≤ gF; omega) _).setCell (p := ⟨gF, 3, none⟩) (by show wr.heap.size ≤ gF; omega) _)
          clear kF4 kF4c kF4f hg' qa2 qb2 qf2 Qg kA2 kB2 kF HC hbf hFl
          generalize hWW : (((w4.setCell ⟨gF, 0, none⟩ (.slice Wg 1 cg)).setCell ⟨gF, 1, none⟩ (.int .i64 1)).setCell ⟨gF, 2, none⟩ (.int .i64 (1 + cl))).setCell ⟨gF, 3, none⟩ (.int .i64 1) = W18 at *
          clear hWW
          have HBW : Hid (ButW f i kn cl L A2 Wa Wg Wb W18) := Lib.hid ⟨hN1.2, hkl, fun j hj => (HF.out j hj).2, hcl, HT.out.1, HT.out.2.later HW3.out, HQa.out.flat, HQf.out.flat, HQb.out.flat⟩
          have kGc := kG.cell
          have kAc := kA3.cell
          have kBc := kB3.cell
          have hBk := Blk.new W18 #[.slice Wa 1 ca, .int .i64 1, .int .i64 (1 + cl), .int .i64 1, .slice Wg 1 cg, .int .i64 1, .int .i64 (1 + cl), .int .i64 1, .slice Wb 1 cb, .int .i64 1, .int .i64 (1 + cl), .int .i64 1] 25
          have bN := (Below.refl W18.heap.size W18).alloc (Nat.le_refl _) (.cells #[.slice Wa 1 ca, .int .i64 1, .int .i64 (1 + cl), .int .i64 1, .slice Wg 1 cg, .int .i64 1, .int .i64 (1 + cl), .int .i64 1, .slice Wb 1 cb, .int .i64 1, .int .i64 (1 + cl), .int .i64 1] 25)
          go_upto_region 19 with fail
          have HB19 := Lib.hid (HBW.out.later bN)
          have HW19 := Lib.hid (HB.out.trans ((HW3.out.trans (bN.mono HW3.out.size)).mono HB.out.size))
          have HKB := Lib.hid (kB3.alloc (.cells #[.slice Wa 1 ca, .int .i64 1, .int .i64 (1 + cl), .int .i64 1, .slice Wg 1 cg, .int .i64 1, .int .i64 (1 + cl), .int .i64 1, .slice Wb 1 cb, .int .i64 1, .int .i64 (1 + cl), .int .i64 1] 25))
          have HBk := Lib.hid hBk
          clear HBW kGc kAc kBc bN HQa HQf HQb hBk kG kA3 kB3 HT HF
          generalize hWW : W18.alloc (.cells #[.slice Wa 1 ca, .int .i64 1, .int .i64 (1 + cl), .int .i64 1, .slice Wg 1 cg, .int .i64 1, .int .i64 (1 + cl), .int .i64 1, .slice Wb 1 cb, .int .i64 1, .int .i64 (1 + cl), .int .i64 1] 25) = W19 at *
          clear hWW
          generalize hgq : W18.heap.size = gq at *
          clear hgq
          go_upto_region 20 with (go_at_call 16; (with_reducible refine (but_how HB19.out c2 ca cg cb gq HBk.out).mono ?_); rintro e wh ⟨Ah, ch, rfl, IH, hh⟩)
          obtain ⟨gh, oh, rfl, hgh, p0, p1, p2⟩ := ints3 IH.out
          clear IH
          go_upto_region 21 with (go_at_call 20; (with_reducible refine (but_hide (HB19.out.later hh) c2 ca cg cb gq (HBk.out.below hh HBk.out.lt)).mono ?_); rintro e wi ⟨Ai, mi, ci, rfl, hi'⟩)
          have hhi := hh.trans (hi'.mono hh.size)
          have kBi := HKB.out.below hhi HKB.out.lt
          have kBic := kBi.cell
          have hBd := Blk.new wi #[.slice Wb 1 cb, .int .i64 1, .int .i64 (1 + cl), .int .i64 1] 25
          have bD := (Below.refl wi.heap.size wi).alloc (Nat.le_refl _) (.cells #[.slice Wb 1 cb, .int .i64 1, .int .i64 (1 + cl), .int .i64 1] 25)
          have HBd := Lib.hid ((HB19.out.later hhi).later bD)
          have HW22 := Lib.hid (HW19.out.trans ((hhi.trans (bD.mono hhi.size)).mono HW19.out.size))
          have hib := hi'.trans (bD.mono hi'.size)
          have q0 := (hib.cell (p := ⟨gh, oh, none⟩) hgh).trans p0
          have q1 := (hib.cell (p := ⟨gh, oh + 1, none⟩) hgh).trans p1
          have q2 := (hib.cell (p := ⟨gh, oh + 2, none⟩) hgh).trans p2
          have hghi : gh < wi.heap.size + 1 := Nat.lt_of_lt_of_le hgh (by have := hi'.size; omega)
          have hw2 : IntKind.i64.wrap ((kn : Int) + 2) = (kn : Int) + 2 := IntWalk.i64_in _ (by omega)
          have hw71 : IntKind.i64.wrap (7 * ((kn : Int) + 1)) = 7 * ((kn : Int) + 1) := IntWalk.i64_in _ (by omega)
          have e0 : ((kn : Int) == 0) = false := by have := HK0.out; rw [beq_eq_false_iff_ne]; omega
          rw [if_neg HK0.out] at q1
          have hd2 : ∀ (r : List Int), (if kn + 2 = i then [7 * ((kn : Int) + 1)] else []) = r → Hid (Calls Tryz.prog 19 #[.int .i64 2, .slice A2 i c2, .slice (some ⟨wi.heap.size, 0, none⟩) 1 1] (wi.alloc (.cells #[.slice Wb 1 cb, .int .i64 1, .int .i64 (1 + cl), .int .i64 1] 25)) fun e w' => ∃ A' c', e = .returned (.tuple #[.slice A' r.length c', .int .i64 0]) ∧ Hid (IntsAt w' w'.heap.size A' r) ∧ Below (wi.alloc (.cells #[.slice Wb 1 cb, .int .i64 1, .int .i64 (1 + cl), .int .i64 1] 25)).heap.size (wi.alloc (.cells #[.slice Wb 1 cb, .int .i64 1, .int .i64 (1 + cl), .int .i64 1] 25)) w') := fun r hr => Lib.hid (but_ded HBd.out c2 cb wi.heap.size hBd hr rfl)
          clear hh hi' hhi bD hib p0 p1 p2 HB19 HBk HKB hBd HBd
          by_cases hl1 : kn + 1 = i
          · have ed : ((kn : Int) + 2 == (i : Int)) = false := by rw [beq_eq_false_iff_ne]; omega
            have el : ((kn : Int) + 1 == (i : Int)) = true := by rw [beq_iff_eq]; omega
            have ll : ¬ (kn : Int) + 1 < (i : Int) := by omega
            rw [if_pos (by omega)] at q2
            have HD := hd2 [] (by rw [if_neg (by omega)])
            simp only [List.length_nil] at HD
            clear hd2 hl1
            go_upto_region 22 with (go_at_call 19; (with_reducible refine (HD.out).mono ?_); rintro e wd ⟨Ad, cd, rfl, ID, hd⟩; have r0 := (hd.cell (p := ⟨gh, oh, none⟩) (by simpa using hghi)).trans q0; have r1 := (hd.cell (p := ⟨gh, oh + 1, none⟩) (by simpa using hghi)).trans q1; have r2 := (hd.cell (p := ⟨gh, oh + 2, none⟩) (by simpa using hghi)).trans q2)
            have HWd := Lib.hid (HW22.out.trans (hd.mono HW22.out.size))
            clear HW22 hd HD q0 q1 q2 kBic kBi
            go_wp2_with fail
            go_ret
            exact ⟨ret_bool (by simp), HWd.out⟩
          · by_cases hl2 : kn + 2 = i
            · have ed : ((kn : Int) + 2 == (i : Int)) = true := by rw [beq_iff_eq]; omega
              have el : ((kn : Int) + 1 == (i : Int)) = false := by rw [beq_eq_false_iff_ne]; omega
              have ll : (kn : Int) + 1 < (i : Int) := by omega
              rw [if_neg (by omega)] at q2
              have HD := hd2 [7 * ((kn : Int) + 1)] (by rw [if_pos (by omega)])
              simp only [List.length_cons, List.length_nil] at HD
              clear hd2 hl1 hl2
              go_upto_region 22 with (go_at_call 19; (with_reducible refine (HD.out).mono ?_); rintro e wd ⟨Ad, cd, rfl, ID, hd⟩; have r0 := (hd.cell (p := ⟨gh, oh, none⟩) (by simpa using hghi)).trans q0; have r1 := (hd.cell (p := ⟨gh, oh + 1, none⟩) (by simpa using hghi)).trans q1; have r2 := (hd.cell (p := ⟨gh, oh + 2, none⟩) (by simpa using hghi)).trans q2)
              have HWd := Lib.hid (HW22.out.trans (hd.mono HW22.out.size))
              clear HW22 hd HD q0 q1 q2 kBic kBi
              have S1 := Lib.hid (fun (W : World) (h : IntsAt W W.heap.size Ad [7 * ((kn : Int) + 1)]) => (show Calls Tryz.prog 18 #[.slice Ad 1 cd, .slice (some ⟨W.heap.size, 0, none⟩) 1 1] (W.alloc (.cells #[.int .i64 (7 * ((kn : Int) + 1))] 3)) (fun e w' => e = .returned (.bool true) ∧ Below (W.alloc (.cells #[.int .i64 (7 * ((kn : Int) + 1))] 3)).heap.size (W.alloc (.cells #[.int .i64 (7 * ((kn : Int) + 1))] 3)) w') from same_lit [7 * ((kn : Int) + 1)] Ad cd 1 _ W h (by simp) rfl))
              go_wp2_with (go_at_call 18; (with_reducible refine (S1.out _ ID.out).mono ?_); rintro e ws ⟨rfl, hs⟩; have hs2 := ((Below.refl wd.heap.size wd).alloc (Nat.le_refl _) (.cells #[.int .i64 (7 * ((kn : Int) + 1))] 3)).trans (hs.mono (by simp)))
              go_ret
              exact ⟨ret_bool (by simp), HWd.out.trans (hs2.mono HWd.out.size)⟩
            · have ed : ((kn : Int) + 2 == (i : Int)) = false := by rw [beq_eq_false_iff_ne]; omega
              have el : ((kn : Int) + 1 == (i : Int)) = false := by rw [beq_eq_false_iff_ne]; omega
              have ll : (kn : Int) + 1 < (i : Int) := by omega
              rw [if_neg (by omega)] at q2
              have HD := hd2 [] (by rw [if_neg (by omega)])
              simp only [List.length_nil] at HD
              clear hd2 hl1 hl2
              go_upto_region 22 with (go_at_call 19; (with_reducible refine (HD.out).mono ?_); rintro e wd ⟨Ad, cd, rfl, ID, hd⟩; have r0 := (hd.cell (p := ⟨gh, oh, none⟩) (by simpa using hghi)).trans q0; have r1 := (hd.cell (p := ⟨gh, oh + 1, none⟩) (by simpa using hghi)).trans q1; have r2 := (hd.cell (p := ⟨gh, oh + 2, none⟩) (by simpa using hghi)).trans q2)
              have HWd := Lib.hid (HW22.out.trans (hd.mono HW22.out.size))
              clear HW22 hd HD q0 q1 q2 kBic kBi
              go_wp2_with fail
              go_ret
              exact ⟨ret_bool (by simp), HWd.out⟩
end Go.Proofs.YtbkekdbabkncfaaGreat
