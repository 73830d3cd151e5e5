/- Last, by the program, where its two callees do what they should. -/
import Derived.Test.YtkpaikampmeooaaGreatDoorTCardP8
import Derived.Test.YtkpaikampmeooaaGreatDoorTCardP5
import Derived.Test.YtkpaikampmeooaaGreatDoorTCardP9
import Derived.Test.YtkpaikampmeooaaGreatDoorTCardP6
import Derived.Test.YtkpaikampmeooaaGreatDoorTLastP
import Derived.Test.YtkpaikampmeooaaGreatDoorTOpen2
import Derived.Test.YtkpaikampmeooaaGreatDoorRows
import Derived.Test.YtkpaikampmeooaaGreatDoorAChkP
import Derived.Test.YtkpaikampmeooaaGreatDoorTCardP2
import Derived.Deep.Strs
import Derived.Lib.SmallJoins
import Derived.ProofKit
import Derived.OpenShut
import Derived.LaidMore
import Derived.Test.YtkpaikampmeooaaGreatDoorTCardP3

namespace Go.Proofs.YtkpaikampmeooaaGreatDoor
open Go.RowKit Go.Maps

set_option maxRecDepth 100000 in
set_option maxHeartbeats 4000000 in
theorem lastT_walk {l : List LawT} {s : List StillT} {homes : List HomeT} {rl : List Rep} (hw : BurWf l s homes rl) (A S H R : Option Addr) (c cs ch cr : Nat) (id day : Int) (w : World) (h : BurAt w w.heap.size A S H R l s homes rl) (hN : NeedsAt w)
    (hO : err4 l s homes rl day = 0 → ∀ W, Below w.heap.size w W → OpenOk l s homes rl A S H R c cs ch cr day W) (hL : err4 l s homes rl day = 0 → LastOk l homes (standR rl day)) :
    Calls Tryz.prog 6 #[.agg #[.slice A l.length c, .slice S s.length cs], .slice H homes.length ch, .slice R rl.length cr, .int .i64 id, .int .i64 day] w fun e w' => e = .returned (.tuple #[.int .i64 (lastN l s homes rl id day), .int .i64 (lastE l s homes rl id day)]) ∧ Below w.heap.size w w' := by
  have b1 := ((Below.refl w.heap.size w).alloc (Nat.le_refl _) (.cells #[.slice A l.length c, .slice S s.length cs] 25)).alloc (by simp) (.cells #[.int .i64 id] 3)
  have k2 := Blk.new (w.alloc (.cells #[.slice A l.length c, .slice S s.length cs] 25)) #[.int .i64 id] 3
  simp only [World.size_alloc] at k2
  have g2 := k2.lt
  by_cases he : err4 l s homes rl day = 0
  · have HO := Lib.hid (hO he _ b1)
    have HL := Lib.hid (hL he)
    have HF := Lib.hid (standR_ok rl day)
    have HV : Hid (lastN l s homes rl id day = (lastT l homes (standR rl day) id).getD 0 ∧ lastE l s homes rl id day = (if (lastT l homes (standR rl day) id).isSome = true then 0 else 6)) := Lib.hid (by unfold lastN lastE; rw [he]; exact ⟨rfl, rfl⟩)
    have HLT : Hid (∀ facts, lastT l homes facts id = (atR facts id).bind fun r => lastV l homes facts r) := Lib.hid (fun _ => rfl)
    unfold OpenOk at HO
    clear h hN he hw hO hL
    generalize standR rl day = facts at *
    generalize lastN l s homes rl id day = rn at *
    generalize lastE l s homes rl id day = re at *
    have hf60 := HF.out.len
    have hfl : facts.length ≤ maxLen := max1000 (by omega)
    go_enter Tryz.func6, Tryz.ntmps6
    go_upto_region 4 with (go_at_call 15; (with_reducible refine (HO.out).mono ?_); rintro e w2 ⟨m, n, p, q, F, cf, rfl, hM, h2⟩)
    have b2 := b1.trans (h2.mono b1.size)
    have bx := b2.alloc b2.size (.cells #[.slice A l.length c, .slice S s.length cs, .int .i64 day, .slice F facts.length cf, .map (some m), landFn p, .nilFunc, .func (.func 58) #[] #[], .func (.func 59) #[] #[], .func (.func 60) #[] #[.pointer (some ⟨q, 0, none⟩)]] 51)
    have kx := Blk.new w2 #[.slice A l.length c, .slice S s.length cs, .int .i64 day, .slice F facts.length cf, .map (some m), landFn p, .nilFunc, .func (.func 58) #[] #[], .func (.func 59) #[] #[], .func (.func 60) #[] #[.pointer (some ⟨q, 0, none⟩)]] 51
    have hM2 := hM.below ((Below.refl w2.heap.size w2).alloc (Nat.le_refl _) (.cells #[.slice A l.length c, .slice S s.length cs, .int .i64 day, .slice F facts.length cf, .map (some m), landFn p, .nilFunc, .func (.func 58) #[] #[], .func (.func 59) #[] #[], .func (.func 60) #[] #[.pointer (some ⟨q, 0, none⟩)]] 51))
    have k2x := (k2.below h2 g2).alloc (.cells #[.slice A l.length c, .slice S s.length cs, .int .i64 day, .slice F facts.length cf, .map (some m), landFn p, .nilFunc, .func (.func 58) #[] #[], .func (.func 59) #[] #[], .func (.func 60) #[] #[.pointer (some ⟨q, 0, none⟩)]] 51)
    clear hM h2 k2 g2 b2 b1
    generalize hW2 : w2.alloc (.cells #[.slice A l.length c, .slice S s.length cs, .int .i64 day, .slice F facts.length cf, .map (some m), landFn p, .nilFunc, .func (.func 58) #[] #[], .func (.func 59) #[] #[], .func (.func 60) #[] #[.pointer (some ⟨q, 0, none⟩)]] 51) = W2 at *
    clear hW2
    have kxc := kx.cell
    have gx := kx.lt
    have HI := Lib.hid (indexL_any facts F cf id (w.heap.size + 1) W2 hM2.reps (k2x.cell 0) k2x.lt (by omega))
    have HM := Lib.hid hM2
    clear hM2 k2x
    rcases ixR_cases facts id with ⟨hx, ha⟩ | ⟨k, hk, hx, ha⟩
    · rw [hx] at HI
      have HE : Hid (rn = 0 ∧ re = 6) := Lib.hid (by rw [HV.out.1, HV.out.2, HLT.out, ha]; exact ⟨rfl, rfl⟩)
      clear hx ha
      go_wp2_with (go_at_call 16; (with_reducible refine (HI.out).mono ?_); rintro e w4 ⟨rfl, h4⟩)
      go_ret2
      exact ⟨by rw [HE.out.1, HE.out.2]; rfl, bx.trans (h4.mono bx.size)⟩
    · rw [hx] at HI
      have hlk : (k : Int) < (facts.length : Int) := by omega
      have hk0 : ¬ (k : Int) < 0 := by omega
      have HE : Hid (rn = (lastV l homes facts facts[k]).getD 0 ∧ re = if (lastV l homes facts facts[k]).isSome = true then 0 else 6) := Lib.hid (by rw [HV.out.1, HV.out.2, HLT.out, ha]; exact ⟨rfl, rfl⟩)
      clear hx ha HV HLT
      go_upto_region 7 with (go_at_call 16; (with_reducible refine (HI.out).mono ?_); rintro e w4 ⟨rfl, h4⟩)
      have b4 := bx.trans (h4.mono bx.size)
      have hM4 := HM.out.below h4
      have kx4 := kx.below h4 gx
      obtain ⟨b, off, rfl, hb, C⟩ := hM4.reps.eight hk
      have HLa : Hid (∀ x : After w4.heap.size w4, Calls Tryz.prog 18 #[.agg #[.slice A l.length c, .slice S s.length cs, .int .i64 day, .slice (some ⟨b, off, none⟩) facts.length cf, .map (some m), landFn p, .nilFunc, .func (.func 58) #[] #[], .func (.func 59) #[] #[], .func (.func 60) #[] #[.pointer (some ⟨q, 0, none⟩)]], .agg #[.int .i64 facts[k].id, .int .i64 facts[k].src, .int .i64 facts[k].acc, .int .i64 facts[k].made, .int .i64 facts[k].about, .int .u8 facts[k].kind, .int .i64 facts[k].cents, .int .i64 facts[k].of_]] x.val fun e w' => e = .returned (.tuple #[.int .i64 ((lastV l homes facts facts[k]).getD 0), .bool (lastV l homes facts facts[k]).isSome]) ∧ Below x.val.heap.size x.val w') :=
        Lib.hid (fun x => HL.out _ _ _ _ m n p q _ cf facts[k] x.val (hM4.below x.property) (List.getElem_mem hk))
      have d0 := After.cell (B := w4.heap.size) C.c0 hb
      have d1 := After.cell (B := w4.heap.size) C.c1 hb
      have d2 := After.cell (B := w4.heap.size) C.c2 hb
      have d3 := After.cell (B := w4.heap.size) C.c3 hb
      have d4 := After.cell (B := w4.heap.size) C.c4 hb
      have d5 := After.cell (B := w4.heap.size) C.c5 hb
      have d6 := After.cell (B := w4.heap.size) C.c6 hb
      have d7 := After.cell (B := w4.heap.size) C.c7 hb
      have kxa := After.cells (B := w4.heap.size) kx4.cell kx4.lt
      clear C hM4 kx4 kxc kx HI HL HF
      generalize lastV l homes facts facts[k] = V at *
      refine wp_region_class_lit (C := fun w' => ∃ z : After w4.heap.size w4, w' = z.val) (by kernel_rfl) (by kernel_rfl) ⟨⟨_, (Below.refl _ _).drew⟩, rfl⟩ ?_
      repeat (go_big_quiet_step ((go_at_call 18; with_reducible exact after_of (Nat.le_refl _) _ (HLa.out _))))
      refine wpQuiet_nil ?_
      intro wq hw'
      obtain ⟨⟨wz, hz⟩, hw''⟩ := hw'
      dsimp only at hw''
      subst hw''
      clear d0 d1 d2 d3 d4 d5 d6 d7 kxa HLa
      cases V with
      | none =>
        go_wp2_with fail
        go_ret2
        exact ⟨by rw [HE.out.1, HE.out.2]; rfl, b4.trans (hz.mono b4.size)⟩
      | some z =>
        go_wp2_with fail
        go_ret2
        exact ⟨by rw [HE.out.1, HE.out.2]; rfl, b4.trans (hz.mono b4.size)⟩
  · have HO := Lib.hid (open_bad hw A S H R c cs ch cr day _ (h.later b1) (hN.later b1) he)
    have HE : Hid (lastN l s homes rl id day = 0 ∧ lastE l s homes rl id day = err4 l s homes rl day) := Lib.hid (by unfold lastN lastE; rw [if_neg he, if_neg he]; exact ⟨rfl, rfl⟩)
    have hc0 : (err4 l s homes rl day != 0) = true := by simpa using he
    clear h hN he hw hO hL k2 g2
    generalize err4 l s homes rl day = z at *
    go_enter Tryz.func6, Tryz.ntmps6
    go_wp2_with (go_at_call 15; (with_reducible refine (HO.out).mono ?_); rintro e w2 ⟨rfl, h2⟩)
    have b2 := b1.trans (h2.mono b1.size)
    go_ret2
    exact ⟨by rw [HE.out.1, HE.out.2]; rfl, b2.alloc b2.size _⟩
end Go.Proofs.YtkpaikampmeooaaGreatDoor

namespace Go.Proofs.YtkpaikampmeooaaGreatDoor
open Go.RowKit Go.Maps

/-- The numbers found so far, in order. -/
structure GoneAt (B : Nat) (w W : World) (A : Option Addr) (c n : Nat) (tl ml : List Int) : Prop where
  row : IW B w W A c n tl ml
  sorted : ml.Pairwise (· ≤ ·)
theorem gone_skip {laws : List LawT} {homes : List HomeT} {facts : List Rep} {day : Int} {i : Nat} (h : i < facts.length) (hg : goneB laws homes facts day facts[i] = false) : goneI laws homes facts (facts.take (i + 1)) day = goneI laws homes facts (facts.take i) day := by
  rw [List.take_succ_eq_append_getElem h, goneI_snoc, hg]; simp
theorem gone_put {laws : List LawT} {homes : List HomeT} {facts : List Rep} {day : Int} {i : Nat} (h : i < facts.length) (hg : goneB laws homes facts day facts[i] = true) : goneI laws homes facts (facts.take (i + 1)) day = goneI laws homes facts (facts.take i) day ++ [facts[i].id] := by
  rw [List.take_succ_eq_append_getElem h, goneI_snoc, hg]; simp

set_option maxRecDepth 100000 in
set_option maxHeartbeats 4000000 in
theorem goneR_any {l : List LawT} {s : List StillT} {homes : List HomeT} {rl : List Rep} (hw : BurWf l s homes rl) (A S H R : Option Addr) (c cs ch cr : Nat) (day : Int) (w : World) (h : BurAt w w.heap.size A S H R l s homes rl) :
    Calls Tryz.prog 9 #[.agg #[.slice A l.length c, .slice S s.length cs], .slice H homes.length ch, .slice R rl.length cr, .int .i64 day] w fun e w' => ∃ v, e = .returned (.tuple #[v, .int .i64 (err4 l s homes rl day)]) ∧ w'.ownsRow w.heap.size 3 1 v (goneR l s homes rl day).length (intCells (goneR l s homes rl day)) ∧ Below w.heap.size w w' := by
  have b1 := (Below.refl w.heap.size w).alloc (Nat.le_refl _) (.cells #[.slice A l.length c, .slice S s.length cs] 25)
  have k1 := Blk.new w #[.slice A l.length c, .slice S s.length cs] 25
  have HA := Lib.hid (fun W hb => asked4_any hw A S H R c cs ch cr W (h.later hb))
  have HWi := Lib.hid (fun W => within4_any day 0 100000 W)
  by_cases hz : asked4 l s homes rl = 0
  · rw [hz] at HA
    cases hd : inN day 0 100000 with
    | false =>
      rw [hd] at HWi
      have he : err4 l s homes rl day = 2 := by unfold err4; rw [if_pos hz, hd]; rfl
      have HV : Hid (err4 l s homes rl day = 2 ∧ goneR l s homes rl day = []) := Lib.hid (by unfold goneR; rw [he]; exact ⟨rfl, rfl⟩)
      clear h hw hz hd he k1
      go_enter Tryz.func9, Tryz.ntmps9
      go_wp2_with (first
        | (go_at_call 19; (with_reducible refine (HA.out _ b1).mono ?_); rintro e w1 ⟨rfl, h1⟩)
        | (go_at_call 20; (with_reducible refine (HWi.out _).mono ?_); rintro e w2 ⟨rfl, rfl⟩))
      go_ret2
      exact ⟨_, by rw [HV.out.1]; rfl, by rw [HV.out.2]; exact World.ownsRow_nil _ _ _ _, b1.trans (h1.mono b1.size)⟩
    | true =>
      rw [hd] at HWi
      have he : err4 l s homes rl day = 0 := by unfold err4; rw [if_pos hz, hd]; rfl
      obtain ⟨⟨hv1, hv2, hv3⟩, hv4, _⟩ := err4_zero.1 he
      have HKp := Lib.hid (laws_keep hv1)
      have HV : Hid (err4 l s homes rl day = 0 ∧ goneR l s homes rl day = goneL l homes (standR rl day) day) := Lib.hid (by unfold goneR; rw [he]; exact ⟨rfl, rfl⟩)
      have HF := Lib.hid (standR_ok rl day)
      have HS := Lib.hid (fun W hb => standing3F_any rl R cr day W (h.later hb).reps hw.nReps hw.repWf)
      have Hw := Lib.hid hw
      have Hh := Lib.hid h
      clear h hw hz hd he hv1 hv2 hv3 hv4
      generalize standR rl day = facts at *
      generalize goneR l s homes rl day = gr at *
      generalize err4 l s homes rl day = ee at *
      generalize standE rl day = se at *
      have hf60 := HF.out.len
      have hfl : facts.length ≤ maxLen := max1000 (by omega)
      go_enter Tryz.func9, Tryz.ntmps9
      go_upto_region 7 with (first
        | (go_at_call 19; (with_reducible refine (HA.out _ b1).mono ?_); rintro e w1 ⟨rfl, h1⟩; have b2 := b1.trans (h1.mono b1.size); have k2 := k1.below h1 k1.lt)
        | (go_at_call 20; (with_reducible refine (HWi.out _).mono ?_); rintro e w2 ⟨rfl, rfl⟩)
        | (go_at_call 21; (with_reducible refine (HS.out _ b2).mono ?_); rintro e w3 ⟨v3, rfl, o3, h3⟩; have b3 := b2.trans (h3.mono b2.size); have k3 := k2.below h3 k2.lt; obtain ⟨F, cf, rfl⟩ := own_slice o3; have F3 := reps_own o3))
      have b3s := b3.size
      clear k1 k2 h1 h3 o3 HA HWi HS b2
      have g3 := k3.lt
      have HF3 := Lib.hid F3
      go_wp2_with fail
      go_loopw [13, 14] (fun vv ii wr => ∃ (i n : Nat) (A2 : Option Addr) (c2 : Nat), i ≤ facts.length ∧ n ≤ i ∧ vv = .slice A2 n c2 ∧ ii = .int .i64 i ∧ Hid (∃ ml, GoneAt w3.heap.size w3 wr A2 c2 n (goneI l homes facts (facts.take i) day) ml)) (fun _ ii _ => facts.length - (vInt ii).toNat)
      case atStart => exact ⟨0, 0, none, 0, Nat.zero_le _, Nat.le_refl _, rfl, rfl, Lib.hid ⟨[], ⟨⟨rfl, List.Perm.refl _, World.ownsRow_nil _ _ _ _, Below.refl _ _⟩, List.Pairwise.nil⟩⟩⟩
      case round =>
        obtain ⟨i, n, A2, c2, hi, hni, rfl, rfl, hR⟩ := hrel
        obtain ⟨ml, hG⟩ := hR.out
        have hB := hG.row.bel
        by_cases hlt : i < facts.length
        · have hil : (i : Int) < (facts.length : Int) := by omega
          have F9 := HF3.out.later hB
          obtain ⟨b, off, rfl, hb, C⟩ := F9.eight hlt
          have hfr := HF.out.wf facts[i] (List.getElem_mem hlt)
          have hfa : ∀ r ∈ facts, 0 ≤ r.about ∧ r.about ≤ 100000 := fun r hr => (HF.out.wf r hr).about
          have b9 := b3.trans (hB.mono b3s)
          have hzB : w3.heap.size ≤ wr.heap.size := hB.size
          have k9 := k3.below hB g3
          have GS : Hid (∀ x : After wr.heap.size wr, Calls Tryz.prog 27 #[.agg #[.slice A l.length c, .slice S s.length cs], .slice H homes.length ch, .slice (some ⟨b, off, none⟩) facts.length cf, .agg #[.int .i64 facts[i].id, .int .i64 facts[i].src, .int .i64 facts[i].acc, .int .i64 facts[i].made, .int .i64 facts[i].about, .int .u8 facts[i].kind, .int .i64 facts[i].cents, .int .i64 facts[i].of_], .int .i64 day] x.val fun e w' => e = .returned (.bool (shownB l homes facts facts[i] day)) ∧ Below x.val.heap.size x.val w') :=
            Lib.hid (fun x => by
              have hx2 := b9.trans (x.property.mono b9.size)
              have h9 := Hh.out.later hx2
              exact shown4_any l A c (.slice S s.length cs) homes H ch facts _ cf facts[i] day x.val h9.laws h9.homes (F9.later x.property) (max1000 Hw.out.nLaws) (max1000 Hw.out.nHomes) hfl HKp.out ⟨hfr.about, hfr.made⟩ hfa)
          have HSk : Hid (goneB l homes facts day facts[i] = false → goneI l homes facts (facts.take (i + 1)) day = goneI l homes facts (facts.take i) day) := Lib.hid (gone_skip hlt)
          have HPu : Hid (goneB l homes facts day facts[i] = true → goneI l homes facts (facts.take (i + 1)) day = goneI l homes facts (facts.take i) day ++ [facts[i].id]) := Lib.hid (gone_put hlt)
          have HGB : Hid (goneB l homes facts day facts[i] = (decide (facts[i].about ≤ day) && !shownB l homes facts facts[i] day)) := Lib.hid rfl
          have d0 := After.cell (B := wr.heap.size) C.c0 hb
          have d1 := After.cell (B := wr.heap.size) C.c1 hb
          have d2 := After.cell (B := wr.heap.size) C.c2 hb
          have d3 := After.cell (B := wr.heap.size) C.c3 hb
          have d4 := After.cell (B := wr.heap.size) C.c4 hb
          have d5 := After.cell (B := wr.heap.size) C.c5 hb
          have d6 := After.cell (B := wr.heap.size) C.c6 hb
          have d7 := After.cell (B := wr.heap.size) C.c7 hb
          have k9c := After.cells (B := wr.heap.size) k9.cell k9.lt
          have C0 := Lib.hid C.c0
          have HGo := Lib.hid hG
          have HB9 := Lib.hid hB
          have Hb := Lib.hid hb
          clear hR hG F9 hfr hfa C k9 hB b9
          generalize goneB l homes facts day facts[i] = gb at *
          by_cases q1 : facts[i].about ≤ day
          · have e1 : decide (facts[i].about ≤ day) = true := decide_eq_true q1
            rw [e1, Bool.true_and] at HGB
            cases hq : shownB l homes facts facts[i] day with
            | true =>
              rw [hq] at GS HGB
              have HJ : Hid (goneI l homes facts (facts.take (i + 1)) day = goneI l homes facts (facts.take i) day) := Lib.hid (HSk.out HGB.out)
              clear hq HSk HPu HGB q1
              go_upto_region 11 with fail
              refine wp_region_class_lit (C := fun w' => ∃ z : After wr.heap.size wr, w' = z.val) (by kernel_rfl) (by kernel_rfl) ⟨⟨_, (Below.refl _ _).drew⟩, rfl⟩ ?_
              repeat (go_big_quiet_step ((go_at_call 27; with_reducible exact after_of (Nat.le_refl _) _ (GS.out _))))
              refine wpQuiet_nil ?_
              intro wq hw'
              obtain ⟨⟨wz, hz⟩, hw''⟩ := hw'
              dsimp only at hw''
              subst hw''
              clear d0 d1 d2 d3 d4 d5 d6 d7 k9c GS
              go_wp2_with fail
              go_roundw
              case rel => exact ⟨i + 1, n, A2, c2, by omega, by omega, rfl, by go_num, Lib.hid ⟨ml, ⟨by rw [HJ.out]; exact iw_below HGo.out.row hz hzB, HGo.out.sorted⟩⟩⟩
              case measure => simp [vInt]; omega
            | false =>
              rw [hq] at GS HGB
              have HJ : Hid (goneI l homes facts (facts.take (i + 1)) day = goneI l homes facts (facts.take i) day ++ [facts[i].id]) := Lib.hid (HPu.out HGB.out)
              clear hq HSk HPu HGB q1
              go_upto_region 11 with fail
              refine wp_region_class_lit (C := fun w' => ∃ z : After wr.heap.size wr, w' = z.val) (by kernel_rfl) (by kernel_rfl) ⟨⟨_, (Below.refl _ _).drew⟩, rfl⟩ ?_
              repeat (go_big_quiet_step ((go_at_call 27; with_reducible exact after_of (Nat.le_refl _) _ (GS.out _))))
              refine wpQuiet_nil ?_
              intro wq hw'
              obtain ⟨⟨wz, hz⟩, hw''⟩ := hw'
              dsimp only at hw''
              subst hw''
              clear d0 d1 d2 d3 d4 d5 d6 d7 k9c GS
              have I2 := iw_below HGo.out.row hz hzB
              have c0q : wq.cell? ⟨b, off + i * 8, none⟩ = some (.int .i64 facts[i].id) := (hz.cell (p := ⟨b, off + i * 8, none⟩) Hb.out).trans C0.out
              have hml := I2.len
              have hzq : w3.heap.size ≤ wq.heap.size := I2.bel.size
              have HP := Lib.hid (put4_any w3.heap.size ml A2 c2 facts[i].id wq (by rw [hml]; exact I2.own) hzq (by omega) HGo.out.sorted)
              have HI2 := Lib.hid I2
              rw [hml] at HP
              clear I2 hz hml
              go_wp2_with (go_at_call 28; (with_reducible refine (HP.out).mono ?_); rintro e w5 ⟨A5, c5, rfl, hT5⟩)
              go_roundw
              case rel =>
                obtain ⟨ml5, hs5, hI5⟩ := hT5.out
                have hI2 := HI2.out
                exact ⟨i + 1, n + 1, A5, c5, by omega, by omega, rfl, by go_num, Lib.hid ⟨ml5, ⟨⟨hI5.len, by rw [HJ.out]; exact hI5.perm.trans (hI2.perm.append_right _), hI5.own, hI2.bel.trans hI5.bel⟩, hs5⟩⟩⟩
              case measure => simp [vInt]; omega
          · have e1 : decide (facts[i].about ≤ day) = false := decide_eq_false q1
            rw [e1, Bool.false_and] at HGB
            have HJ : Hid (goneI l homes facts (facts.take (i + 1)) day = goneI l homes facts (facts.take i) day) := Lib.hid (HSk.out HGB.out)
            clear HSk HPu HGB q1 GS
            go_upto_region 11 with fail
            refine wp_region_class_lit (C := fun w' => ∃ z : After wr.heap.size wr, w' = z.val) (by kernel_rfl) (by kernel_rfl) ⟨⟨_, (Below.refl _ _).drew⟩, rfl⟩ ?_
            repeat (go_big_quiet_step (fail))
            refine wpQuiet_nil ?_
            intro wq hw'
            obtain ⟨⟨wz, hz⟩, hw''⟩ := hw'
            dsimp only at hw''
            subst hw''
            clear d0 d1 d2 d3 d4 d5 d6 d7 k9c
            go_wp2_with fail
            go_roundw
            case rel => exact ⟨i + 1, n, A2, c2, by omega, by omega, rfl, by go_num, Lib.hid ⟨ml, ⟨by rw [HJ.out]; exact iw_below HGo.out.row hz hzB, HGo.out.sorted⟩⟩⟩
            case measure => simp [vInt]; omega
        · have hil : ¬ (i : Int) < (facts.length : Int) := by omega
          obtain rfl : i = facts.length := by omega
          have heq : ml = goneL l homes facts day := by
            have hp := hG.row.perm
            rw [List.take_length] at hp
            exact sort_eq hp hG.sorted
          subst heq
          have HG := Lib.hid hG
          clear hG hR
          go_wp2_with fail
          go_ret2
          have hR2 := HG.out.row
          have hn := hR2.len
          subst hn
          exact ⟨_, by rw [HV.out.1]; rfl, by rw [HV.out.2]; exact own_base hR2.own b3s, b3.trans (hB.mono b3s)⟩
  · have he : err4 l s homes rl day = asked4 l s homes rl := by unfold err4; rw [if_neg hz]
    have HV : Hid (err4 l s homes rl day = asked4 l s homes rl ∧ goneR l s homes rl day = []) := Lib.hid (by unfold goneR; rw [he, if_neg hz]; exact ⟨rfl, rfl⟩)
    have hc0 : (asked4 l s homes rl != 0) = true := by simpa using hz
    clear h hw hz he k1
    generalize asked4 l s homes rl = z at *
    go_enter Tryz.func9, Tryz.ntmps9
    go_wp2_with (go_at_call 19; (with_reducible refine (HA.out _ b1).mono ?_); rintro e w1 ⟨rfl, h1⟩)
    go_ret2
    exact ⟨_, by rw [HV.out.1]; rfl, by rw [HV.out.2]; exact World.ownsRow_nil _ _ _ _, b1.trans (h1.mono b1.size)⟩
end Go.Proofs.YtkpaikampmeooaaGreatDoor

namespace Go.Proofs.YtkpaikampmeooaaGreatDoor
open Go.RowKit Go.Maps

/-- What the program's Last and Gone answer. -/
def LastTOk (l : List LawT) (s : List StillT) (homes : List HomeT) (rl : List Rep) (id day : Int) : Prop :=
  ∀ (A S H R : Option Addr) (c cs ch cr : Nat) (W : World), BurAt W W.heap.size A S H R l s homes rl → NeedsAt W →
    Calls Tryz.prog 6 #[.agg #[.slice A l.length c, .slice S s.length cs], .slice H homes.length ch, .slice R rl.length cr, .int .i64 id, .int .i64 day] W fun e w' => e = .returned (.tuple #[.int .i64 (lastN l s homes rl id day), .int .i64 (lastE l s homes rl id day)]) ∧ Below W.heap.size W w'
def GoneTOk (l : List LawT) (s : List StillT) (homes : List HomeT) (rl : List Rep) (day : Int) : Prop :=
  ∀ (A S H R : Option Addr) (c cs ch cr : Nat) (W : World), BurAt W W.heap.size A S H R l s homes rl → NeedsAt W →
    Calls Tryz.prog 8 #[.agg #[.slice A l.length c, .slice S s.length cs], .slice H homes.length ch, .slice R rl.length cr, .int .i64 day] W fun e w' => ∃ A' c', e = .returned (.tuple #[.slice A' (goneR l s homes rl day).length c', .int .i64 (err4 l s homes rl day)]) ∧ Flat 1 intC w' w'.heap.size A' (goneR l s homes rl day) ∧ Below W.heap.size W w'
theorem goneR_len (l : List LawT) (s : List StillT) (homes : List HomeT) (rl : List Rep) (day : Int) : (goneR l s homes rl day).length ≤ 1000 := by
  unfold goneR
  split
  · exact Nat.le_trans (goneL_len _ _ _ (standR_ok rl day).len) (by omega)
  · simp

set_option maxRecDepth 100000 in
set_option maxHeartbeats 8000000 in
theorem termLasts_walk {l : List LawT} {s : List StillT} {homes : List HomeT} {rl : List Rep} (hlw : ∀ x ∈ l, LawWf x) (hsw : ∀ x ∈ s, StillWf x) (hhw : ∀ x ∈ homes, HomeWf x) (hrw : ∀ r ∈ rl, RepWf r) (A S H R : Option Addr) (c cs ch cr : Nat) (id day : Int) (w : World) (h : BurAt w w.heap.size A S H R l s homes rl) (hN : NeedsAt w)
    (hLT : BurWf l s homes rl → LastTOk l s homes rl id day) (hGT : BurWf l s homes rl → GoneTOk l s homes rl day) :
    Calls Tryz.prog 3 #[.agg #[.slice A l.length c, .slice S s.length cs], .slice H homes.length ch, .slice R rl.length cr, .int .i64 id, .int .i64 day] w fun e w' => e = .returned (.bool true) ∧ Below w.heap.size w w' := by
  have b1 := (Below.refl w.heap.size w).alloc (Nat.le_refl _) (.cells #[.slice A l.length c, .slice S s.length cs] 25)
  have k1 := Blk.new w #[.slice A l.length c, .slice S s.length cs] 25
  have HGr := Lib.hid (fun W => greatT_any A S H R l.length s.length homes.length rl.length c cs ch cr W)
  cases hg : greatT l.length s.length homes.length rl.length with
  | true =>
    rw [hg] at HGr
    clear h hN hLT hGT k1 hg
    go_enter Tryz.func3, Tryz.ntmps3
    go_wp2_with (go_at_call 4; (with_reducible refine (HGr.out _).mono ?_); rintro e w1 ⟨rfl, h1⟩)
    go_ret
    exact ⟨rfl, b1.trans (h1.mono b1.size)⟩
  | false =>
    rw [hg] at HGr
    have hlen : l.length ≤ 60 ∧ s.length ≤ 40 ∧ homes.length ≤ 80 ∧ rl.length ≤ 80 := by
      unfold greatT at hg
      simp only [Bool.or_eq_false_iff, decide_eq_false_iff_not] at hg
      omega
    obtain ⟨n1, n2, n3, n4⟩ := hlen
    have hw : BurWf l s homes rl := ⟨by omega, by omega, by omega, by omega, hlw, hsw, hhw, hrw⟩
    have HTw := Lib.hid (fun W hb => twin4_any l s A S c cs W ((h.later hb).laws) ((h.later hb).stills) hw.nLaws hw.nStills)
    have Hh := Lib.hid h
    have HN := Lib.hid hN
    have HL := Lib.hid (hLT hw)
    have HG := Lib.hid (hGT hw)
    have HLR := Lib.hid (fun W hb => lastR_any hw A S H R c cs ch cr id day W (h.later hb))
    have HGR := Lib.hid (fun W hb => goneR_any hw A S H R c cs ch cr day W (h.later hb))
    have HCR := Lib.hid (fun W hb => check4_any hw A S H R c cs ch W (h.later hb))
    have Hw := Lib.hid hw
    have hng := goneR_len l s homes rl day
    unfold LastTOk at HL
    unfold GoneTOk at HG
    obtain ⟨i0, hi0, hz0, hz1, hz2⟩ := info_parts homeInfo
    clear h hN hLT hGT hg hw hlw hsw hhw hrw
    have HCT := Lib.hid (fun A' S' H' c' cs' ch' W hh => checkT_any Hw.out A' S' H' R c' cs' ch' W hh)
    generalize goneR l s homes rl day = gr at *
    generalize lastN l s homes rl id day = ln at *
    generalize lastE l s homes rl id day = le at *
    generalize err4 l s homes rl day = er at *
    generalize check4V l s homes = cz at *
    go_enter Tryz.func3, Tryz.ntmps3
    go_upto_region 1 with fail
    generalize hW1 : w.alloc (.cells #[.slice A l.length c, .slice S s.length cs] 25) = W1 at *
    clear hW1
    have q1 := k1.lt
    have k1c := k1.cell
    go_upto_region 3 with (go_at_call 4; (with_reducible refine (HGr.out _).mono ?_); rintro e w1 ⟨rfl, h1⟩; have b2 := b1.trans (h1.mono b1.size); have k2 := k1.below h1 q1; have k2c := k2.cell)
    clear k1c k1
    go_upto_region 4 with (first
      | (go_at_call 5; (with_reducible refine (HTw.out _ b2).mono ?_); rintro e w2 ⟨A1, c1, S1, s1, rfl, hL1, hS1, h2⟩; have b3 := b2.trans (h2.mono b2.size); have k3 := k2.below h2 k2.lt; have hown0 := own_empty w2 83 2 w2.heap.size (Nat.le_refl _); have be := (Below.refl w2.heap.size w2).alloc (Nat.le_refl _) (.cells #[] 83); have h0 := (Hh.out.later (b3.alloc b3.size (.cells #[] 83))).homes)
      | (at_builtin; refine wpList_append_src _ rfl (.tmp 27) (.tmp 28) 26 rfl w2.heap.size 83 i0 _ 2 16 Tryz.underlying26 hi0 hz0 hz1 hz2 rfl (by decide) _ 0 [] rfl hown0 H homes.length ch (homes.flatMap homeC) rfl (flat_len homeC_len homes) (by rintro rfl; exact Hh.out.homes.none_) (h0.news homeC_len (by decide)) (flat_ones homeC_one homes) (by unfold maxLen; omega) (by omega) (by simp) ?_; intro v3 w3 hown3 hg3 _; rw [Nat.zero_add, List.nil_append] at hown3; obtain ⟨H1, ch1, rfl⟩ := own_slice hown3; have h3 : Below w2.heap.size w2 w3 := be.grown hg3 be.size (fun k e => (hown0.lt k e).1)))
    have b4 := b3.trans (h3.mono b3.size)
    have bx := b4.alloc b4.size (.cells #[.slice A1 l.length c1, .slice S1 s.length s1] 25)
    have kx := Blk.new w3 #[.slice A1 l.length c1, .slice S1 s.length s1] 25
    have k4 := (k3.below h3 k3.lt).alloc (.cells #[.slice A1 l.length c1, .slice S1 s.length s1] 25)
    have hbur : BurAt w3 w3.heap.size A1 S1 H1 R l s homes rl := ⟨hL1.later h3, hS1.later h3, Flat.of_own homeC_len (by decide) hown3, (Hh.out.later b4).reps⟩
    have hbur2 := hbur.later ((Below.refl w3.heap.size w3).alloc (Nat.le_refl _) (.cells #[.slice A1 l.length c1, .slice S1 s.length s1] 25))
    clear hbur hown3 hg3 hown0 h0 be hL1 hS1 h2 h3 b3 b4 k3 k2 k2c h1 b2
    generalize hW2 : w3.alloc (.cells #[.slice A1 l.length c1, .slice S1 s.length s1] 25) = W2 at *
    clear hW2
    have kxc := kx.cell
    have k4c := k4.cell
    have HB2 := Lib.hid hbur2
    clear hbur2
    go_upto_region 5 with (go_at_call 6; (with_reducible refine (HL.out A1 S1 H1 R c1 s1 ch1 cr _ HB2.out (HN.out.later bx)).mono ?_); rintro e w5 ⟨rfl, h5⟩; have b5 := bx.trans (h5.mono bx.size); have k5 := k4.below h5 k4.lt; have kx5 := kx.below h5 kx.lt; have k5c := k5.cell; have kx5c := kx5.cell; have HB5 := Lib.hid (HB2.out.later h5))
    clear kxc k4c
    go_upto_region 6 with (go_at_call 7; (with_reducible refine (HLR.out _ b5).mono ?_); rintro e w6 ⟨rfl, h6⟩; have b6 := b5.trans (h6.mono b5.size); have k6 := k5.below h6 k5.lt; have kx6 := kx5.below h6 kx5.lt; have k6c := k6.cell; have kx6c := kx6.cell; have HB6 := Lib.hid (HB5.out.later h6))
    clear k5c kx5c
    go_upto_region 7 with (go_at_call 8; (with_reducible refine (HG.out A1 S1 H1 R c1 s1 ch1 cr _ HB6.out (HN.out.later b6)).mono ?_); rintro e w7 ⟨A7, c7, rfl, f7, h7⟩; have b7 := b6.trans (h7.mono b6.size); have k7 := k6.below h7 k6.lt; have kx7 := kx6.below h7 kx6.lt; have k7c := k7.cell; have kx7c := kx7.cell; have HB7 := Lib.hid (HB6.out.later h7))
    clear k6c kx6c
    go_upto_region 8 with (go_at_call 9; (with_reducible refine (HGR.out _ b7).mono ?_); rintro e w8 ⟨v8, rfl, o8, h8⟩; obtain ⟨A8, c8, rfl⟩ := own_slice o8; have b8 := b7.trans (h8.mono b7.size); have k8 := k7.below h8 k7.lt; have kx8 := kx7.below h8 kx7.lt; have HB8 := Lib.hid (HB7.out.later h8); have f78 := f7.later h8; have f8 : Flat 1 intC w8 w8.heap.size A8 gr := Flat.of_own (n := 1) (f := intC) (fun _ => rfl) (by decide) (by rw [intC_flat]; exact o8))
    clear k7c kx7c
    have k8a := After.cells (B := w8.heap.size) k8.cell k8.lt
    have kx8a := After.cells (B := w8.heap.size) kx8.cell kx8.lt
    have G1 : Hid (∀ x : After w8.heap.size w8, Calls Tryz.prog 10 #[.agg #[.slice A1 l.length c1, .slice S1 s.length s1], .slice H1 homes.length ch1] x.val fun e w' => e = .returned (.int .i64 cz) ∧ Below x.val.heap.size x.val w') := Lib.hid (fun x => HCT.out A1 S1 H1 c1 s1 ch1 x.val (HB8.out.later x.property))
    have G2 : Hid (∀ x : After w8.heap.size w8, Calls Tryz.prog 11 #[.agg #[.slice A l.length c, .slice S s.length cs], .slice H homes.length ch] x.val fun e w' => e = .returned (.int .i64 cz) ∧ Below x.val.heap.size x.val w') := Lib.hid (fun x => HCR.out x.val (b8.trans (x.property.mono b8.size)))
    have G3 : Hid (∀ x : After w8.heap.size w8, Calls Tryz.prog 12 #[.slice A7 gr.length c7, .slice A8 gr.length c8] x.val fun e w' => e = .returned (.bool true) ∧ Below x.val.heap.size x.val w') := Lib.hid (fun x => sameInts3_any gr A7 A8 c7 c8 x.val (f78.later x.property) (f8.later x.property) hng)
    have G4 : Hid (∀ x : After w8.heap.size w8, Calls Tryz.prog 13 #[.agg #[.slice A1 l.length c1, .slice S1 s.length s1], .agg #[.slice A l.length c, .slice S s.length cs]] x.val fun e w' => e = .returned (.bool true) ∧ Below x.val.heap.size x.val w') := Lib.hid (fun x => by
      have g1 := HB8.out.later x.property
      have g2 := Hh.out.later (b8.trans (x.property.mono b8.size))
      exact sameCode_any l s A1 A S1 S c1 c s1 cs x.val g1.laws g2.laws g1.stills g2.stills Hw.out.nLaws Hw.out.nStills)
    have G5 : Hid (∀ x : After w8.heap.size w8, Calls Tryz.prog 14 #[.slice H1 homes.length ch1, .slice H homes.length ch] x.val fun e w' => e = .returned (.bool true) ∧ Below x.val.heap.size x.val w') := Lib.hid (fun x => by
      have g1 := HB8.out.later x.property
      have g2 := Hh.out.later (b8.trans (x.property.mono b8.size))
      exact sameHomes_any homes H1 H ch1 ch x.val g1.homes g2.homes Hw.out.nHomes)
    clear k8 kx8 f7 f78 f8 o8 k7 kx7 k6 kx6 k5 kx5 k4 kx HCT HCR HGR HLR HL HG HTw HGr hi0 hz0 hz1 hz2
    refine wp_region_class_lit (C := fun w' => ∃ z : After w8.heap.size w8, w' = z.val) (by kernel_rfl) (by kernel_rfl) ⟨⟨_, (Below.refl _ _).drew⟩, rfl⟩ ?_
    repeat (go_big_quiet_step ((first
      | (go_at_call 10; with_reducible exact after_of (Nat.le_refl _) _ (G1.out _))
      | (go_at_call 11; with_reducible exact after_of (Nat.le_refl _) _ (G2.out _))
      | (go_at_call 12; with_reducible exact after_of (Nat.le_refl _) _ (G3.out _))
      | (go_at_call 13; with_reducible exact after_of (Nat.le_refl _) _ (G4.out _))
      | (go_at_call 14; with_reducible exact after_of (Nat.le_refl _) _ (G5.out _)))))
    refine wpQuiet_nil ?_
    intro wq hw'
    obtain ⟨⟨wz, hz⟩, hw''⟩ := hw'
    dsimp only at hw''
    subst hw''
    go_wp2_with fail
    go_ret
    exact ⟨rfl, b8.trans (hz.mono b8.size)⟩
end Go.Proofs.YtkpaikampmeooaaGreatDoor

namespace Go.Proofs.YtkpaikampmeooaaGreatDoor
open Go.RowKit Go.Maps

theorem lastOk_any {l : List LawT} {s : List StillT} {homes : List HomeT} {rl : List Rep} {day : Int} (he : err4 l s homes rl day = 0) : LastOk l homes (standR rl day) := by
  obtain ⟨⟨hv1, hv2, hv3⟩, hv4, _⟩ := err4_zero.1 he
  intro X0 X1 X2 X3 m n p q F cf r w hM hr
  exact lastP_any X0 X1 X2 X3 m n p q F cf l homes (standR rl day) r w hM hv1 hv3 (standR_ok rl day) hr

theorem goneT_any {l : List LawT} {s : List StillT} {homes : List HomeT} {rl : List Rep} (day : Int) (hw : BurWf l s homes rl) : GoneTOk l s homes rl day := by
  intro A S H R c cs ch cr W h hN
  by_cases he : err4 l s homes rl day = 0
  · exact callsIn_wide.1 (goneT_in 10 (Nat.le_refl _) A S H R c cs ch cr day W he (fun W' hb => open_good hw A S H R c cs ch cr day W' (h.later hb) (hN.later hb) he) (lastOk_any he))
  · exact goneT_bad hw A S H R c cs ch cr day W h hN he

theorem lastT_any {l : List LawT} {s : List StillT} {homes : List HomeT} {rl : List Rep} (id day : Int) (hw : BurWf l s homes rl) : LastTOk l s homes rl id day := by
  intro A S H R c cs ch cr W h hN
  exact lastT_walk hw A S H R c cs ch cr id day W h hN (fun he W' hb => open_good hw A S H R c cs ch cr day W' (h.later hb) (hN.later hb) he) lastOk_any

theorem termLasts_any {l : List LawT} {s : List StillT} {homes : List HomeT} {rl : List Rep} (hlw : ∀ x ∈ l, LawWf x) (hsw : ∀ x ∈ s, StillWf x) (hhw : ∀ x ∈ homes, HomeWf x) (hrw : ∀ r ∈ rl, RepWf r) (A S H R : Option Addr) (c cs ch cr : Nat) (id day : Int) (w : World) (h : BurAt w w.heap.size A S H R l s homes rl) (hN : NeedsAt w) :
    Calls Tryz.prog 3 #[.agg #[.slice A l.length c, .slice S s.length cs], .slice H homes.length ch, .slice R rl.length cr, .int .i64 id, .int .i64 day] w fun e w' => e = .returned (.bool true) ∧ Below w.heap.size w w' :=
  termLasts_walk hlw hsw hhw hrw A S H R c cs ch cr id day w h hN (lastT_any id day) (goneT_any day)
end Go.Proofs.YtkpaikampmeooaaGreatDoor

namespace Go.Proofs.YtkpaikampmeooaaGreatDoor
open Go.ChangeShapes Go.WideShapes Go.ChangeAt Go.RowKit Go.Deep

section
variable {H : Type} {enc : TypeId × Value → H} {w : World} {base : Nat} {spare : Nat → Bool} {held : Bool}

theorem plain_of_cell {w : World} {a : Addr} {v : Value} (h : w.cell? a = some v) : a = ⟨a.block, a.off, none⟩ := by
  obtain ⟨b, o, s⟩ := a
  cases s with
  | none => rfl
  | some s => exfalso; unfold World.cell? at h; split at h <;> simp at h

set_option maxRecDepth 100000 in
theorem rep_of_trod {fuel : Nat} {cs : List Value} {x : DataW H × List MemPlace} (h : DataW.trod enc Tryz.prog w base spare held fuel 56 cs = some x) :
    ∃ r : Rep, cs = [.int .i64 r.id, .int .i64 r.src, .int .i64 r.acc, .int .i64 r.made, .int .i64 r.about, .int .u8 r.kind, .int .i64 r.cents, .int .i64 r.of_] ∧ RepWf r := by
  have hC : Tryz.prog.cellsOf 56 = 8 := by kernel_rfl
  have k3 : Tryz.prog.cellsOf 3 = 1 := by kernel_rfl
  have k5 : Tryz.prog.cellsOf 5 = 1 := by kernel_rfl
  obtain ⟨xs, n, _, _, hcl, hxl, hg⟩ := DataW.trod_struct Tryz.underlying56 h
  rw [hC] at hcl
  match cs, hcl with
  | [v0, v1, v2, v3, v4, v5, v6, v7], _ =>
    match xs, hxl with
    | [y0, y1, y2, y3, y4, y5, y6, y7], _ =>
      have g0 : DataW.trod enc Tryz.prog w base spare held n 3 (([v0, v1, v2, v3, v4, v5, v6, v7].drop 0).take (Tryz.prog.cellsOf 3)) = [y0, y1, y2, y3, y4, y5, y6, y7][0]? := hg 0 _ rfl
      have g1 : DataW.trod enc Tryz.prog w base spare held n 3 (([v0, v1, v2, v3, v4, v5, v6, v7].drop 1).take (Tryz.prog.cellsOf 3)) = [y0, y1, y2, y3, y4, y5, y6, y7][1]? := hg 1 _ rfl
      have g2 : DataW.trod enc Tryz.prog w base spare held n 3 (([v0, v1, v2, v3, v4, v5, v6, v7].drop 2).take (Tryz.prog.cellsOf 3)) = [y0, y1, y2, y3, y4, y5, y6, y7][2]? := hg 2 _ rfl
      have g3 : DataW.trod enc Tryz.prog w base spare held n 3 (([v0, v1, v2, v3, v4, v5, v6, v7].drop 3).take (Tryz.prog.cellsOf 3)) = [y0, y1, y2, y3, y4, y5, y6, y7][3]? := hg 3 _ rfl
      have g4 : DataW.trod enc Tryz.prog w base spare held n 3 (([v0, v1, v2, v3, v4, v5, v6, v7].drop 4).take (Tryz.prog.cellsOf 3)) = [y0, y1, y2, y3, y4, y5, y6, y7][4]? := hg 4 _ rfl
      have g5 : DataW.trod enc Tryz.prog w base spare held n 5 (([v0, v1, v2, v3, v4, v5, v6, v7].drop 5).take (Tryz.prog.cellsOf 5)) = [y0, y1, y2, y3, y4, y5, y6, y7][5]? := hg 5 _ rfl
      have g6 : DataW.trod enc Tryz.prog w base spare held n 3 (([v0, v1, v2, v3, v4, v5, v6, v7].drop 6).take (Tryz.prog.cellsOf 3)) = [y0, y1, y2, y3, y4, y5, y6, y7][6]? := hg 6 _ rfl
      have g7 : DataW.trod enc Tryz.prog w base spare held n 3 (([v0, v1, v2, v3, v4, v5, v6, v7].drop 7).take (Tryz.prog.cellsOf 3)) = [y0, y1, y2, y3, y4, y5, y6, y7][7]? := hg 7 _ rfl
      rw [k3] at g0 g1 g2 g3 g4 g6 g7
      rw [k5] at g5
      obtain ⟨p0, e0, _, wf0⟩ := DataW.trod_int Tryz.underlying3 (show DataW.trod enc Tryz.prog w base spare held n 3 [v0] = some y0 from g0)
      obtain ⟨p1, e1, _⟩ := DataW.trod_int Tryz.underlying3 (show DataW.trod enc Tryz.prog w base spare held n 3 [v1] = some y1 from g1)
      obtain ⟨p2, e2, _⟩ := DataW.trod_int Tryz.underlying3 (show DataW.trod enc Tryz.prog w base spare held n 3 [v2] = some y2 from g2)
      obtain ⟨p3, e3, _⟩ := DataW.trod_int Tryz.underlying3 (show DataW.trod enc Tryz.prog w base spare held n 3 [v3] = some y3 from g3)
      obtain ⟨p4, e4, _⟩ := DataW.trod_int Tryz.underlying3 (show DataW.trod enc Tryz.prog w base spare held n 3 [v4] = some y4 from g4)
      obtain ⟨p5, e5, _, wf5⟩ := DataW.trod_int Tryz.underlying5 (show DataW.trod enc Tryz.prog w base spare held n 5 [v5] = some y5 from g5)
      obtain ⟨p6, e6, _⟩ := DataW.trod_int Tryz.underlying3 (show DataW.trod enc Tryz.prog w base spare held n 3 [v6] = some y6 from g6)
      obtain ⟨p7, e7, _⟩ := DataW.trod_int Tryz.underlying3 (show DataW.trod enc Tryz.prog w base spare held n 3 [v7] = some y7 from g7)
      simp only [List.cons.injEq, and_true] at e0 e1 e2 e3 e4 e5 e6 e7
      subst e0 e1 e2 e3 e4 e5 e6 e7
      refine ⟨⟨p0, p1, p2, p3, p4, p5, p6, p7⟩, rfl, ⟨wf0, ?_⟩⟩
      simpa [Lit.wf, IntKind.min, IntKind.max, IntKind.signed, IntKind.bits] using wf5

set_option maxRecDepth 100000 in
theorem reps_of_trod {fuel : Nat} {v : Value} {x : DataW H × List MemPlace} (h : DataW.trod enc Tryz.prog w base spare held fuel 27 [v] = some x) :
    ∃ A c l, v = .slice A (List.length l) c ∧ Reps w w.heap.size A l ∧ (∀ r ∈ l, RepWf r) ∧ l.length ≤ maxLen := by
  have hC : Tryz.prog.cellsOf 56 = 8 := by kernel_rfl
  rcases open_slice Tryz.underlying27 h with ⟨hc, _⟩ | ⟨a, len, cap, m, n, Dx, Pl, hc, _, hl, hm, hmm, _, hcell⟩
  · simp only [List.cons.injEq, and_true] at hc
    exact ⟨none, 0, [], by simpa using hc, fun k hk => by simp at hk, fun z hz => by simp at hz, by simp [maxLen]⟩
  · simp only [List.cons.injEq, and_true] at hc
    have hlm : len ≤ m := by rw [hmm]; split <;> omega
    have each : ∀ i, i < len → ∃ z : Rep, (∀ j, j < 8 → w.cell? (a.add (i * 8 + j)) = (#[.int .i64 z.id, .int .i64 z.src, .int .i64 z.acc, .int .i64 z.made, .int .i64 z.about, .int .u8 z.kind, .int .i64 z.cents, .int .i64 z.of_] : Array Value)[j]?) ∧ RepWf z := fun i hi => by
      obtain ⟨cs', h1, h2⟩ := hcell i (by omega)
      rw [hC] at h1
      obtain ⟨_, hlen, hat⟩ := World.cells?_some h1
      obtain ⟨r, rfl, hwf⟩ := rep_of_trod h2
      refine ⟨r, fun j hj => ?_, hwf⟩
      rw [← Go.Addr.add_add, hat j (by omega)]
      simp
    obtain ⟨S, hS⟩ := choose_lt each
    refine ⟨some a, cap, (List.range len).map S, by rw [hc]; simp, fun k hk => ?_, fun z hz => ?_, by simp; omega⟩
    · simp only [List.length_map, List.length_range] at hk
      obtain ⟨h1, h2⟩ := hS k hk
      obtain ⟨g1, _⟩ := hS 0 (by omega)
      have h00 := g1 0 (by omega)
      rw [show 0 * 8 + 0 = 0 from rfl, Addr.add_zero'] at h00
      have hp := plain_of_cell h00
      have hlt := block_lt_of_cell h00
      refine ⟨a.block, a.off, by rw [← hp], hlt, fun i hi => ?_⟩
      have := h1 i hi
      rw [hp, add_plain] at this
      simpa [Nat.add_assoc] using this
    · obtain ⟨k, hk, rfl⟩ := List.mem_map.1 hz
      exact (hS k (by simpa using hk)).2
end

/-! The table. -/
theorem gNeeds : Tryz.prog.globalNamed "goodname/account.needs" = some 0 := by kernel_rfl
theorem tNeeds : (Tryz.prog.globals[0]?).map (·.type) = some 162 := by kernel_rfl

section
variable {H : Type} {enc : TypeId × Value → H} {w : World} {base : Nat} {spare : Nat → Bool} {held : Bool}
set_option maxRecDepth 100000 in
theorem need_of_trod {fuel : Nat} {cs : List Value} {x : DataW H × List MemPlace} {a b : Int} {f : Bool} (h : DataW.trod enc Tryz.prog w base spare held fuel 161 cs = some x) (hx : x.1 = .agg [.lit (.int .i64 a), .lit (.int .i64 b), .lit (.bool f)]) :
    cs = [.int .i64 a, .int .i64 b, .bool f] := by
  have hC : Tryz.prog.cellsOf 161 = 3 := by kernel_rfl
  have k3 : Tryz.prog.cellsOf 3 = 1 := by kernel_rfl
  have k4 : Tryz.prog.cellsOf 4 = 1 := by kernel_rfl
  obtain ⟨xs, n, _, rfl, hcl, hxl, hg⟩ := DataW.trod_struct Tryz.underlying161 h
  rw [hC] at hcl
  match cs, hcl with
  | [v0, v1, v2], _ =>
    match xs, hxl with
    | [y0, y1, y2], _ =>
      have g0 : DataW.trod enc Tryz.prog w base spare held n 3 (([v0, v1, v2].drop 0).take (Tryz.prog.cellsOf 3)) = [y0, y1, y2][0]? := hg 0 _ rfl
      have g1 : DataW.trod enc Tryz.prog w base spare held n 3 (([v0, v1, v2].drop 1).take (Tryz.prog.cellsOf 3)) = [y0, y1, y2][1]? := hg 1 _ rfl
      have g2 : DataW.trod enc Tryz.prog w base spare held n 4 (([v0, v1, v2].drop 2).take (Tryz.prog.cellsOf 4)) = [y0, y1, y2][2]? := hg 2 _ rfl
      rw [k3] at g0 g1
      rw [k4] at g2
      obtain ⟨p0, e0, z0, _⟩ := DataW.trod_int Tryz.underlying3 (show DataW.trod enc Tryz.prog w base spare held n 3 [v0] = some y0 from g0)
      obtain ⟨p1, e1, z1, _⟩ := DataW.trod_int Tryz.underlying3 (show DataW.trod enc Tryz.prog w base spare held n 3 [v1] = some y1 from g1)
      obtain ⟨p2, e2, z2⟩ := DataW.trod_bool Tryz.underlying4 (show DataW.trod enc Tryz.prog w base spare held n 4 [v2] = some y2 from g2)
      subst z0 z1 z2
      simp at hx
      obtain ⟨rfl, rfl, rfl⟩ := hx
      simp only [List.cons.injEq, and_true] at e0 e1 e2 ⊢
      exact ⟨e0, e1, e2⟩

theorem thirty {L M : List Value} (hL : L.length = 30) (hM : M.length = 30) (h : ∀ q, q < 10 → (L.drop (q * 3)).take 3 = (M.drop (q * 3)).take 3) : L = M := by
  apply List.ext_getElem (by omega)
  intro i h1 h2
  have hq := h (i / 3) (by omega)
  have e := congrArg (fun l => l[i % 3]?) hq
  simp only [List.getElem?_take, List.getElem?_drop] at e
  rw [if_pos (by omega), if_pos (by omega), show i / 3 * 3 + i % 3 = i by omega, List.getElem?_eq_getElem h1, List.getElem?_eq_getElem h2] at e
  exact Option.some.inj e

set_option maxRecDepth 100000 in
theorem needs_of_trod {fuel : Nat} {cs : List Value} {p : List MemPlace} (h : DataW.trod enc Tryz.prog w base spare held fuel 162 cs = some (Rows.laid_goodname_account_needs, p)) : cs = needsCells.toList := by
  have hC : Tryz.prog.cellsOf 162 = 30 := by kernel_rfl
  have k69 : Tryz.prog.cellsOf 161 = 3 := by kernel_rfl
  obtain ⟨xs, m, _, hx, hcl, hxl, hg⟩ := DataW.trod_array Tryz.underlying162 h
  rw [hC] at hcl
  rw [k69] at hg
  match xs, hxl, hg, hx with
  | [x0, x1, x2, x3, x4, x5, x6, x7, x8, x9], _, hg, hx =>
    simp only [Rows.laid_goodname_account_needs, List.map_cons, List.map_nil, Prod.mk.injEq, DataW.agg.injEq, List.cons.injEq, and_true] at hx
    obtain ⟨⟨z0, z1, z2, z3, z4, z5, z6, z7, z8, z9⟩, _⟩ := hx
    refine thirty hcl rfl fun q hq => ?_
    have hh : q = 0 ∨ q = 1 ∨ q = 2 ∨ q = 3 ∨ q = 4 ∨ q = 5 ∨ q = 6 ∨ q = 7 ∨ q = 8 ∨ q = 9 := by omega
    rcases hh with rfl | rfl | rfl | rfl | rfl | rfl | rfl | rfl | rfl | rfl
    · exact need_of_trod (show _ = some x0 from hg 0 (by omega)) z0.symm
    · exact need_of_trod (show _ = some x1 from hg 1 (by omega)) z1.symm
    · exact need_of_trod (show _ = some x2 from hg 2 (by omega)) z2.symm
    · exact need_of_trod (show _ = some x3 from hg 3 (by omega)) z3.symm
    · exact need_of_trod (show _ = some x4 from hg 4 (by omega)) z4.symm
    · exact need_of_trod (show _ = some x5 from hg 5 (by omega)) z5.symm
    · exact need_of_trod (show _ = some x6 from hg 6 (by omega)) z6.symm
    · exact need_of_trod (show _ = some x7 from hg 7 (by omega)) z7.symm
    · exact need_of_trod (show _ = some x8 from hg 8 (by omega)) z8.symm
    · exact need_of_trod (show _ = some x9 from hg 9 (by omega)) z9.symm
end

theorem needs_of_laid {W : World} (h : laidMetH Tryz.prog [("goodname/account.needs", Rows.laid_goodname_account_needs)] W) : NeedsAt W := by
  rw [MakeChecks.laidMetH_plain _ _ _ (by kernel_rfl)] at h
  obtain ⟨ps, ⟨g, t, cs, f, p, q, hg, ht, hv, hd, _⟩, _⟩ := h
  obtain rfl := Option.some.inj (gNeeds.symm.trans hg)
  obtain rfl := Option.some.inj (tNeeds.symm.trans ht)
  have e := needs_of_trod hd
  obtain rfl : cs = needsCells := by rw [← Array.toList_inj, e]
  have hc : ∀ i, W.cell? ⟨0, i, none⟩ = needsCells[i]? := fun i => World.var?_cell hg hv i
  exact ⟨block_lt_of_cell ((hc 0).trans rfl), hc⟩

end Go.Proofs.YtkpaikampmeooaaGreatDoor

namespace Go.Proofs.YtkpaikampmeooaaGreatDoor
open Go.ChangeShapes Go.WideShapes Go.ChangeAt Go.RowKit Go.Deep

section
variable {H : Type} {enc : TypeId × Value → H} {w : World} {base : Nat} {spare : Nat → Bool} {held : Bool}
theorem u8_of_wf {n : Int} (h : (Lit.int .u8 n).wf = true) : 0 ≤ n ∧ n ≤ 255 := by
  simpa [Lit.wf, IntKind.min, IntKind.max, IntKind.signed, IntKind.bits] using h

set_option maxRecDepth 100000 in
theorem law_of_trod {fuel : Nat} {cs : List Value} {x : DataW H × List MemPlace} (h : DataW.trod enc Tryz.prog w base spare held fuel 79 cs = some x) :
    ∃ r : LawT, cs = lawC r ∧ LawWf r := by
  have hC : Tryz.prog.cellsOf 79 = 4 := by kernel_rfl
  have kint : Tryz.prog.cellsOf 3 = 1 := by kernel_rfl
  have kuint8 : Tryz.prog.cellsOf 5 = 1 := by kernel_rfl
  obtain ⟨xs, n, _, _, hcl, hxl, hg⟩ := DataW.trod_struct Tryz.underlying79 h
  rw [hC] at hcl
  match cs, hcl with
  | [v0, v1, v2, v3], _ =>
    match xs, hxl with
    | [y0, y1, y2, y3], _ =>
      have g0 : DataW.trod enc Tryz.prog w base spare held n 3 (([v0, v1, v2, v3].drop 0).take (Tryz.prog.cellsOf 3)) = [y0, y1, y2, y3][0]? := hg 0 _ rfl
      rw [kint] at g0
      obtain ⟨p0, e0, _, wf0⟩ := DataW.trod_int Tryz.underlying3 (show DataW.trod enc Tryz.prog w base spare held n 3 [v0] = some y0 from g0)
      have g1 : DataW.trod enc Tryz.prog w base spare held n 5 (([v0, v1, v2, v3].drop 1).take (Tryz.prog.cellsOf 5)) = [y0, y1, y2, y3][1]? := hg 1 _ rfl
      rw [kuint8] at g1
      obtain ⟨p1, e1, _, wf1⟩ := DataW.trod_int Tryz.underlying5 (show DataW.trod enc Tryz.prog w base spare held n 5 [v1] = some y1 from g1)
      have g2 : DataW.trod enc Tryz.prog w base spare held n 5 (([v0, v1, v2, v3].drop 2).take (Tryz.prog.cellsOf 5)) = [y0, y1, y2, y3][2]? := hg 2 _ rfl
      rw [kuint8] at g2
      obtain ⟨p2, e2, _, wf2⟩ := DataW.trod_int Tryz.underlying5 (show DataW.trod enc Tryz.prog w base spare held n 5 [v2] = some y2 from g2)
      have g3 : DataW.trod enc Tryz.prog w base spare held n 3 (([v0, v1, v2, v3].drop 3).take (Tryz.prog.cellsOf 3)) = [y0, y1, y2, y3][3]? := hg 3 _ rfl
      rw [kint] at g3
      obtain ⟨p3, e3, _, wf3⟩ := DataW.trod_int Tryz.underlying3 (show DataW.trod enc Tryz.prog w base spare held n 3 [v3] = some y3 from g3)
      simp only [List.cons.injEq, and_true] at e0 e1 e2 e3
      subst e0 e1 e2 e3
      exact ⟨⟨p0, p1, p2, p3⟩, rfl, ⟨wf0, u8_of_wf wf1, (u8_of_wf wf2).1, (u8_of_wf wf2).2⟩⟩

set_option maxRecDepth 100000 in
theorem laws_of_trod {fuel : Nat} {v : Value} {x : DataW H × List MemPlace} (h : DataW.trod enc Tryz.prog w base spare held fuel 22 [v] = some x) :
    ∃ A c l, v = .slice A (List.length l) c ∧ Flat 4 lawC w w.heap.size A l ∧ (∀ r ∈ l, LawWf r) ∧ l.length ≤ maxLen := by
  have hC : Tryz.prog.cellsOf 79 = 4 := by kernel_rfl
  rcases open_slice Tryz.underlying22 h with ⟨hc, _⟩ | ⟨a, len, cap, m, n, Dx, Pl, hc, _, hl, hm, hmm, _, hcell⟩
  · simp only [List.cons.injEq, and_true] at hc
    exact ⟨none, 0, [], by simpa using hc, fun k hk => by simp at hk, fun z hz => by simp at hz, by simp [maxLen]⟩
  · simp only [List.cons.injEq, and_true] at hc
    have hlm : len ≤ m := by rw [hmm]; split <;> omega
    have each : ∀ i, i < len → ∃ z : LawT, (∀ j, j < 4 → w.cell? (a.add (i * 4 + j)) = (lawC z)[j]?) ∧ LawWf z := fun i hi => by
      obtain ⟨cs', h1, h2⟩ := hcell i (by omega)
      rw [hC] at h1
      obtain ⟨_, hlen, hat⟩ := World.cells?_some h1
      obtain ⟨r, rfl, hwf⟩ := law_of_trod h2
      refine ⟨r, fun j hj => ?_, hwf⟩
      rw [← Go.Addr.add_add, hat j (by omega)]
    obtain ⟨S, hS⟩ := choose_lt each
    refine ⟨some a, cap, (List.range len).map S, by rw [hc]; simp, fun k hk => ?_, fun z hz => ?_, by simp; omega⟩
    · simp only [List.length_map, List.length_range] at hk
      obtain ⟨h1, h2⟩ := hS k hk
      obtain ⟨g1, _⟩ := hS 0 (by omega)
      have h00 := g1 0 (by omega)
      rw [show 0 * 4 + 0 = 0 from rfl, Addr.add_zero'] at h00
      have hp := plain_of_cell h00
      have hlt := block_lt_of_cell h00
      refine ⟨a.block, a.off, by rw [← hp], hlt, fun i hi => ?_⟩
      have := h1 i hi
      rw [hp, add_plain] at this
      simpa [Nat.add_assoc] using this
    · obtain ⟨k, hk, rfl⟩ := List.mem_map.1 hz
      exact (hS k (by simpa using hk)).2

set_option maxRecDepth 100000 in
theorem still_of_trod {fuel : Nat} {cs : List Value} {x : DataW H × List MemPlace} (h : DataW.trod enc Tryz.prog w base spare held fuel 81 cs = some x) :
    ∃ r : StillT, cs = stillC r ∧ StillWf r := by
  have hC : Tryz.prog.cellsOf 81 = 3 := by kernel_rfl
  have kint : Tryz.prog.cellsOf 3 = 1 := by kernel_rfl
  have kuint8 : Tryz.prog.cellsOf 5 = 1 := by kernel_rfl
  obtain ⟨xs, n, _, _, hcl, hxl, hg⟩ := DataW.trod_struct Tryz.underlying81 h
  rw [hC] at hcl
  match cs, hcl with
  | [v0, v1, v2], _ =>
    match xs, hxl with
    | [y0, y1, y2], _ =>
      have g0 : DataW.trod enc Tryz.prog w base spare held n 3 (([v0, v1, v2].drop 0).take (Tryz.prog.cellsOf 3)) = [y0, y1, y2][0]? := hg 0 _ rfl
      rw [kint] at g0
      obtain ⟨p0, e0, _, wf0⟩ := DataW.trod_int Tryz.underlying3 (show DataW.trod enc Tryz.prog w base spare held n 3 [v0] = some y0 from g0)
      have g1 : DataW.trod enc Tryz.prog w base spare held n 3 (([v0, v1, v2].drop 1).take (Tryz.prog.cellsOf 3)) = [y0, y1, y2][1]? := hg 1 _ rfl
      rw [kint] at g1
      obtain ⟨p1, e1, _, wf1⟩ := DataW.trod_int Tryz.underlying3 (show DataW.trod enc Tryz.prog w base spare held n 3 [v1] = some y1 from g1)
      have g2 : DataW.trod enc Tryz.prog w base spare held n 5 (([v0, v1, v2].drop 2).take (Tryz.prog.cellsOf 5)) = [y0, y1, y2][2]? := hg 2 _ rfl
      rw [kuint8] at g2
      obtain ⟨p2, e2, _, wf2⟩ := DataW.trod_int Tryz.underlying5 (show DataW.trod enc Tryz.prog w base spare held n 5 [v2] = some y2 from g2)
      simp only [List.cons.injEq, and_true] at e0 e1 e2
      subst e0 e1 e2
      exact ⟨⟨p0, p1, p2⟩, rfl, u8_of_wf wf2⟩

set_option maxRecDepth 100000 in
theorem stills_of_trod {fuel : Nat} {v : Value} {x : DataW H × List MemPlace} (h : DataW.trod enc Tryz.prog w base spare held fuel 23 [v] = some x) :
    ∃ A c l, v = .slice A (List.length l) c ∧ Flat 3 stillC w w.heap.size A l ∧ (∀ r ∈ l, StillWf r) ∧ l.length ≤ maxLen := by
  have hC : Tryz.prog.cellsOf 81 = 3 := by kernel_rfl
  rcases open_slice Tryz.underlying23 h with ⟨hc, _⟩ | ⟨a, len, cap, m, n, Dx, Pl, hc, _, hl, hm, hmm, _, hcell⟩
  · simp only [List.cons.injEq, and_true] at hc
    exact ⟨none, 0, [], by simpa using hc, fun k hk => by simp at hk, fun z hz => by simp at hz, by simp [maxLen]⟩
  · simp only [List.cons.injEq, and_true] at hc
    have hlm : len ≤ m := by rw [hmm]; split <;> omega
    have each : ∀ i, i < len → ∃ z : StillT, (∀ j, j < 3 → w.cell? (a.add (i * 3 + j)) = (stillC z)[j]?) ∧ StillWf z := fun i hi => by
      obtain ⟨cs', h1, h2⟩ := hcell i (by omega)
      rw [hC] at h1
      obtain ⟨_, hlen, hat⟩ := World.cells?_some h1
      obtain ⟨r, rfl, hwf⟩ := still_of_trod h2
      refine ⟨r, fun j hj => ?_, hwf⟩
      rw [← Go.Addr.add_add, hat j (by omega)]
    obtain ⟨S, hS⟩ := choose_lt each
    refine ⟨some a, cap, (List.range len).map S, by rw [hc]; simp, fun k hk => ?_, fun z hz => ?_, by simp; omega⟩
    · simp only [List.length_map, List.length_range] at hk
      obtain ⟨h1, h2⟩ := hS k hk
      obtain ⟨g1, _⟩ := hS 0 (by omega)
      have h00 := g1 0 (by omega)
      rw [show 0 * 3 + 0 = 0 from rfl, Addr.add_zero'] at h00
      have hp := plain_of_cell h00
      have hlt := block_lt_of_cell h00
      refine ⟨a.block, a.off, by rw [← hp], hlt, fun i hi => ?_⟩
      have := h1 i hi
      rw [hp, add_plain] at this
      simpa [Nat.add_assoc] using this
    · obtain ⟨k, hk, rfl⟩ := List.mem_map.1 hz
      exact (hS k (by simpa using hk)).2

set_option maxRecDepth 100000 in
theorem home_of_trod {fuel : Nat} {cs : List Value} {x : DataW H × List MemPlace} (h : DataW.trod enc Tryz.prog w base spare held fuel 83 cs = some x) :
    ∃ r : HomeT, cs = homeC r ∧ HomeWf r := by
  have hC : Tryz.prog.cellsOf 83 = 2 := by kernel_rfl
  have kint : Tryz.prog.cellsOf 3 = 1 := by kernel_rfl
  have kuint8 : Tryz.prog.cellsOf 5 = 1 := by kernel_rfl
  obtain ⟨xs, n, _, _, hcl, hxl, hg⟩ := DataW.trod_struct Tryz.underlying83 h
  rw [hC] at hcl
  match cs, hcl with
  | [v0, v1], _ =>
    match xs, hxl with
    | [y0, y1], _ =>
      have g0 : DataW.trod enc Tryz.prog w base spare held n 3 (([v0, v1].drop 0).take (Tryz.prog.cellsOf 3)) = [y0, y1][0]? := hg 0 _ rfl
      rw [kint] at g0
      obtain ⟨p0, e0, _, wf0⟩ := DataW.trod_int Tryz.underlying3 (show DataW.trod enc Tryz.prog w base spare held n 3 [v0] = some y0 from g0)
      have g1 : DataW.trod enc Tryz.prog w base spare held n 3 (([v0, v1].drop 1).take (Tryz.prog.cellsOf 3)) = [y0, y1][1]? := hg 1 _ rfl
      rw [kint] at g1
      obtain ⟨p1, e1, _, wf1⟩ := DataW.trod_int Tryz.underlying3 (show DataW.trod enc Tryz.prog w base spare held n 3 [v1] = some y1 from g1)
      simp only [List.cons.injEq, and_true] at e0 e1
      subst e0 e1
      exact ⟨⟨p0, p1⟩, rfl, wf0⟩

set_option maxRecDepth 100000 in
theorem homes_of_trod {fuel : Nat} {v : Value} {x : DataW H × List MemPlace} (h : DataW.trod enc Tryz.prog w base spare held fuel 26 [v] = some x) :
    ∃ A c l, v = .slice A (List.length l) c ∧ Flat 2 homeC w w.heap.size A l ∧ (∀ r ∈ l, HomeWf r) ∧ l.length ≤ maxLen := by
  have hC : Tryz.prog.cellsOf 83 = 2 := by kernel_rfl
  rcases open_slice Tryz.underlying26 h with ⟨hc, _⟩ | ⟨a, len, cap, m, n, Dx, Pl, hc, _, hl, hm, hmm, _, hcell⟩
  · simp only [List.cons.injEq, and_true] at hc
    exact ⟨none, 0, [], by simpa using hc, fun k hk => by simp at hk, fun z hz => by simp at hz, by simp [maxLen]⟩
  · simp only [List.cons.injEq, and_true] at hc
    have hlm : len ≤ m := by rw [hmm]; split <;> omega
    have each : ∀ i, i < len → ∃ z : HomeT, (∀ j, j < 2 → w.cell? (a.add (i * 2 + j)) = (homeC z)[j]?) ∧ HomeWf z := fun i hi => by
      obtain ⟨cs', h1, h2⟩ := hcell i (by omega)
      rw [hC] at h1
      obtain ⟨_, hlen, hat⟩ := World.cells?_some h1
      obtain ⟨r, rfl, hwf⟩ := home_of_trod h2
      refine ⟨r, fun j hj => ?_, hwf⟩
      rw [← Go.Addr.add_add, hat j (by omega)]
    obtain ⟨S, hS⟩ := choose_lt each
    refine ⟨some a, cap, (List.range len).map S, by rw [hc]; simp, fun k hk => ?_, fun z hz => ?_, by simp; omega⟩
    · simp only [List.length_map, List.length_range] at hk
      obtain ⟨h1, h2⟩ := hS k hk
      obtain ⟨g1, _⟩ := hS 0 (by omega)
      have h00 := g1 0 (by omega)
      rw [show 0 * 2 + 0 = 0 from rfl, Addr.add_zero'] at h00
      have hp := plain_of_cell h00
      have hlt := block_lt_of_cell h00
      refine ⟨a.block, a.off, by rw [← hp], hlt, fun i hi => ?_⟩
      have := h1 i hi
      rw [hp, add_plain] at this
      simpa [Nat.add_assoc] using this
    · obtain ⟨k, hk, rfl⟩ := List.mem_map.1 hz
      exact (hS k (by simpa using hk)).2

set_option maxRecDepth 100000 in
theorem code_of_trod {fuel : Nat} {cs : List Value} {x : DataW H × List MemPlace} (h : DataW.trod enc Tryz.prog w base spare held fuel 25 cs = some x) :
    ∃ A c l S d s, cs = [.slice A (List.length l) c, .slice S (List.length s) d] ∧ Laws w w.heap.size A l ∧ Stills w w.heap.size S s ∧ (∀ r ∈ l, LawWf r) ∧ (∀ r ∈ s, StillWf r) := by
  have hC : Tryz.prog.cellsOf 25 = 2 := by kernel_rfl
  have k1 : Tryz.prog.cellsOf 22 = 1 := by kernel_rfl
  have k2 : Tryz.prog.cellsOf 23 = 1 := by kernel_rfl
  obtain ⟨xs, n, _, _, hcl, hxl, hg⟩ := DataW.trod_struct Tryz.underlying25 h
  rw [hC] at hcl
  match cs, hcl with
  | [v0, v1], _ =>
    match xs, hxl with
    | [y0, y1], _ =>
      have g0 : DataW.trod enc Tryz.prog w base spare held n 22 (([v0, v1].drop 0).take (Tryz.prog.cellsOf 22)) = [y0, y1][0]? := hg 0 _ rfl
      have g1 : DataW.trod enc Tryz.prog w base spare held n 23 (([v0, v1].drop 1).take (Tryz.prog.cellsOf 23)) = [y0, y1][1]? := hg 1 _ rfl
      rw [k1] at g0
      rw [k2] at g1
      obtain ⟨A, c, l, rfl, hl, hlw, _⟩ := laws_of_trod (show DataW.trod enc Tryz.prog w base spare held n 22 [v0] = some y0 from g0)
      obtain ⟨S, d, s, rfl, hs, hsw, _⟩ := stills_of_trod (show DataW.trod enc Tryz.prog w base spare held n 23 [v1] = some y1 from g1)
      exact ⟨A, c, l, S, d, s, rfl, hl, hs, hlw, hsw⟩
end
end Go.Proofs.YtkpaikampmeooaaGreatDoor
