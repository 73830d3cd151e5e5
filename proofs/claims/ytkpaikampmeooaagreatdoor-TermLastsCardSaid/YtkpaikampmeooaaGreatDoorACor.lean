/- The number of the correction that works of a report, by the reference. -/
import Derived.Test.YtkpaikampmeooaaGreatDoorTCardP3

namespace Go.Proofs.YtkpaikampmeooaaGreatDoor
open Go.RowKit Go.Maps

def corQ (K ws : List Rep) (id : Int) : Option Rep := (ws.filter (corB K id)).foldl corStep none
theorem corQ_step (K ws : List Rep) (w : Rep) (id : Int) : corQ K (ws ++ [w]) id = if corB K id w = true then corStep (corQ K ws id) w else corQ K ws id := by
  unfold corQ
  rw [List.filter_append, List.foldl_append]
  by_cases h : corB K id w = true
  · rw [if_pos h]; simp [h]
  · rw [if_neg h]; simp [h]
theorem corQ_mem {K ws : List Rep} {id : Int} {m : Rep} (h : corQ K ws id = some m) : m ∈ ws := by
  unfold corQ at h
  rcases last_spec (ws.filter (corB K id)) with ⟨h1, _⟩ | ⟨q, hq, h1, _⟩
  · rw [h1] at h; cases h
  · rw [h1] at h
    obtain rfl := Option.some.inj h
    exact (List.mem_filter.1 hq).1

set_option maxRecDepth 100000 in
set_option maxHeartbeats 8000000 in
theorem corrected3_any (l : List Rep) (A : Option Addr) (c : Nat) (id : Int) (w : World) (h : Reps w w.heap.size A l) (hl : l.length ≤ maxLen) (hn : (l.map Rep.id).Nodup) (h0 : ∀ r ∈ l, 0 ≤ r.id) (hk0 : atR l id ≠ none) :
    Calls Tryz.prog 64 #[.slice A l.length c, .int .i64 id] w fun e w' => e = .returned (.int .i64 (((corV l id).map Rep.id).getD (-1))) ∧ Below w.heap.size w w' := by
  obtain ⟨k, hk, hx, hat⟩ : ∃ k, ∃ h : k < l.length, ixR l id = k ∧ atR l id = some l[k] := by
    rcases ixR_cases l id with ⟨_, e⟩ | e
    · exact absurd e hk0
    · exact e
  have HAt := Lib.hid (fun W hh => hx ▸ at3_any l A c id W hh hl)
  have HTK : Hid (kindAt l id = l[k].kind) := Lib.hid (by unfold kindAt; rw [hat])
  have hll : l.length ≤ 9223372036854775807 := by unfold maxLen at hl; omega
  have Hnd := Lib.hid hn
  have H0 := Lib.hid h0
  clear hx hat hk0 hn h0
  go_enter Tryz.func64, Tryz.ntmps64
  go_wp2_with (go_at_call 22; (with_reducible refine (HAt.out _ h).mono ?_); rintro e w1 ⟨rfl, rfl⟩)
  go_loopw [5, 7] (fun bb ii wr => ∃ (i : Nat) (z : Int), i ≤ l.length ∧ bb = .int .i64 z ∧ ii = .int .i64 i ∧ Hid (((corQ l (l.take i) id).map Rep.id).getD (-1) = z ∧ Below w.heap.size w wr)) (fun _ ii _ => l.length - (vInt ii).toNat)
  case atStart => exact ⟨0, -1, Nat.zero_le _, rfl, rfl, Lib.hid ⟨rfl, Below.refl _ _⟩⟩
  case round =>
    obtain ⟨i, z, hi, rfl, rfl, hR⟩ := hrel
    by_cases hlt : i < l.length
    · as_aux_lemma =>
        have hil : (i : Int) < (l.length : Int) := by omega
        have hkl : (k : Int) < (l.length : Int) := by omega
        obtain ⟨hzz, hB⟩ := hR.out
        have h9 := h.later hB
        obtain ⟨b, off, rfl, hb, C⟩ := h9.eight hlt
        obtain ⟨_, _, e2, _, C2⟩ := h9.eight hk
        cases e2
        have hkind := HTK.out
        have HT : Hid (l.take (i + 1) = l.take i ++ [l[i]]) := Lib.hid (List.take_succ_eq_append_getElem hlt)
        have hkn : atR l l[i].id ≠ none := by rw [atR_mem Hnd.out (List.getElem_mem hlt)]; simp
        generalize l[k] = s at *
        obtain ⟨r, hri⟩ : ∃ r, l[i] = r := ⟨_, rfl⟩
        have HRi := Lib.hid hri
        rw [hri] at C HT hkn
        clear hri
        have hz := hzz
        have k5 := After.cell (B := wr.heap.size) C2.c5 hb
        have g5 := C2.c5
        have d0 := After.cell (B := wr.heap.size) C.c0 hb
        have d1 := After.cell (B := wr.heap.size) C.c1 hb
        have d2 := After.cell (B := wr.heap.size) C.c2 hb
        have d3 := After.cell (B := wr.heap.size) C.c3 hb
        have d4 := After.cell (B := wr.heap.size) C.c4 hb
        have d5 := After.cell (B := wr.heap.size) C.c5 hb
        have d6 := After.cell (B := wr.heap.size) C.c6 hb
        have d7 := After.cell (B := wr.heap.size) C.c7 hb
        obtain ⟨c0, c1, c2, c3, c4, c5, c6, c7⟩ := C
        clear C2 HAt
        go_upto_region 6 with fail
        by_cases h8 : r.kind = 8
        · have e8 : (r.kind != 8) = false := by simp [h8]
          by_cases ho : r.of_ = id
          · have eo : (r.of_ != id) = false := by simp [ho]
            cases ha : aimsB l r with
            | false =>
              have HJ : Hid (((corQ l (l.take (i + 1)) id).map Rep.id).getD (-1) = z) := Lib.hid (by rw [HT.out, corQ_step, if_neg (by rw [show corB l id r = false by unfold corB; simp [ha]]; simp), hz])
              have GA : Hid (∀ x : After wr.heap.size wr, Calls Tryz.prog 86 #[.slice (some ⟨b, off, none⟩) l.length c, .agg #[.int .i64 r.id, .int .i64 r.src, .int .i64 r.acc, .int .i64 r.made, .int .i64 r.about, .int .u8 r.kind, .int .i64 r.cents, .int .i64 r.of_]] x.val fun e w' => e = .returned (.bool false) ∧ Below x.val.heap.size x.val w') := Lib.hid (fun x => by have q := aims3_any l (some ⟨b, off, none⟩) c r x.val (h9.later x.property) hl; rw [ha] at q; exact q)
              clear h8 ho ha hR h9 HT
              refine wp_region_class_lit (C := fun w' => ∃ z : After wr.heap.size wr, w' = z.val) (by kernel_rfl) (by kernel_rfl) ⟨⟨_, (Below.refl _ _).drew⟩, rfl⟩ ?_
              repeat (go_big_quiet_step ((first
                | (go_at_call 86; with_reducible exact after_of (Nat.le_refl _) _ (GA.out _)))))
              refine wpQuiet_nil ?_
              intro wq hw'
              obtain ⟨⟨wz, hz⟩, hw''⟩ := hw'
              dsimp only at hw''
              subst hw''
              have hfin := hB.trans (hz.mono hB.size)
              go_wp2_with fail
              go_roundw
              case rel => exact ⟨i + 1, z, by omega, by first | rfl | go_num, by first | rfl | go_num, Lib.hid ⟨HJ.out, hfin⟩⟩
              case measure => simp [vInt]; omega
            | true =>
              by_cases hw : 0 ≤ wdV l r.id
              · have ew : decide ((0 : Int) ≤ wdV l r.id) = true := decide_eq_true hw
                have HJ : Hid (((corQ l (l.take (i + 1)) id).map Rep.id).getD (-1) = z) := Lib.hid (by rw [HT.out, corQ_step, if_neg (by rw [show corB l id r = false by unfold corB; simp [show ¬ wdV l r.id < 0 by omega]]; simp), hz])
                have GA : Hid (∀ x : After wr.heap.size wr, Calls Tryz.prog 86 #[.slice (some ⟨b, off, none⟩) l.length c, .agg #[.int .i64 r.id, .int .i64 r.src, .int .i64 r.acc, .int .i64 r.made, .int .i64 r.about, .int .u8 r.kind, .int .i64 r.cents, .int .i64 r.of_]] x.val fun e w' => e = .returned (.bool true) ∧ Below x.val.heap.size x.val w') := Lib.hid (fun x => by have q := aims3_any l (some ⟨b, off, none⟩) c r x.val (h9.later x.property) hl; rw [ha] at q; exact q)
                have GW : Hid (∀ x : After wr.heap.size wr, Calls Tryz.prog 63 #[.slice (some ⟨b, off, none⟩) l.length c, .int .i64 r.id] x.val fun e w' => e = .returned (.int .i64 (wdV l r.id)) ∧ Below x.val.heap.size x.val w') := Lib.hid (fun x => withdrawn3_any l (some ⟨b, off, none⟩) c r.id x.val (h9.later x.property) hl hkn)
                clear h8 ho ha hw hR h9 HT
                refine wp_region_class_lit (C := fun w' => ∃ z : After wr.heap.size wr, w' = z.val) (by kernel_rfl) (by kernel_rfl) ⟨⟨_, (Below.refl _ _).drew⟩, rfl⟩ ?_
                repeat (go_big_quiet_step ((first
                  | (go_at_call 86; with_reducible exact after_of (Nat.le_refl _) _ (GA.out _))
                  | (go_at_call 63; with_reducible exact after_of (Nat.le_refl _) _ (GW.out _)))))
                refine wpQuiet_nil ?_
                intro wq hw'
                obtain ⟨⟨wz, hz⟩, hw''⟩ := hw'
                dsimp only at hw''
                subst hw''
                have hfin := hB.trans (hz.mono hB.size)
                go_wp2_with fail
                go_roundw
                case rel => exact ⟨i + 1, z, by omega, by first | rfl | go_num, by first | rfl | go_num, Lib.hid ⟨HJ.out, hfin⟩⟩
                case measure => simp [vInt]; omega
              · have ew : decide ((0 : Int) ≤ wdV l r.id) = false := decide_eq_false hw
                cases hc : centsB s.kind r.cents with
                | false =>
                  have HJ : Hid (((corQ l (l.take (i + 1)) id).map Rep.id).getD (-1) = z) := Lib.hid (by rw [HT.out, corQ_step, if_neg (by rw [show corB l id r = false by unfold corB; simp [hkind, hc]]; simp), hz])
                  have GA : Hid (∀ x : After wr.heap.size wr, Calls Tryz.prog 86 #[.slice (some ⟨b, off, none⟩) l.length c, .agg #[.int .i64 r.id, .int .i64 r.src, .int .i64 r.acc, .int .i64 r.made, .int .i64 r.about, .int .u8 r.kind, .int .i64 r.cents, .int .i64 r.of_]] x.val fun e w' => e = .returned (.bool true) ∧ Below x.val.heap.size x.val w') := Lib.hid (fun x => by have q := aims3_any l (some ⟨b, off, none⟩) c r x.val (h9.later x.property) hl; rw [ha] at q; exact q)
                  have GW : Hid (∀ x : After wr.heap.size wr, Calls Tryz.prog 63 #[.slice (some ⟨b, off, none⟩) l.length c, .int .i64 r.id] x.val fun e w' => e = .returned (.int .i64 (wdV l r.id)) ∧ Below x.val.heap.size x.val w') := Lib.hid (fun x => withdrawn3_any l (some ⟨b, off, none⟩) c r.id x.val (h9.later x.property) hl hkn)
                  have GC : Hid (∀ x : After wr.heap.size wr, Calls Tryz.prog 85 #[.int .u8 s.kind, .int .i64 r.cents] x.val fun e w' => e = .returned (.bool false) ∧ x.val = w') := Lib.hid (fun x => by have q := cents3_any s.kind r.cents x.val; rw [hc] at q; exact q)
                  clear h8 ho ha hw hc hR h9 HT
                  refine wp_region_class_lit (C := fun w' => ∃ z : After wr.heap.size wr, w' = z.val) (by kernel_rfl) (by kernel_rfl) ⟨⟨_, (Below.refl _ _).drew⟩, rfl⟩ ?_
                  repeat (go_big_quiet_step ((first
                    | (go_at_call 86; with_reducible exact after_of (Nat.le_refl _) _ (GA.out _))
                    | (go_at_call 63; with_reducible exact after_of (Nat.le_refl _) _ (GW.out _))
                    | (go_at_call 85; with_reducible exact after_of_same _ (GC.out _)))))
                  refine wpQuiet_nil ?_
                  intro wq hw'
                  obtain ⟨⟨wz, hz⟩, hw''⟩ := hw'
                  dsimp only at hw''
                  subst hw''
                  have hfin := hB.trans (hz.mono hB.size)
                  go_wp2_with fail
                  go_roundw
                  case rel => exact ⟨i + 1, z, by omega, by first | rfl | go_num, by first | rfl | go_num, Lib.hid ⟨HJ.out, hfin⟩⟩
                  case measure => simp [vInt]; omega
                | true =>
                  have hcb : corB l id r = true := by unfold corB; simp [h8, ho, ha, hkind, hc, show wdV l r.id < 0 by omega]
                  have hstep : corQ l (l.take (i + 1)) id = corStep (corQ l (l.take i) id) r := by rw [HT.out, corQ_step, if_pos hcb]
                  have GA : Hid (∀ x : After wr.heap.size wr, Calls Tryz.prog 86 #[.slice (some ⟨b, off, none⟩) l.length c, .agg #[.int .i64 r.id, .int .i64 r.src, .int .i64 r.acc, .int .i64 r.made, .int .i64 r.about, .int .u8 r.kind, .int .i64 r.cents, .int .i64 r.of_]] x.val fun e w' => e = .returned (.bool true) ∧ Below x.val.heap.size x.val w') := Lib.hid (fun x => by have q := aims3_any l (some ⟨b, off, none⟩) c r x.val (h9.later x.property) hl; rw [ha] at q; exact q)
                  have GW : Hid (∀ x : After wr.heap.size wr, Calls Tryz.prog 63 #[.slice (some ⟨b, off, none⟩) l.length c, .int .i64 r.id] x.val fun e w' => e = .returned (.int .i64 (wdV l r.id)) ∧ Below x.val.heap.size x.val w') := Lib.hid (fun x => withdrawn3_any l (some ⟨b, off, none⟩) c r.id x.val (h9.later x.property) hl hkn)
                  have GC : Hid (∀ x : After wr.heap.size wr, Calls Tryz.prog 85 #[.int .u8 s.kind, .int .i64 r.cents] x.val fun e w' => e = .returned (.bool true) ∧ x.val = w') := Lib.hid (fun x => by have q := cents3_any s.kind r.cents x.val; rw [hc] at q; exact q)
                  clear h8 ho ha hw hc hcb hR
                  refine wp_region_class_lit (C := fun w' => ∃ z : After wr.heap.size wr, w' = z.val) (by kernel_rfl) (by kernel_rfl) ⟨⟨_, (Below.refl _ _).drew⟩, rfl⟩ ?_
                  repeat (go_big_quiet_step ((first
                    | (go_at_call 86; with_reducible exact after_of (Nat.le_refl _) _ (GA.out _))
                    | (go_at_call 63; with_reducible exact after_of (Nat.le_refl _) _ (GW.out _))
                    | (go_at_call 85; with_reducible exact after_of_same _ (GC.out _)))))
                  refine wpQuiet_nil ?_
                  intro wq hw'
                  obtain ⟨⟨wz, hz⟩, hw''⟩ := hw'
                  dsimp only at hw''
                  subst hw''
                  have hfin := hB.trans (hz.mono hB.size)
                  have h10 := h9.later hz
                  clear GA GW GC h9 c0 c1 c2 c3 c4 c5 c6 c7 d0 d3 d5 d6 d7 k5 g5
                  obtain ⟨_, _, e3, hb10, C10⟩ := h10.eight hlt
                  cases e3
                  rw [HRi.out] at C10
                  have u0 := C10.c0
                  have u3 := C10.c3
                  have v0 := After.cell (B := wq.heap.size) C10.c0 hb10
                  have v3 := After.cell (B := wq.heap.size) C10.c3 hb10
                  clear C10
                  cases hq : corQ l (l.take i) id with
                  | none =>
                    rw [hq] at hzz hstep
                    obtain rfl : z = -1 := hzz.symm
                    have HJ : Hid (((corQ l (l.take (i + 1)) id).map Rep.id).getD (-1) = r.id) := Lib.hid (by rw [hstep]; rfl)
                    clear hq hstep hzz h10 HT
                    go_upto_region 7 with fail
                    refine wp_region_class_lit (C := fun w' => ∃ z : After wq.heap.size wq, w' = z.val) (by kernel_rfl) (by kernel_rfl) ⟨⟨_, (Below.refl _ _).drew⟩, rfl⟩ ?_
                    repeat (go_big_quiet_step (fail))
                    refine wpQuiet_nil ?_
                    intro wq2 hw'
                    obtain ⟨⟨wy, hy⟩, hw''⟩ := hw'
                    dsimp only at hw''
                    subst hw''
                    have hfin2 := hfin.trans (hy.mono hfin.size)
                    have y0 := (hy.cell (p := ⟨b, off + i * 8, none⟩) hb10).trans u0
                    go_wp2_with fail
                    go_roundw
                    case rel => exact ⟨i + 1, r.id, by omega, by first | rfl | go_num, by first | rfl | go_num, Lib.hid ⟨HJ.out, hfin2⟩⟩
                    case measure => simp [vInt]; omega
                  | some m =>
                    rw [hq] at hzz hstep
                    obtain rfl : z = m.id := hzz.symm
                    have hm : m ∈ l := List.mem_of_mem_take (corQ_mem hq)
                    have hm0 : decide (m.id < 0) = false := decide_eq_false (by have := H0.out m hm; omega)
                    obtain ⟨j, hj, hxj, haj⟩ : ∃ j, ∃ h : j < l.length, ixR l m.id = j ∧ atR l m.id = some l[j] := by
                      rcases ixR_cases l m.id with ⟨_, e⟩ | e
                      · rw [atR_mem Hnd.out hm] at e; cases e
                      · exact e
                    rw [atR_mem Hnd.out hm] at haj
                    have hmj := (Option.some.inj haj).symm
                    have GT : Hid (∀ x : After wq.heap.size wq, Calls Tryz.prog 22 #[.slice (some ⟨b, off, none⟩) l.length c, .int .i64 m.id] x.val fun e w' => e = .returned (.int .i64 (j : Int)) ∧ x.val = w') := Lib.hid (fun x => hxj ▸ at3_any l (some ⟨b, off, none⟩) c m.id x.val (h10.later x.property) hl)
                    obtain ⟨_, _, e4, _, C11⟩ := h10.eight hj
                    cases e4
                    rw [hmj] at C11
                    have t3 := After.cell (B := wq.heap.size) C11.c3 hb10
                    have hjl : (j : Int) < (l.length : Int) := by omega
                    clear C11 hmj haj hxj hm hq hzz h10 HT
                    by_cases q1 : m.made < r.made
                    · skip
                      have HJ : Hid (((corQ l (l.take (i + 1)) id).map Rep.id).getD (-1) = r.id) := Lib.hid (by rw [hstep]; show ((corStep (some m) r).map Rep.id).getD (-1) = _; rw [show corStep (some m) r = if laterB r m = true then some r else some m from rfl, if_pos (by rw [laterB_iff]; omega)]; rfl)
                      have p1 : decide (m.made < r.made) = true := decide_eq_true q1
                      clear hstep
                      go_upto_region 7 with fail
                      refine wp_region_class_lit (C := fun w' => ∃ z : After wq.heap.size wq, w' = z.val) (by kernel_rfl) (by kernel_rfl) ⟨⟨_, (Below.refl _ _).drew⟩, rfl⟩ ?_
                      repeat (go_big_quiet_step ((first
                        | (go_at_call 22; with_reducible exact after_of_same _ (GT.out _)))))
                      refine wpQuiet_nil ?_
                      intro wq2 hw'
                      obtain ⟨⟨wy, hy⟩, hw''⟩ := hw'
                      dsimp only at hw''
                      subst hw''
                      have hfin2 := hfin.trans (hy.mono hfin.size)
                      have y0 := (hy.cell (p := ⟨b, off + i * 8, none⟩) hb10).trans u0
                      go_wp2_with fail
                      go_roundw
                      case rel => exact ⟨i + 1, r.id, by omega, by first | rfl | go_num, by first | rfl | go_num, Lib.hid ⟨HJ.out, hfin2⟩⟩
                      case measure => simp [vInt]; omega
                    · by_cases q2 : r.made = m.made
                      · by_cases q3 : m.id < r.id
                        · skip
                          have HJ : Hid (((corQ l (l.take (i + 1)) id).map Rep.id).getD (-1) = r.id) := Lib.hid (by rw [hstep]; show ((corStep (some m) r).map Rep.id).getD (-1) = _; rw [show corStep (some m) r = if laterB r m = true then some r else some m from rfl, if_pos (by rw [laterB_iff]; omega)]; rfl)
                          have p1 : decide (m.made < r.made) = false := decide_eq_false q1
                          have p2 : (r.made == m.made) = true := by simp [q2]
                          have p3 : decide (m.id < r.id) = true := decide_eq_true q3
                          clear hstep
                          go_upto_region 7 with fail
                          refine wp_region_class_lit (C := fun w' => ∃ z : After wq.heap.size wq, w' = z.val) (by kernel_rfl) (by kernel_rfl) ⟨⟨_, (Below.refl _ _).drew⟩, rfl⟩ ?_
                          repeat (go_big_quiet_step ((first
                            | (go_at_call 22; with_reducible exact after_of_same _ (GT.out _)))))
                          refine wpQuiet_nil ?_
                          intro wq2 hw'
                          obtain ⟨⟨wy, hy⟩, hw''⟩ := hw'
                          dsimp only at hw''
                          subst hw''
                          have hfin2 := hfin.trans (hy.mono hfin.size)
                          have y0 := (hy.cell (p := ⟨b, off + i * 8, none⟩) hb10).trans u0
                          go_wp2_with fail
                          go_roundw
                          case rel => exact ⟨i + 1, r.id, by omega, by first | rfl | go_num, by first | rfl | go_num, Lib.hid ⟨HJ.out, hfin2⟩⟩
                          case measure => simp [vInt]; omega
                        · skip
                          have HJ : Hid (((corQ l (l.take (i + 1)) id).map Rep.id).getD (-1) = m.id) := Lib.hid (by rw [hstep]; show ((corStep (some m) r).map Rep.id).getD (-1) = _; rw [show corStep (some m) r = if laterB r m = true then some r else some m from rfl, if_neg (by rw [laterB_iff]; omega)]; rfl)
                          have p1 : decide (m.made < r.made) = false := decide_eq_false q1
                          have p2 : (r.made == m.made) = true := by simp [q2]
                          have p3 : decide (m.id < r.id) = false := decide_eq_false q3
                          clear hstep
                          go_upto_region 7 with fail
                          refine wp_region_class_lit (C := fun w' => ∃ z : After wq.heap.size wq, w' = z.val) (by kernel_rfl) (by kernel_rfl) ⟨⟨_, (Below.refl _ _).drew⟩, rfl⟩ ?_
                          repeat (go_big_quiet_step ((first
                            | (go_at_call 22; with_reducible exact after_of_same _ (GT.out _)))))
                          refine wpQuiet_nil ?_
                          intro wq2 hw'
                          obtain ⟨⟨wy, hy⟩, hw''⟩ := hw'
                          dsimp only at hw''
                          subst hw''
                          have hfin2 := hfin.trans (hy.mono hfin.size)
                          go_wp2_with fail
                          go_roundw
                          case rel => exact ⟨i + 1, m.id, by omega, by first | rfl | go_num, by first | rfl | go_num, Lib.hid ⟨HJ.out, hfin2⟩⟩
                          case measure => simp [vInt]; omega
                      · skip
                        have HJ : Hid (((corQ l (l.take (i + 1)) id).map Rep.id).getD (-1) = m.id) := Lib.hid (by rw [hstep]; show ((corStep (some m) r).map Rep.id).getD (-1) = _; rw [show corStep (some m) r = if laterB r m = true then some r else some m from rfl, if_neg (by rw [laterB_iff]; omega)]; rfl)
                        have p1 : decide (m.made < r.made) = false := decide_eq_false q1
                        have p2 : (r.made == m.made) = false := by simpa using q2
                        clear hstep
                        go_upto_region 7 with fail
                        refine wp_region_class_lit (C := fun w' => ∃ z : After wq.heap.size wq, w' = z.val) (by kernel_rfl) (by kernel_rfl) ⟨⟨_, (Below.refl _ _).drew⟩, rfl⟩ ?_
                        repeat (go_big_quiet_step ((first
                          | (go_at_call 22; with_reducible exact after_of_same _ (GT.out _)))))
                        refine wpQuiet_nil ?_
                        intro wq2 hw'
                        obtain ⟨⟨wy, hy⟩, hw''⟩ := hw'
                        dsimp only at hw''
                        subst hw''
                        have hfin2 := hfin.trans (hy.mono hfin.size)
                        go_wp2_with fail
                        go_roundw
                        case rel => exact ⟨i + 1, m.id, by omega, by first | rfl | go_num, by first | rfl | go_num, Lib.hid ⟨HJ.out, hfin2⟩⟩
                        case measure => simp [vInt]; omega
          · have eo : (r.of_ != id) = true := by simpa using ho
            have HJ : Hid (((corQ l (l.take (i + 1)) id).map Rep.id).getD (-1) = z) := Lib.hid (by rw [HT.out, corQ_step, if_neg (by rw [show corB l id r = false by unfold corB; simp [ho]]; simp), hz])
            clear h8 ho hR h9 HT
            refine wp_region_class_lit (C := fun w' => ∃ z : After wr.heap.size wr, w' = z.val) (by kernel_rfl) (by kernel_rfl) ⟨⟨_, (Below.refl _ _).drew⟩, rfl⟩ ?_
            repeat (go_big_quiet_step (fail))
            refine wpQuiet_nil ?_
            intro wq hw'
            obtain ⟨⟨wz, hz⟩, hw''⟩ := hw'
            dsimp only at hw''
            subst hw''
            have hfin := hB.trans (hz.mono hB.size)
            go_wp2_with fail
            go_roundw
            case rel => exact ⟨i + 1, z, by omega, by first | rfl | go_num, by first | rfl | go_num, Lib.hid ⟨HJ.out, hfin⟩⟩
            case measure => simp [vInt]; omega
        · have e8 : (r.kind != 8) = true := by simpa using h8
          have HJ : Hid (((corQ l (l.take (i + 1)) id).map Rep.id).getD (-1) = z) := Lib.hid (by rw [HT.out, corQ_step, if_neg (by rw [show corB l id r = false by unfold corB; simp [h8]]; simp), hz])
          clear h8 hR h9 HT
          refine wp_region_class_lit (C := fun w' => ∃ z : After wr.heap.size wr, w' = z.val) (by kernel_rfl) (by kernel_rfl) ⟨⟨_, (Below.refl _ _).drew⟩, rfl⟩ ?_
          repeat (go_big_quiet_step (fail))
          refine wpQuiet_nil ?_
          intro wq hw'
          obtain ⟨⟨wz, hz⟩, hw''⟩ := hw'
          dsimp only at hw''
          subst hw''
          have hfin := hB.trans (hz.mono hB.size)
          go_wp2_with fail
          go_roundw
          case rel => exact ⟨i + 1, z, by omega, by first | rfl | go_num, by first | rfl | go_num, Lib.hid ⟨HJ.out, hfin⟩⟩
          case measure => simp [vInt]; omega
    · have hil : ¬ (i : Int) < (l.length : Int) := by omega
      have Hv : Hid (z = ((corV l id).map Rep.id).getD (-1)) := Lib.hid (by
        have q := hR.out.1
        rw [List.take_of_length_le (by omega)] at q
        exact q.symm)
      have hfin := hR.out.2
      clear hR
      go_wp2_with fail
      go_ret
      exact ⟨by rw [← Hv.out]; rfl, hfin⟩

end Go.Proofs.YtkpaikampmeooaaGreatDoor
