/- Between, by the reference: what is answered. Written by a program. -/
import Derived.Test.YtijhbcmmoagdmaaSBR6L
import Derived.Deep.LoopGhost

namespace Go.Proofs.Ytijhbcmmoagdmaa
open Go.RowKit Go.Maps


set_option maxRecDepth 100000 in
set_option maxHeartbeats 16000000 in
theorem betR_good (traits need : Int) (cl : List CrdD) (tl : List TreD) (C T : Option Addr) (c t : Nat) (sp : List Spn) (SA : Option Addr) (sc : Nat) (w : World) (h : MdlAt w w.heap.size ⟨traits, cl, C, c, tl, T, t, need⟩) (hls : MdlLe ⟨traits, cl, C, c, tl, T, t, need⟩) (hx : SpnsAt w w.heap.size SA sp) (hxl : sp.length ≤ 10) (hq : mdlB ⟨traits, cl.map CrdD.v, tl.map TreD.v, need⟩ = true) (hn : (sp.length : Int) = traits) (hv : spnsB traits sp = true) :
    Calls Try.prog 16 #[.agg #[.int .i64 traits, .slice C cl.length c, .slice T tl.length t, .int .i64 need], .slice SA sp.length sc] w fun e w' => e = .returned (.tuple #[.agg #[.int .i64 (loL ((vecs (stepsL ⟨traits, cl.map CrdD.v, tl.map TreD.v, need⟩ sp)).map (scoreM ⟨traits, cl.map CrdD.v, tl.map TreD.v, need⟩))), .int .i64 (hiL ((vecs (stepsL ⟨traits, cl.map CrdD.v, tl.map TreD.v, need⟩ sp)).map (scoreM ⟨traits, cl.map CrdD.v, tl.map TreD.v, need⟩)))], .int .i64 0]) ∧ Below w.heap.size w w' := by
  have b1 := (Below.refl w.heap.size w).alloc (Nat.le_refl _) (.cells #[.int .i64 traits, .slice C cl.length c, .slice T tl.length t, .int .i64 need] 25)
  have b2 := b1.alloc b1.size (.cells #[.int .i64 0, .int .i64 0] 45)
  have km := (Blk.new w #[.int .i64 traits, .slice C cl.length c, .slice T tl.length t, .int .i64 need] 25).alloc (.cells #[.int .i64 0, .int .i64 0] 45)
  have kr := newAt' (w.alloc (.cells #[.int .i64 traits, .slice C cl.length c, .slice T tl.length t, .int .i64 need] 25)) #[.int .i64 0, .int .i64 0] 45 (g := w.heap.size + 1) (by simp)
  have kmc := km.cell
  have HC := Lib.hid (check6_all traits need cl tl C T c t _ (h.later b2) hls)
  have gm := km.lt
  have gr := kr.lt
  have hf : mdlE ⟨traits, cl.map CrdD.v, tl.map TreD.v, need⟩ = 0 := by unfold mdlE; rw [if_pos hq]
  rw [hf] at HC
  have e1 : ((sp.length : Int) != traits) = false := by simpa using hn
  have hsl : ∀ k, k < sp.length → ∀ y ∈ cl, k < y.scales.length := fun k hk y hy => by
    have h7 := crdB_parts ((mdlB_parts hq).2.2.2.2.1 _ (List.mem_map_of_mem hy))
    have h8 : (y.scales.length : Int) = traits := by have := h7.2.2.1; simpa [CrdD.v] using this
    omega
  have HSt := Lib.hid (fun W (hb : Below w.heap.size w W) k (hk : k < sp.length) lo hi => steps6_any traits need cl tl C T c t k lo hi W (h.later hb) hls (hsl k hk))
  have HX := Lib.hid (fun W (hb : Below w.heap.size w W) => hx.later hb)
  have HVa : Hid ((∀ j, j < sp.length → spnB (sp.getD j default) = true) ↔ spnsB traits sp = true) := Lib.hid (by
    unfold spnsB
    rw [Bool.and_eq_true, decide_eq_true_eq, List.all_eq_true]
    constructor
    · intro h; refine ⟨hn, fun x hx => ?_⟩
      obtain ⟨j, hj, rfl⟩ := List.getElem_of_mem hx
      have := h j hj
      rwa [getD_lt sp default hj] at this
    · rintro ⟨_, h⟩ j hj
      rw [getD_lt sp default hj]; exact h _ (List.getElem_mem hj))
  rw [hv] at HVa
  obtain ⟨i4, hi4, hq0, hq1, hq2⟩ := info_parts lsInfo
  have HPos := Lib.hid (lens_pos ⟨traits, cl.map CrdD.v, tl.map TreD.v, need⟩ sp)
  have HLen : Hid (∀ n ∈ lens (stepsL ⟨traits, cl.map CrdD.v, tl.map TreD.v, need⟩ sp), n ≤ 2000) := Lib.hid (fun n hn' => by
    unfold lens stepsL at hn'
    rw [List.map_map] at hn'
    obtain ⟨k, _, rfl⟩ := List.mem_map.1 hn'
    have h1 := stepsI_lenL (sp.getD k default).lo (sp.getD k default).hi (cutsT ⟨traits, cl.map CrdD.v, tl.map TreD.v, need⟩ k)
    have h2 := cutsT_len hls k
    show (stepsI _ _ _).length ≤ 2000
    omega)
  have HSco : Hid (∀ W A a x, Below w.heap.size w W → IntsAt W W.heap.size A x → x.length = sp.length → Calls Try.prog 21 #[.agg #[.int .i64 traits, .slice C cl.length c, .slice T tl.length t, .int .i64 need], .slice A sp.length a] W fun e w' => e = .returned (.int .i64 (scoreM ⟨traits, cl.map CrdD.v, tl.map TreD.v, need⟩ x)) ∧ Below W.heap.size W w') := Lib.hid (fun W A a x hb hx' hl => by
    have h5 := (mdlB_parts hq).2.2.2.2.1
    have h6 := (mdlB_parts hq).2.2.2.2.2
    have := score6_all traits need cl tl C T c t x A a W (h.later hb) hx' (fun y hy => by rw [hl, hn]; exact h5 _ (List.mem_map_of_mem hy)) (fun y hy => by rw [hl, hn]; exact h6 _ (List.mem_map_of_mem hy)) hls.cards hls.trees (by omega)
    rw [hl] at this
    exact this)
  have HBd : Hid (∀ x : List Int, x.length = sp.length → -44000000000 ≤ scoreM ⟨traits, cl.map CrdD.v, tl.map TreD.v, need⟩ x ∧ scoreM ⟨traits, cl.map CrdD.v, tl.map TreD.v, need⟩ x ≤ 44000000000) := Lib.hid (fun x hl => scoreM_boundR hq (by rw [hl]; exact hn) (by omega))
  clear h hls hf b1 hn hq hsl hx hv
  go_enter Try.func16, Try.ntmps16
  go_upto_region 1 with fail
  generalize hW : (w.alloc (.cells #[.int .i64 traits, .slice C cl.length c, .slice T tl.length t, .int .i64 need] 25)).alloc (.cells #[.int .i64 0, .int .i64 0] 45) = W2 at *
  clear hW
  have b2s := b2.size
  go_wp2_with (go_at_call 12; (with_reducible refine (HC.out).mono ?_); rintro e w3 ⟨rfl, h3⟩; have b3 := b2.trans (h3.mono b2s); have km3 := km.below h3 gm; have km3c := km3.cell; have kr3 := kr.below h3 gr; have kr3c := kr3.cell; have gm3 := km3.lt; have gr3 := kr3.lt; have hs3 := h3.size)
  generalize hgm : w.heap.size = g0 at *
  clear km kr km3c kr3c gm gr h3 HC
  go_loopw [7, 8] (fun ll ii wr => ∃ (i : Nat) (A2 : Option Addr) (c2 : Nat) (ls : List LsD), i ≤ sp.length ∧ ll = .slice A2 i c2 ∧ ii = .int .i64 i ∧ Hid (ls.map LsD.l = (List.range i).map (fun k => stepsI (sp.getD k default).lo (sp.getD k default).hi (cutsT ⟨traits, cl.map CrdD.v, tl.map TreD.v, need⟩ k)) ∧ (∀ j, j < i → spnB (sp.getD j default) = true)) ∧ Hid (LsInv wr w3.heap.size A2 c2 i ls ∧ Below w3.heap.size w3 wr)) (fun _ ii _ => sp.length - (vInt ii).toNat)
  case atStart => exact ⟨0, none, 0, [], Nat.zero_le _, rfl, rfl, Lib.hid ⟨rfl, fun j hj => absurd hj (Nat.not_lt_zero _)⟩, Lib.hid ⟨⟨rfl, ⟨rfl, .inl ⟨rfl, rfl⟩⟩, fun y hy => by cases hy⟩, Below.refl _ _⟩⟩
  case round =>
    obtain ⟨i, A2, c2, ls, hi0, rfl, rfl, hD, hR⟩ := hrel
    have hB := hR.out.2
    have kmr := km3.below hB gm3
    have krr := kr3.below hB gr3
    have kmc := kmr.cell
    have hBw := b3.trans (hB.mono (by rw [← hgm]; exact b3.size))
    by_cases hlt : i < sp.length
    · have hil : (i : Int) < (sp.length : Int) := by omega
      obtain ⟨b, off, rfl, hb, c0, c1⟩ := spns_at (HX.out _ hBw) hlt
      have hge := getD_lt sp default hlt
      have HE : Hid (spnB (sp.getD i default) = (inN sp[i].lo 0 1000000 && inN sp[i].hi sp[i].lo 1000000)) := Lib.hid (by rw [hge]; rfl)
      have HN : Hid ((List.range (i + 1)).map (fun k => stepsI (sp.getD k default).lo (sp.getD k default).hi (cutsT ⟨traits, cl.map CrdD.v, tl.map TreD.v, need⟩ k)) = (List.range i).map (fun k => stepsI (sp.getD k default).lo (sp.getD k default).hi (cutsT ⟨traits, cl.map CrdD.v, tl.map TreD.v, need⟩ k)) ++ [stepsI sp[i].lo sp[i].hi (cutsT ⟨traits, cl.map CrdD.v, tl.map TreD.v, need⟩ i)]) := Lib.hid (by rw [List.range_succ, List.map_append, List.map_singleton, hge])
      have HCa := Lib.hid (fun W hb => HSt.out W hb i hlt sp[i].lo sp[i].hi)
      clear hge
      generalize sp[i] = y at *
      obtain ⟨lo, hi⟩ := y
      dsimp only at *
      have GC1 : Hid (∀ q : After wr.heap.size wr, Calls Try.prog 25 #[.int .i64 lo, .int .i64 0, .int .i64 1000000] q.val fun e w' => e = .returned (.bool (inN lo 0 1000000)) ∧ Below q.val.heap.size q.val w') := Lib.hid (fun q => (within6_any lo 0 1000000 q.val).mono (fun e w' h => ⟨h.1, h.2 ▸ Below.refl _ _⟩))
      have GC2 : Hid (∀ q : After wr.heap.size wr, Calls Try.prog 25 #[.int .i64 hi, .int .i64 lo, .int .i64 1000000] q.val fun e w' => e = .returned (.bool (inN hi lo 1000000)) ∧ Below q.val.heap.size q.val w') := Lib.hid (fun q => (within6_any hi lo 1000000 q.val).mono (fun e w' h => ⟨h.1, h.2 ▸ Below.refl _ _⟩))
      have d0 := After.cell (B := wr.heap.size) c0 hb
      have d1 := After.cell (B := wr.heap.size) c1 hb
      go_upto_region 10 with fail
      cases r1 : inN lo 0 1000000 with
      | false =>
        rw [r1] at HE GC1
        have HF : Hid (spnB (sp.getD i default) = false) := Lib.hid (by rw [HE.out]; rfl)
        refine wp_region_class_lit (C := fun w' => ∃ z : After wr.heap.size wr, w' = z.val) (by kernel_rfl) (by kernel_rfl) ⟨⟨_, (Below.refl _ _).drew⟩, rfl⟩ ?_
        repeat (go_big_quiet_step ((first
          | (go_at_call 25; with_reducible exact after_of (Nat.le_refl _) _ (GC1.out _)))))
        refine wpQuiet_nil ?_
        intro wq hw'
        obtain ⟨⟨wz, hz⟩, hw''⟩ := hw'
        dsimp only at hw''
        subst hw''
        exact absurd (HVa.out.2 trivial i hlt) (by rw [HF.out]; simp)

      | true =>
        cases r2 : inN hi lo 1000000 with
        | false =>
          rw [r1, r2] at HE
          rw [r1] at GC1
          rw [r2] at GC2
          have HF : Hid (spnB (sp.getD i default) = false) := Lib.hid (by rw [HE.out]; rfl)
          refine wp_region_class_lit (C := fun w' => ∃ z : After wr.heap.size wr, w' = z.val) (by kernel_rfl) (by kernel_rfl) ⟨⟨_, (Below.refl _ _).drew⟩, rfl⟩ ?_
          repeat (go_big_quiet_step ((first
            | (go_at_call 25; with_reducible exact after_of (Nat.le_refl _) _ (GC1.out _))
            | (go_at_call 25; with_reducible exact after_of (Nat.le_refl _) _ (GC2.out _)))))
          refine wpQuiet_nil ?_
          intro wq hw'
          obtain ⟨⟨wz, hz⟩, hw''⟩ := hw'
          dsimp only at hw''
          subst hw''
          exact absurd (HVa.out.2 trivial i hlt) (by rw [HF.out]; simp)

        | true =>
          rw [r1, r2] at HE
          rw [r1] at GC1
          rw [r2] at GC2
          have HF : Hid (spnB (sp.getD i default) = true) := Lib.hid (by rw [HE.out]; rfl)
          refine wp_region_class_lit (C := fun w' => ∃ z : After wr.heap.size wr, w' = z.val) (by kernel_rfl) (by kernel_rfl) ⟨⟨_, (Below.refl _ _).drew⟩, rfl⟩ ?_
          repeat (go_big_quiet_step ((first
            | (go_at_call 25; with_reducible exact after_of (Nat.le_refl _) _ (GC1.out _))
            | (go_at_call 25; with_reducible exact after_of (Nat.le_refl _) _ (GC2.out _)))))
          refine wpQuiet_nil ?_
          intro wq hw'
          obtain ⟨⟨wz, hz⟩, hw''⟩ := hw'
          dsimp only at hw''
          subst hw''
          have kmz := kmr.below hz kmr.lt
          have kmzc := kmz.cell
          have c0q := (hz.cell (p := ⟨b, off + i * 2, none⟩) hb).trans c0
          have c1q := (hz.cell (p := ⟨b, off + i * 2 + 1, none⟩) hb).trans c1
          have D0 : Below g0 w wq.drew := (hBw.trans (hz.mono (by have := hBw.size; rw [hgm] at this; exact this))).drew
          have HI := Lib.hid ((hR.out.1.below hz).below ((Below.refl _ _).drew))
          have HB9 : Hid (Below w3.heap.size w3 wq.drew) := Lib.hid ((hB.trans (hz.mono hB.size)).drew)
          have hls3 := HB9.out.size
          have hls4 : w3.heap.size ≤ wq.heap.size := hls3
          generalize stepsI lo hi (cutsT ⟨traits, cl.map CrdD.v, tl.map TreD.v, need⟩ i) = sl at *
          clear kmr krr kmc hB hBw d0 d1 GC1 GC2 c0 c1 r1 r2 HE hz kmz
          go_upto_region 12 with fail
          go_region_law (first
            | (go_simp; go_at_call 33; (with_reducible refine (HCa.out _ D0).mono ?_); rintro e w7 ⟨A7, a7, rfl, hA7, ha7, h7, f7⟩; have hI7 := HI.out.below h7; have hI8 := hI7.below ((Below.refl w7.heap.size w7).alloc (Nat.le_refl _) (.cells #[.slice A7 sl.length a7] 26)); have hv7 := h7.size)
            | (refine step_append_src (by rfl) _ _ _ (by rfl) w3.heap.size 26 i4 _ 1 24 Try.underlying78 hi4 hq0 hq1 hq2 rfl (by decide) _ _ _ (by rfl) hI8.2.1 (some ⟨w7.heap.size, 0, none⟩) 1 1 [.slice A7 sl.length a7] (by rfl) (by rfl) (fun e => by cases e) (fun ad e => by cases e; exact sl_new w7 _ _) sl_ones (by unfold maxLen; omega) (by omega) (by rw [World.size_alloc]; exact Nat.le_trans (Nat.le_trans hls4 hv7) (Nat.le_succ _)) ?_; intro v8 w8 hown8 hg8 ho8; obtain ⟨A8, c8, rfl⟩ := own_slice hown8))
          all_goals have hfx : FlatX 1 intC (w7.alloc (.cells #[.slice A7 sl.length a7] 26)) w3.heap.size (Value.slice A2 i c2).ownBlock A7 sl := FlatX.below (fun k hk => by
            obtain ⟨b9, off9, e9, h1, h2⟩ := hA7 k hk
            have h3 := f7 _ e9
            exact ⟨b9, off9, e9, Nat.le_trans hls4 h3, h1, fun e => by have := (HI.out.lt b9 e.symm).2; exact absurd (Nat.lt_of_lt_of_le this h3) (Nat.lt_irrefl _), h2⟩) ((Below.refl _ _).alloc (Nat.le_refl _) _)
          all_goals have hpush := LsInv.push (z := ⟨sl, A7, a7⟩) hI8 hfx hown8 hg8 ho8
          all_goals have hB8 : Below w3.heap.size w3 w8 := ((HB9.out.trans (h7.mono hls4)).alloc (Nat.le_trans hls4 hv7) (.cells #[.slice A7 sl.length a7] 26)).grown hg8 (by rw [World.size_alloc]; exact Nat.le_trans (Nat.le_trans hls4 hv7) (Nat.le_succ _)) (fun k e => (hI8.lt k e).1)
          all_goals have HFin := Lib.hid (And.intro hpush hB8)
          all_goals clear hpush hB8 hfx hown8 hg8 ho8 hI7 hI8 hA7 h7 f7
          all_goals go_wp2_with fail
          all_goals go_roundw
          all_goals first
            | exact ⟨i + 1, A8, c8, _, by omega, rfl, by go_num, Lib.hid ⟨by rw [List.map_append, hD.out.1, HN.out]; rfl, fun j hj => by
                rcases Nat.lt_or_ge j i with h | h
                · exact hD.out.2 j h
                · obtain rfl : j = i := by omega
                  exact HF.out⟩, Lib.hid HFin.out⟩
            | (simp [vInt]; done)
            | (simp [vInt]; omega)
    · have hil : ¬ (i : Int) < (sp.length : Int) := by omega
      obtain rfl : i = sp.length := by omega
      have hmk := make_int sp.length (by omega)
      have hmk2 : Hid (∀ W, (Instr.makeSlice 26 (.int .i64 (sp.length : Int)) (.int .i64 (sp.length : Int))).run Try.prog W = .ok (.slice (some ⟨W.heap.size, 0, none⟩) sp.length sp.length) (W.alloc (.cells (madeCells #[.int .i64 0] sp.length) 3))) := Lib.hid hmk
      go_upto_region 13 with fail
      go_cut [9, 10] (fun pa pv wx => ∃ ga gv, pa = .slice (some ⟨ga, 0, none⟩) sp.length sp.length ∧ pv = .slice (some ⟨gv, 0, none⟩) sp.length sp.length ∧ Hid (Blk wx ga (madeCells #[.int .i64 0] sp.length) 3 ∧ Blk wx gv (madeCells #[.int .i64 0] sp.length) 3 ∧ ga ≠ gv ∧ wr.heap.size ≤ ga ∧ wr.heap.size ≤ gv ∧ Below wr.heap.size wr wx))
      case first =>
        go_region
        all_goals first | (go_step; go_step; go_meet) | (go_step; go_meet) | go_meet
        all_goals first
          | exact ⟨wr.heap.size, wr.heap.size + 1, rfl, rfl, Lib.hid ⟨((Blk.new wr _ _).alloc _).drew, (newAt' (wr.alloc _) _ _ (by simp)).drew, by omega, Nat.le_refl _, Nat.le_succ _, (((Below.refl _ _).alloc (Nat.le_refl _) _).alloc (by simp) _).drew⟩⟩
          | exact ⟨wr.heap.size + 1, wr.heap.size, rfl, rfl, Lib.hid ⟨(newAt' (wr.alloc _) _ _ (by simp)).drew, ((Blk.new wr _ _).alloc _).drew, by omega, Nat.le_succ _, Nat.le_refl _, (((Below.refl _ _).alloc (Nat.le_refl _) _).alloc (by simp) _).drew⟩⟩
      case rest =>
        obtain ⟨ga, gv, rfl, rfl, HH⟩ := hcut

        obtain ⟨ka, kv, hne, hga, hgv, hBc⟩ := HH.out
        generalize wr = wa at *
        have hLL : (stepsL ⟨traits, cl.map CrdD.v, tl.map TreD.v, need⟩ sp).length = sp.length := stepsL_len _ _
        have hls0 : ls.map LsD.l = stepsL ⟨traits, cl.map CrdD.v, tl.map TreD.v, need⟩ sp := hD.out.1
        have HLI := Lib.hid hR.out.1
        have HBW : Hid (∀ W, Below wa.heap.size wa W → Below g0 w W) := Lib.hid (fun W h => hBw.trans (h.mono (by rw [← hgm]; exact hBw.size)))
        have HKM : Hid (∀ W, Below wa.heap.size wa W → Blk W g0 #[.int .i64 traits, .slice C cl.length c, .slice T tl.length t, .int .i64 need] 25) := Lib.hid (fun W h => kmr.below h kmr.lt)
        have HKR : Hid (∀ W, Below wa.heap.size wa W → Blk W (g0 + 1) #[.int .i64 0, .int .i64 0] 45) := Lib.hid (fun W h => krr.below h krr.lt)
        clear hR hD HH hB hBw kmr krr kmc HSt HX HVa hmk hmk2
        generalize hL : stepsL ⟨traits, cl.map CrdD.v, tl.map TreD.v, need⟩ sp = L at *
        generalize hf : scoreM ⟨traits, cl.map CrdD.v, tl.map TreD.v, need⟩ = f at *
        have hnl : (lens L).length = sp.length := by rw [lens_len]; exact hLL
        have hlsl : ls.length = sp.length := by rw [← hLL, ← hls0, List.length_map]
        have HD2 : Hid (∀ W, Below wa.heap.size wa W → ∀ q, q < nums (lens L) → ∀ i, i < sp.length → ∃ (d n7 : Nat) (A7 : Option Addr) (a7 b off b2 off2 : Nat), A2 = some ⟨b, off, none⟩ ∧ A7 = some ⟨b2, off2, none⟩ ∧ W.cell? ⟨b, off + i, none⟩ = some (.slice A7 n7 a7) ∧ W.cell? ⟨b2, off2 + d, none⟩ = some (.int .i64 ((L.getD i []).getD d 0)) ∧ (dg (digs (lens L) q))[i]? = some (.int .i64 (d : Int)) ∧ d < n7) := Lib.hid (fun W hW q hq i hi => by
          have hi1 : i < ls.length := by omega
          have hdl : i < (digs (lens L) q).length := by rw [digs_len]; omega
          have hd := digs_lt HPos.out hq i (by omega) hdl
          rw [lens_ls hls0 hi1] at hd
          obtain ⟨b, off, e1, _, hb, c0⟩ := HLI.out.outer hi1
          obtain ⟨b2, off2, e2, _, hb2, c1⟩ := HLI.out.inner hi1 hd
          refine ⟨_, _, _, _, b, off, b2, off2, e1, e2, (hW.cell (p := ⟨b, off + i, none⟩) hb).trans c0, ?_, dg_at hdl, hd⟩
          rw [getD_ls hls0 hi1, getD_lt _ _ hd]
          exact (hW.cell (p := ⟨b2, _, none⟩) hb2).trans c1)
        have HO2 : Hid (∀ W, Below wa.heap.size wa W → ∀ i (h : i < (lens L).length), ∃ b off A a, A2 = some ⟨b, off, none⟩ ∧ b < W.heap.size ∧ b ≠ ga ∧ W.cell? ⟨b, off + i, none⟩ = some (.slice A (lens L)[i] a)) := Lib.hid (fun W hW i h => by
          have hi1 : i < ls.length := by omega
          obtain ⟨b, off, e1, _, hb, c0⟩ := HLI.out.outer hi1
          refine ⟨b, off, ls[i].A, ls[i].a, e1, Nat.lt_of_lt_of_le hb hW.size, by omega, ?_⟩
          rw [lens_ls hls0 hi1]
          exact (hW.cell (p := ⟨b, off + i, none⟩) hb).trans c0)
        have HVs : Hid (∀ q, q < nums (lens L) → ∀ i, i < sp.length → ∀ d : Nat, (dg (digs (lens L) q))[i]? = some (.int .i64 (d : Int)) → ∀ v : List Int, v.length = sp.length → ∀ W, Blk W gv (ici ((vecD L (digs (lens L) q)).take i ++ v.drop i)) 3 → Blk (W.setCell ⟨gv, i, none⟩ (.int .i64 ((L.getD i []).getD d 0))) gv (ici ((vecD L (digs (lens L) q)).take (i + 1) ++ v.drop (i + 1))) 3) := Lib.hid (fun q hq i hi d hd v hv W hW => by
          have hdl : i < (digs (lens L) q).length := by rw [digs_len]; omega
          rw [dg_at hdl] at hd
          have hd' : d = (digs (lens L) q).getD i 0 := by
            rw [getD_lt _ _ hdl]
            have := Option.some.inj hd
            simp at this
            omega
          have := hW.set i (.int .i64 ((L.getD i []).getD d 0))
          rw [ici_set, hd', vals_set (by omega) (by omega)] at this
          rw [hd']
          exact this)
        have ka4 := ka.alloc (.cells #[.int .i64 0, .int .i64 0] 45)
        have kv4 := kv.alloc (.cells #[.int .i64 0, .int .i64 0] 45)
        have ko4 := Blk.new wc #[.int .i64 0, .int .i64 0] 45
        have hB4 := hBc.alloc hBc.size (.cells #[.int .i64 0, .int .i64 0] 45)
        have hlga := ka.lt
        have hlgv := kv.lt
        have hlgo := hBc.size
        rw [dg_made, ← hnl, ← digs_zero] at ka4
        rw [ici_made] at kv4
        have HBD := Lib.hid hB4
        clear ka kv hBc HLI hls0 hlsl ls
        go_upto_region 15 with fail
        go_wp2_with fail
        generalize hgo : wc.heap.size = go at *
        generalize hW4 : wc.alloc (.cells #[.int .i64 0, .int .i64 0] 45) = W4 at *
        clear hW4
        go_loopg [12] (nums (lens L) + 1) (fun k ff wr => ∃ (q : Nat) (b : Bool) (lo hi : Int), ff = .bool b ∧ Hid (k + q = nums (lens L) + 1 ∧ b = decide (q = 0) ∧ OdoSt f L q lo hi) ∧ Hid (Below wa.heap.size wa wr ∧ ∃ v : List Int, v.length = sp.length ∧ Blk wr ga (dg (digs (lens L) (q - 1))) 3 ∧ Blk wr gv (ici v) 3 ∧ Blk wr go #[.int .i64 lo, .int .i64 hi] 45))
        case atStart => exact ⟨0, true, 0, 0, rfl, Lib.hid ⟨rfl, rfl, ⟨Nat.zero_le _, fun h => absurd h (by omega), fun h => absurd h (by omega)⟩⟩, Lib.hid ⟨hB4, List.replicate sp.length 0, by simp, ka4, kv4, ko4⟩⟩
        case round =>
          clear ka4 kv4 ko4 hB4
          obtain ⟨q, b, lo, hi, rfl, hQ, hS⟩ := hrel
          obtain ⟨hk, hb, hO⟩ := hQ.out
          obtain ⟨h5B, v, hvl, k5a, k5v, k5o⟩ := hS.out
          have HO := Lib.hid hO
          have hk' := Lib.hid hk
          clear hQ hS hO hk
          by_cases hq0 : q = 0
          · subst hq0
            obtain rfl : b = true := by rw [hb]; rfl
            clear hb
            have HQ0 : 0 < nums (lens L) := nums_pos HPos.out
            have kan := k5a
            have kvn := k5v
            have kon := k5o
            have hBn := h5B
            clear k5a k5v k5o h5B
            go_wp2_with fail
            go_loopw [13] (fun ii wr => ∃ i : Nat, i ≤ sp.length ∧ ii = .int .i64 i ∧ Hid (Blk wr gv (ici ((vecD L (digs (lens L) 0)).take i ++ v.drop i)) 3 ∧ Blk wr ga (dg (digs (lens L) 0)) 3 ∧ Blk wr go #[.int .i64 lo, .int .i64 hi] 45 ∧ Below wa.heap.size wa wr)) (fun ii _ => sp.length - (vInt ii).toNat)
            case atStart => exact ⟨0, Nat.zero_le _, rfl, Lib.hid ⟨by simpa using kvn, kan, kon, hBn⟩⟩
            case round =>
              obtain ⟨i, hile, rfl, hR7⟩ := hrel
              obtain ⟨k7v, k7a, k7o, h7B⟩ := hR7.out
              by_cases hlt : i < sp.length
              · have hil : (i : Int) < (sp.length : Int) := by omega
                obtain ⟨d, n7, A7, a7, b, off, b2, off2, hA2, hA7, c0, c1, c2, hdn⟩ := HD2.out wr h7B 0 HQ0 i hlt
                have hdn' : (d : Int) < (n7 : Int) := by omega
                have a0 := (k7a.cell i).trans c2
                have fv := k7v.free i
                have HST : Hid (∀ W, Blk W gv (ici ((vecD L (digs (lens L) 0)).take i ++ v.drop i)) 3 → Blk (W.setCell ⟨gv, i, none⟩ (.int .i64 ((L.getD i []).getD d 0))) gv (ici ((vecD L (digs (lens L) 0)).take (i + 1) ++ v.drop (i + 1))) 3) := Lib.hid (HVs.out 0 HQ0 i hlt d c2 v hvl)
                have K7 := Lib.hid hR7.out
                obtain ⟨ov, hov⟩ := ici_ex (l := (vecD L (digs (lens L) 0)).take i ++ v.drop i) (i := i) (by rw [List.length_append, List.length_take, List.length_drop, vecD_len]; omega)
                have hvi := (k7v.cell i).trans hov
                generalize (L.getD i []).getD d 0 = xv at c1 HST
                clear hov
                clear k7v k7a k7o hR7 hdn c2
                subst hA2
                subst hA7
                go_upto_region 21 with fail
                go_region
                all_goals go_wp2_with fail
                all_goals go_roundw
                all_goals first
                  | exact ⟨i + 1, by omega, by go_num, Lib.hid ⟨HST.out _ K7.out.1.drew, K7.out.2.1.drew.far (p := ⟨gv, i, none⟩) hne _, K7.out.2.2.1.drew.far (p := ⟨gv, i, none⟩) (Nat.ne_of_gt hlgv) _, (K7.out.2.2.2.drew).setCell (p := ⟨gv, i, none⟩) (by simp; omega) _⟩⟩
                  | (simp [vInt]; done)
                  | (simp [vInt]; omega)
              · have hil : ¬ (i : Int) < (sp.length : Int) := by omega
                obtain rfl : i = sp.length := by omega
                have hvd : (vecD L (digs (lens L) 0)).length = sp.length := by rw [vecD_len]; exact hLL
                have hfull : (vecD L (digs (lens L) 0)).take sp.length ++ v.drop sp.length = vecD L (digs (lens L) 0) := by rw [← hvd, List.take_length, List.drop_eq_nil_of_le (by omega), List.append_nil]
                rw [hfull] at k7v
                have HS := Lib.hid (HSco.out wr _ sp.length _ (HBW.out wr h7B) (ints_ici k7v) hvd)
                have HF2 := HBd.out _ hvd
                have kmq := HKM.out wr h7B
                have kmqc := kmq.cell
                have HB7 := Lib.hid h7B
                clear hR7 h7B hvd hfull
                generalize hn8 : f (vecD L (digs (lens L) 0)) = n at *
                go_upto_region 23 with (go_at_call 21; (with_reducible refine (HS.out).mono ?_); rintro e w8 ⟨rfl, h8⟩; have ko8 := k7o.below h8 k7o.lt; have c8 := ko8.cell; have z80 := ko8.free 0; have z81 := ko8.free 1; have kv8 := k7v.below h8 k7v.lt; have ka8 := k7a.below h8 k7a.lt; have h8B := HB7.out.trans (h8.mono HB7.out.size))
                have ko1 := sp_put (c0 := .int .i64 n) (c1 := .int .i64 n) ko8
                have c9 := ko1.cell
                have z90 := ko1.free 0
                have z91 := ko1.free 1
                have KL := Lib.hid (ko1)
                have KV8 := Lib.hid kv8
                have KA8 := Lib.hid ka8
                have HB8 := Lib.hid (h8B)
                clear kv8 ka8 h8B ko8 k7v k7a k7o ko1
                go_wp2_with fail
                all_goals (go_roundg (gk - 1))
                all_goals first
                  | exact ⟨1, false, n, n, rfl, Lib.hid ⟨by have := hk'.out; omega, rfl, OdoSt.first HPos.out hn8 (by omega) (by omega)⟩, Lib.hid ⟨((((HB8.out).setCell (p := ⟨go, 0, none⟩) hlgo _).setCell (p := ⟨go, 1, none⟩) hlgo _).setCell (p := ⟨go, 0, none⟩) hlgo _).setCell (p := ⟨go, 1, none⟩) hlgo _, vecD L (digs (lens L) 0), by rw [vecD_len]; exact hLL, ((((KA8.out).far (p := ⟨go, 0, none⟩) (Nat.ne_of_lt hlga) _).far (p := ⟨go, 1, none⟩) (Nat.ne_of_lt hlga) _).far (p := ⟨go, 0, none⟩) (Nat.ne_of_lt hlga) _).far (p := ⟨go, 1, none⟩) (Nat.ne_of_lt hlga) _, ((((KV8.out).far (p := ⟨go, 0, none⟩) (Nat.ne_of_lt hlgv) _).far (p := ⟨go, 1, none⟩) (Nat.ne_of_lt hlgv) _).far (p := ⟨go, 0, none⟩) (Nat.ne_of_lt hlgv) _).far (p := ⟨go, 1, none⟩) (Nat.ne_of_lt hlgv) _, sp_put KL.out⟩⟩
                  | (have := hk'.out; omega)

          · obtain rfl : b = false := by rw [hb]; exact decide_eq_false hq0
            clear hb
            have hqle := HO.out.le
            have HNX : Hid (Calls Try.prog 34 #[.slice (some ⟨ga, 0, none⟩) sp.length sp.length, .slice A2 sp.length c2] wr (NextS wr ga 3 (lens L) (digs (lens L) (q - 1)))) := Lib.hid (by
              have := next6_any ga 3 (lens L) (digs (lens L) (q - 1)) A2 sp.length c2 wr (digs_len _ _).symm (by rw [digs_len]; omega) (fun k hk => by
                obtain ⟨j, hj, rfl⟩ := List.getElem_of_mem hk
                have hj2 : j < (lens L).length := by rw [digs_len] at hj; exact hj
                have h1 := digs_lt HPos.out (show q - 1 < nums (lens L) by omega) j hj2 hj
                have h2 := HLen.out _ (List.getElem_mem hj2)
                omega) k5a (HO2.out wr h5B)
              rw [digs_len, hnl] at this
              exact this)
            by_cases hqn : q = nums (lens L)
            · have HND : Hid (nextD (lens L) (digs (lens L) (q - 1)) = (false, digs (lens L) 0)) := Lib.hid (by rw [hqn]; exact nextD_last _ HPos.out)
              have HDN := Lib.hid (OdoSt.done (f := f) (lo := lo) (hi := hi) (by rw [← hqn]; exact HO.out) HPos.out)
              have HK5 := Lib.hid k5o
              have HB5 := Lib.hid h5B
              clear k5a k5v k5o h5B hqn hqle
              go_wp2_with (go_at_call 34; (with_reducible refine (HNX.out).mono ?_); rintro e w9 ⟨bb, d9, rfl, hnx, kz, hK, h9B⟩; rw [HND.out] at hnx; obtain ⟨rfl, rfl⟩ := Prod.mk.inj hnx; have ko9 := HK5.out.kpt hK (Nat.ne_of_gt hlga); have c9 := ko9.cell; have hB9 := HB5.out.trans (h9B.mono hga); have krq := HKR.out w9 hB9; have zz0 := krq.free 0; have zz1 := krq.free 1; have krqc := krq.cell)
              have hrc := (sp_put (c0 := .int .i64 lo) (c1 := .int .i64 hi) krq).cell
              show bodyPost _ _ _ _ _ _
              exact bodyPost_ret (v := .tuple #[.agg #[.int .i64 lo, .int .i64 hi], .int .i64 0]) (by simp [results, Try.results16, go_sem, hrc]) rfl ⟨by rw [hL, hf, ← HDN.out.1, ← HDN.out.2], by rw [hgm]; exact ((HBW.out w9 hB9).setCell (p := ⟨g0 + 1, 0, none⟩) (by simp) _).setCell (p := ⟨g0 + 1, 1, none⟩) (by simp) _⟩
            · have HQ0 : q < nums (lens L) := by omega
              have HND : Hid (nextD (lens L) (digs (lens L) (q - 1)) = (true, digs (lens L) q)) := Lib.hid (by
                have := nextD_step (lens L) HPos.out (q - 1) (by omega)
                rw [show q - 1 + 1 = q by omega] at this
                exact this)
              have HK5 := Lib.hid k5o
              have HV5 := Lib.hid k5v
              have HB5 := Lib.hid h5B
              clear k5a k5v k5o h5B hqn hqle
              go_wp2_with (go_at_call 34; (with_reducible refine (HNX.out).mono ?_); rintro e w9 ⟨bb, d9, rfl, hnx, kan, hK, h9B⟩; rw [HND.out] at hnx; obtain ⟨rfl, rfl⟩ := Prod.mk.inj hnx; have kon := HK5.out.kpt hK (Nat.ne_of_gt hlga); have kvn := HV5.out.kpt hK (fun e => hne e.symm); have hBn := HB5.out.trans (h9B.mono hga))
              go_loopw [13] (fun ii wr => ∃ i : Nat, i ≤ sp.length ∧ ii = .int .i64 i ∧ Hid (Blk wr gv (ici ((vecD L (digs (lens L) q)).take i ++ v.drop i)) 3 ∧ Blk wr ga (dg (digs (lens L) q)) 3 ∧ Blk wr go #[.int .i64 lo, .int .i64 hi] 45 ∧ Below wa.heap.size wa wr)) (fun ii _ => sp.length - (vInt ii).toNat)
              case atStart => exact ⟨0, Nat.zero_le _, rfl, Lib.hid ⟨by simpa using kvn, kan, kon, hBn⟩⟩
              case round =>
                obtain ⟨i, hile, rfl, hR7⟩ := hrel
                obtain ⟨k7v, k7a, k7o, h7B⟩ := hR7.out
                by_cases hlt : i < sp.length
                · have hil : (i : Int) < (sp.length : Int) := by omega
                  obtain ⟨d, n7, A7, a7, b, off, b2, off2, hA2, hA7, c0, c1, c2, hdn⟩ := HD2.out wr h7B q HQ0 i hlt
                  have hdn' : (d : Int) < (n7 : Int) := by omega
                  have a0 := (k7a.cell i).trans c2
                  have fv := k7v.free i
                  have HST : Hid (∀ W, Blk W gv (ici ((vecD L (digs (lens L) q)).take i ++ v.drop i)) 3 → Blk (W.setCell ⟨gv, i, none⟩ (.int .i64 ((L.getD i []).getD d 0))) gv (ici ((vecD L (digs (lens L) q)).take (i + 1) ++ v.drop (i + 1))) 3) := Lib.hid (HVs.out q HQ0 i hlt d c2 v hvl)
                  have K7 := Lib.hid hR7.out
                  obtain ⟨ov, hov⟩ := ici_ex (l := (vecD L (digs (lens L) q)).take i ++ v.drop i) (i := i) (by rw [List.length_append, List.length_take, List.length_drop, vecD_len]; omega)
                  have hvi := (k7v.cell i).trans hov
                  generalize (L.getD i []).getD d 0 = xv at c1 HST
                  clear hov
                  clear k7v k7a k7o hR7 hdn c2
                  subst hA2
                  subst hA7
                  go_upto_region 21 with fail
                  go_region
                  all_goals go_wp2_with fail
                  all_goals go_roundw
                  all_goals first
                    | exact ⟨i + 1, by omega, by go_num, Lib.hid ⟨HST.out _ K7.out.1.drew, K7.out.2.1.drew.far (p := ⟨gv, i, none⟩) hne _, K7.out.2.2.1.drew.far (p := ⟨gv, i, none⟩) (Nat.ne_of_gt hlgv) _, (K7.out.2.2.2.drew).setCell (p := ⟨gv, i, none⟩) (by simp; omega) _⟩⟩
                    | (simp [vInt]; done)
                    | (simp [vInt]; omega)
                · have hil : ¬ (i : Int) < (sp.length : Int) := by omega
                  obtain rfl : i = sp.length := by omega
                  have hvd : (vecD L (digs (lens L) q)).length = sp.length := by rw [vecD_len]; exact hLL
                  have hfull : (vecD L (digs (lens L) q)).take sp.length ++ v.drop sp.length = vecD L (digs (lens L) q) := by rw [← hvd, List.take_length, List.drop_eq_nil_of_le (by omega), List.append_nil]
                  rw [hfull] at k7v
                  have HS := Lib.hid (HSco.out wr _ sp.length _ (HBW.out wr h7B) (ints_ici k7v) hvd)
                  have HF2 := HBd.out _ hvd
                  have kmq := HKM.out wr h7B
                  have kmqc := kmq.cell
                  have HB7 := Lib.hid h7B
                  clear hR7 h7B hvd hfull
                  generalize hn8 : f (vecD L (digs (lens L) q)) = n at *
                  go_upto_region 23 with (go_at_call 21; (with_reducible refine (HS.out).mono ?_); rintro e w8 ⟨rfl, h8⟩; have ko8 := k7o.below h8 k7o.lt; have c8 := ko8.cell; have z80 := ko8.free 0; have z81 := ko8.free 1; have kv8 := k7v.below h8 k7v.lt; have ka8 := k7a.below h8 k7a.lt; have h8B := HB7.out.trans (h8.mono HB7.out.size))
                  have c9 := ko8.cell
                  have z90 := ko8.free 0
                  have z91 := ko8.free 1
                  have KL := Lib.hid (ko8)
                  have KV8 := Lib.hid kv8
                  have KA8 := Lib.hid ka8
                  have HB8 := Lib.hid (h8B)
                  clear kv8 ka8 h8B ko8 k7v k7a k7o
                  go_wp2_with fail
                  all_goals (go_roundg (gk - 1))
                  all_goals first
                    | exact ⟨q + 1, false, _, _, rfl, Lib.hid ⟨by have := hk'.out; omega, by simp, OdoSt.next' HO.out (by omega) HPos.out HQ0 hn8 (by omega) (by omega)⟩, Lib.hid ⟨((HB8.out).setCell (p := ⟨go, 0, none⟩) hlgo _).setCell (p := ⟨go, 1, none⟩) hlgo _, vecD L (digs (lens L) q), by rw [vecD_len]; exact hLL, ((KA8.out).far (p := ⟨go, 0, none⟩) (Nat.ne_of_lt hlga) _).far (p := ⟨go, 1, none⟩) (Nat.ne_of_lt hlga) _, ((KV8.out).far (p := ⟨go, 0, none⟩) (Nat.ne_of_lt hlgv) _).far (p := ⟨go, 1, none⟩) (Nat.ne_of_lt hlgv) _, sp_put KL.out⟩⟩
                    | (have := hk'.out; omega)



end Go.Proofs.Ytijhbcmmoagdmaa
