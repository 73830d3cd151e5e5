/- An audit, opened by the program. Written by voa.py. -/
import Derived.Test.YtbkekdbabkncfaaGreatVSol
import Derived.Test.YtbkekdbabkncfaaGreatUPrg7
import Derived.Test.YtbkekdbabkncfaaGreatW5

namespace Go.Proofs.YtbkekdbabkncfaaGreat
open Go.RowKit Go.Maps

attribute [local go_sem] Oper.semAt_some

theorem avl_parts {columns : Int} {qs : List QueD} (h : avlB columns qs = true) : qs.length ≤ 8 ∧ ∀ q ∈ qs, queB columns q.v = true := by
  unfold avlB at h
  rw [Bool.and_eq_true, decide_eq_true_eq, List.all_eq_true] at h
  refine ⟨h.1, fun q hq => ?_⟩
  have h2 := h.2 q hq
  unfold fitB at h2
  rw [Bool.and_eq_true] at h2
  exact h2.1
theorem leds_noInt {w w' : World} {A : Option Addr} {L : List LedD} {j : Nat} (h : LedsAt w A L) (hs : w.heap.size ≤ w'.heap.size) (hb : ∀ b, b < w.heap.size → b ≠ j → w'.heap[b]? = w.heap[b]?) (hj : ∀ o n, w.cell? ⟨j, o, none⟩ ≠ some (.int .i64 n)) : LedsAt w' A L := by
  refine ⟨fun k hk => ?_, fun x hx => ?_⟩
  · obtain ⟨b, off, e, hlt, hc⟩ := h.row k hk
    have hne : b ≠ j := by
      rintro rfl
      exact hj _ _ (hc 2 (by omega))
    exact ⟨b, off, e, Nat.lt_of_lt_of_le hlt hs, fun i hi => (World.cell?_of_block (hb b hlt hne)).trans (hc i hi)⟩
  · have E := h.each x hx
    exact ⟨(frcs_move (Q := fun _ => True) (FlatP.of_flat E.fs (Nat.le_refl _) (fun _ _ => trivial)) hs hb hj).flat, (frcs_move (Q := fun _ => True) (FlatP.of_flat E.ps (Nat.le_refl _) (fun _ _ => trivial)) hs hb hj).flat, E.fl, E.pl⟩
def AudU (w : World) (columns : Int) (l : List SubD) (qs : List QueD) (e : Ending) (w' : World) : Prop := ∃ ol A c m LA lc L, e = .returned (.tuple #[.agg #[.slice A (List.length ol) c, .map (some m), .slice LA (List.length L) lc], .int .i64 0]) ∧ Hid (ol.Perm l ∧ ol.Pairwise (fun x y => x.v.id ≤ y.v.id) ∧ TabAt w' columns ol A m ∧ L.map LedD.v = solL [] (eqnL ol qs.length 0 (qs.map QueD.v)) ∧ LedsAt w' LA L ∧ smallL L) ∧ Below w.heap.size w w'

set_option maxRecDepth 100000 in
set_option maxHeartbeats 4000000 in
theorem openAudit_bad1 (columns : Int) (l : List SubD) (A : Option Addr) (c : Nat) (qs : List QueD) (S : Option Addr) (sc : Nat) (w : World) (h : SubsAt w w.heap.size A l) (hl : l.length ≤ maxLen) (hm : ∀ x ∈ l, x.v.vals.length ≤ maxLen) (ht : tabB columns (l.map SubD.v) = false) :
    Calls Tryz.prog 44 #[.int .i64 columns, .slice A l.length c, .slice S qs.length sc] w fun e w' => e = .returned (.tuple #[.agg #[.slice none 0 0, .map none, .slice none 0 0], .int .i64 100]) ∧ Below w.heap.size w w' := by
  have b2 := (Below.refl w.heap.size w).alloc (Nat.le_refl _) (.cells #[.slice none 0 0, .map none, .slice none 0 0] 79)
  have k2 := Blk.new w #[.slice none 0 0, .map none, .slice none 0 0] 79
  have HO := Lib.hid (fun W hb => open_bad columns l A c W (h.later hb) hl hm ht)
  have g1 := k2.lt
  clear h hm ht
  go_enter Tryz.func44, Tryz.ntmps44
  go_upto_region 3 with (go_at_call 61; (with_reducible refine (HO.out _ b2).mono ?_); rintro e w1 ⟨rfl, h1⟩; have b3 := b2.trans (h1.mono b2.size); have k3 := k2.below h1 g1)
  have b4 := b3.alloc b3.size (.cells #[.slice none 0 0, .map none] 72)
  have k4 := k3.alloc (.cells #[.slice none 0 0, .map none] 72)
  have k4c := k4.cell
  have k4f := k4.free
  have b5 := (((b4.setCell (p := ⟨w.heap.size, 0, none⟩) (Nat.le_refl _) (.slice none 0 0)).setCell (p := ⟨w.heap.size, 1, none⟩) (Nat.le_refl _) (.map none)).setCell (p := ⟨w.heap.size, 2, none⟩) (Nat.le_refl _) (.slice none 0 0))
  have r0 := (((k4.set 0 (.slice none 0 0)).set 1 (.map none)).set 2 (.slice none 0 0)).cell
  go_wp2_with fail
  refine bodyPost_ret (v := .tuple #[.agg #[.slice none 0 0, .map none, .slice none 0 0], .int .i64 100]) ?hres rfl ?hpost
  case hres => simp [results, Tryz.results44, go_sem, r0]
  case hpost => exact ⟨rfl, b5⟩

set_option maxRecDepth 100000 in
set_option maxHeartbeats 8000000 in
theorem openAudit_bad2 (columns : Int) (l : List SubD) (A : Option Addr) (c : Nat) (qs : List QueD) (S : Option Addr) (sc : Nat) (w : World) (h : SubsAt w w.heap.size A l) (hm : ∀ x ∈ l, x.v.vals.length ≤ maxLen) (HBy : ByAny) (ht : tabB columns (l.map SubD.v) = true) (hq : QuesAt w w.heap.size S qs) (hql : ∀ x ∈ qs, x.v.wheres.length ≤ maxLen) (hqn : qs.length ≤ 1000) (hQ : avlB columns qs = false) :
    Calls Tryz.prog 44 #[.int .i64 columns, .slice A l.length c, .slice S qs.length sc] w fun e w' => e = .returned (.tuple #[.agg #[.slice none 0 0, .map none, .slice none 0 0], .int .i64 102]) ∧ Below w.heap.size w w' := by
  have b2 := (Below.refl w.heap.size w).alloc (Nat.le_refl _) (.cells #[.slice none 0 0, .map none, .slice none 0 0] 79)
  have k2 := Blk.new w #[.slice none 0 0, .map none, .slice none 0 0] 79
  have HO := Lib.hid (fun W hb => open_good columns l A c W (h.later hb) ht hm HBy)
  have hcol := (ask_parts ht).1
  have HV := Lib.hid (fun W' hb => auditValid_any columns qs S sc W' (by omega) (hq.later hb) hqn hql)
  rw [hQ] at HV
  have g2 := k2.lt
  clear h hm ht hq HBy hQ
  go_enter Tryz.func44, Tryz.ntmps44
  go_upto_region 2 with (go_at_call 61; (with_reducible refine (HO.out _ b2).mono ?_); rintro e w1 ⟨ol, OA, oc, m, rfl, hT, h1⟩; have b3 := b2.trans (h1.mono b2.size); have k3 := k2.below h1 g2)
  clear k2 hT HO
  have b4 := b3.alloc b3.size (.cells #[.slice OA ol.length oc, .map (some m)] 72)
  have k4 := k3.alloc (.cells #[.slice OA ol.length oc, .map (some m)] 72)
  have g3 := k4.lt
  clear k3 b3
  go_upto_region 5 with (go_at_call 70; (with_reducible refine (HV.out _ b4).mono ?_); rintro e w2 ⟨rfl, h2⟩; have b5 := b4.trans (h2.mono b4.size); have k5 := k4.below h2 g3)
  have k5c := k5.cell
  have k5f := k5.free
  have b6 := (((b5.setCell (p := ⟨w.heap.size, 0, none⟩) (Nat.le_refl _) (.slice none 0 0)).setCell (p := ⟨w.heap.size, 1, none⟩) (Nat.le_refl _) (.map none)).setCell (p := ⟨w.heap.size, 2, none⟩) (Nat.le_refl _) (.slice none 0 0))
  have r0 := (((k5.set 0 (.slice none 0 0)).set 1 (.map none)).set 2 (.slice none 0 0)).cell
  go_wp2_with fail
  refine bodyPost_ret (v := .tuple #[.agg #[.slice none 0 0, .map none, .slice none 0 0], .int .i64 102]) ?hres rfl ?hpost
  case hres => simp [results, Tryz.results44, go_sem, r0]
  case hpost => exact ⟨rfl, b6⟩

set_option maxRecDepth 100000 in
set_option maxHeartbeats 16000000 in
theorem openAudit_good (columns : Int) (l : List SubD) (A : Option Addr) (c : Nat) (qs : List QueD) (S : Option Addr) (sc : Nat) (w : World) (h : SubsAt w w.heap.size A l) (hm : ∀ x ∈ l, x.v.vals.length ≤ maxLen) (HBy : ByAny) (ht : tabB columns (l.map SubD.v) = true) (hq : QuesAt w w.heap.size S qs) (hql : ∀ x ∈ qs, x.v.wheres.length ≤ maxLen) (hQ : avlB columns qs = true) (hsb : ∀ ol : List SubD, ol.Perm l → ol.Pairwise (fun x y => x.v.id ≤ y.v.id) → solB [] (eqnL ol qs.length 0 (qs.map QueD.v)) = true) :
    CallsIn Fence.wide 9 Tryz.prog 44 #[.int .i64 columns, .slice A l.length c, .slice S qs.length sc] w (AudU w columns l qs) := by
  have hfn : ∀ f, Fence.wide.fn f := fun _ => trivial
  have hdep : Fence.wide.depth.isSome = false := rfl
  have hmx : Tryz.prog.follows .mixedOrders = true := by kernel_rfl
  obtain ⟨hq8, hqb⟩ := avl_parts hQ
  have b2 := (Below.refl w.heap.size w).alloc (Nat.le_refl _) (.cells #[.slice none 0 0, .map none, .slice none 0 0] 79)
  have k2 := Blk.new w #[.slice none 0 0, .map none, .slice none 0 0] 79
  have HO := Lib.hid (fun W hb => open_good columns l A c W (h.later hb) ht hm HBy)
  have hcol := (ask_parts ht).1
  have HV := Lib.hid (fun W' hb => auditValid_any columns qs S sc W' (by omega) (hq.later hb) (by omega) hql)
  rw [hQ] at HV
  have g2 := k2.lt
  have HSB := Lib.hid hsb
  have HQs := Lib.hid hq
  have HQb := Lib.hid hqb
  have HH := Lib.hid h
  clear h hm ht hq HBy hQ hsb hqb
  refine callsIn_of_wp Tryz.func44 rfl trivial ?_ rfl
  simp only [Tryz.ntmps44, List.size_toArray, List.length_cons, List.length_nil, Nat.reduceAdd, Nat.reduceSub, Array.replicate_succ, Array.replicate_zero, List.push_toArray, List.append_toArray, List.nil_append, List.cons_append]
  gi_upto_region 2 with (gi_at_call 61; refine (callsIn_wide.2 (HO.out _ b2)).mono ?_; rintro e w1 ⟨ol, OA, oc, m, rfl, hT, h1⟩; have b3 := b2.trans (h1.mono b2.size); have k3 := k2.below h1 g2)
  clear k2 HO
  have b4 := b3.alloc b3.size (.cells #[.slice OA ol.length oc, .map (some m)] 72)
  have k4 := k3.alloc (.cells #[.slice OA ol.length oc, .map (some m)] 72)
  have t4 := Blk.new w1 #[.slice OA ol.length oc, .map (some m)] 72
  have x4 := (Below.refl w1.heap.size w1).alloc (Nat.le_refl _) (.cells #[.slice OA ol.length oc, .map (some m)] 72)
  have g3 := k4.lt
  have t4l := t4.lt
  clear k3 b3
  gi_upto_region 6 with (gi_at_call 70; refine (callsIn_wide.2 (HV.out _ b4)).mono ?_; rintro e w2 ⟨rfl, h2⟩; have b5 := b4.trans (h2.mono b4.size); have k5 := k4.below h2 g3; have t5 := t4.below h2 t4l)
  have x5 := x4.trans (h2.mono x4.size)
  have hszA : (w.alloc (.cells #[.slice none 0 0, .map none, .slice none 0 0] 79)).heap.size = w.heap.size + 1 := by simp
  have HK5 := Lib.hid k5
  have HT5 := Lib.hid t5
  have HB5 := Lib.hid b5
  have HPS := Lib.hid (And.intro hT.out.1 hT.out.2.1)
  have hsz2 : w.heap.size + 1 ≤ w2.heap.size := k5.lt
  have hTab := hT.out.2.2.tab.later x5
  have HTb := Lib.hid hTab
  have HEq := Lib.hid (fun W' => equations_any OA ol.length oc m S qs.length sc W')
  have HSo := Lib.hid (fun W' lb tb (hb : Below w2.heap.size w2 W') kl kt => solved_any lb tb columns ol OA oc m qs S sc W' kl kt (HTb.out.later hb) (HQs.out.later (HB5.out.trans (hb.mono HB5.out.size))) HQb.out hq8 (HSB.out ol HPS.out.1 HPS.out.2))
  have HTS : Hid (∀ w4, Below w2.heap.size w2 w4 → ∀ u0 u1 u2, TabAt (((w4.setCell ⟨w.heap.size, 0, none⟩ u0).setCell ⟨w.heap.size, 1, none⟩ u1).setCell ⟨w.heap.size, 2, none⟩ u2) columns ol OA m) := by
    obtain ⟨hp, hs, hTN⟩ := hT.out
    have hlow := hTN.low
    obtain ⟨G, n, hM, hG⟩ := hTN.map
    rw [hszA] at hlow
    refine Lib.hid (fun w4 hb u0 u1 u2 => ?_)
    have y5 := x5.trans (hb.mono x5.size)
    have hF := ((Fr.set (P := fun x => w.heap.size + 1 ≤ x) (w := w4) (p := ⟨w.heap.size, 0, none⟩) (fun e => absurd (show w.heap.size + 1 ≤ w.heap.size from e) (by omega)) u0).trans (Fr.set (p := ⟨w.heap.size, 1, none⟩) (fun e => absurd (show w.heap.size + 1 ≤ w.heap.size from e) (by omega)) u1)).trans (Fr.set (p := ⟨w.heap.size, 2, none⟩) (fun e => absurd (show w.heap.size + 1 ≤ w.heap.size from e) (by omega)) u2)
    exact ⟨((hTN.ids.imp (Q := fun x => w.heap.size + 1 ≤ x) (fun b _ hb => by rw [hszA] at hb; exact hb)).move ((Fr.below y5).trans hF)).flat,
      ⟨G, n, (((hM.below y5 hM.lt).setCell (a := ⟨w.heap.size, 0, none⟩) (by show m ≠ w.heap.size; omega) _).setCell (a := ⟨w.heap.size, 1, none⟩) (by show m ≠ w.heap.size; omega) _).setCell (a := ⟨w.heap.size, 2, none⟩) (by show m ≠ w.heap.size; omega) _, hG⟩,
      fun x hx => (HH.out.each x (hp.mem_iff.1 hx)).later (((((HB5.out.trans (hb.mono HB5.out.size)).setCell (p := ⟨w.heap.size, 0, none⟩) (Nat.le_refl _) u0).setCell (p := ⟨w.heap.size, 1, none⟩) (Nat.le_refl _) u1).setCell (p := ⟨w.heap.size, 2, none⟩) (Nat.le_refl _) u2)), hTN.ok, hTN.len, hTN.col⟩
  have HLS : Hid (∀ w4 LA (L : List LedD), Below w2.heap.size w2 w4 → LedsAt w4 LA L → smallL L → ∀ u0 u1 u2, LedsAt (((w4.setCell ⟨w.heap.size, 0, none⟩ u0).setCell ⟨w.heap.size, 1, none⟩ u1).setCell ⟨w.heap.size, 2, none⟩ u2) LA L) := by
    refine Lib.hid (fun w4 LA L hb hL _ u0 u1 u2 => leds_noInt (j := w.heap.size) hL (by simp) (fun b _ hne => ?_) (fun o n => ?_))
    · exact (Below.heap_setCell _ _ _ _ (fun e => hne e)).trans ((Below.heap_setCell _ _ _ _ (fun e => hne e)).trans (Below.heap_setCell _ _ _ _ (fun e => hne e)))
    · rw [(HK5.out.below hb HK5.out.lt).cell o]
      rcases o with _ | _ | _ | o <;> simp
  have DX : Below w2.heap.size w2 w2.drew := (Below.refl _ _).drew
  have t0c := (HT5.out.below DX HT5.out.lt).cell
  clear hT x4 x5 t5 k5 b5 t4 k4 b4 hTab
  refine wpIn_region_any hmx ?_
  change wpAnyIn _ _ _ _ _ _ _ _ _ (World.drew _)
  refine wpAnyIn_take (i := 2) (v := ?_) rfl rfl (by kernel_rfl) (by kernel_rfl) (by kernel_rfl) (fun _ _ _ h => h) ⟨Or.inl ⟨by rfl, ?_⟩, fun _ => rfl⟩ ?_
  case refine_2 => intro w; go_simp; first | done | with_reducible rfl
  refine wpAnyIn_ready (rs := [0, 1]) (by kernel_rfl) (by simp) ?_
  refine AllReadyIn.cons rfl (fun K hK => ?_) ?_
  · go_simp
    refine hK _ _ ?_; clear hK K
    refine wpAnyIn_ready (rs := [1]) (by kernel_rfl) (by simp) ?_
    refine AllReadyIn.cons rfl (fun K hK => ?_) ?_
    · go_simp
      refine hK _ _ ?_; clear hK K
      refine wpAnyIn_ready (rs := [3]) (by kernel_rfl) (by simp) ?_
      refine AllReadyIn.cons rfl (fun K hK => ?_) ?_
      · go_simp
        gi_wp2_with (gi_at_call 72; refine (callsIn_wide.2 (HEq.out _)).mono ?_; rintro e w3 ⟨lb, tb, rfl, kl3, kt3, h3⟩; have d3 := DX.trans (h3.mono DX.size); have t3c := (HT5.out.below d3 HT5.out.lt).cell)
        refine wpAnyIn_ready (rs := [4]) (by kernel_rfl) (by simp) ?_
        refine AllReadyIn.cons rfl (fun K hK => ?_) ?_
        · go_simp
          gi_wp2_with (gi_at_call 71; refine (callsIn_wide.2 (HSo.out _ lb tb d3 kl3 kt3)).mono ?_; rintro e w4 ⟨LA, lc, L, rfl, hF4, h4⟩; have d4 := d3.trans (h4.mono d3.size); have t4c := (HT5.out.below d4 HT5.out.lt).cell; have k4c := (HK5.out.below d4 HK5.out.lt).cell; have k4f := (HK5.out.below d4 HK5.out.lt).free)
          refine wpAnyIn_take (i := 5) (v := ?_) rfl rfl (by kernel_rfl) (by kernel_rfl) (by kernel_rfl) (fun _ _ _ h => h) ⟨Or.inl ⟨by rfl, ?_⟩, fun _ => rfl⟩ ?_
          case refine_2 => intro w; go_simp; first | done | with_reducible rfl
          refine wpAnyIn_ready (rs := [6]) (by kernel_rfl) (by simp) ?_
          refine AllReadyIn.cons rfl (fun K hK => ?_) ?_
          · go_simp
            refine hK _ _ ?_; clear hK K
            refine wpAnyIn_take (i := 7) (v := ?_) rfl rfl (by kernel_rfl) (by kernel_rfl) (by kernel_rfl) (fun _ _ _ h => h) ⟨Or.inl ⟨by rfl, ?_⟩, fun _ => rfl⟩ ?_
            case refine_2 => intro w; go_simp; first | done | with_reducible rfl
            refine wpAnyIn_done (by kernel_rfl) ?_ _
            clear HEq HSo
            have hF5 := hF4.out
            have b7 := ((((HB5.out.trans (d4.mono HB5.out.size)).setCell (p := ⟨w.heap.size, 0, none⟩) (Nat.le_refl _) (.slice OA ol.length oc)).setCell (p := ⟨w.heap.size, 1, none⟩) (Nat.le_refl _) (.map (some m))).setCell (p := ⟨w.heap.size, 2, none⟩) (Nat.le_refl _) (.slice LA L.length lc))
            have r0 := ((((HK5.out.below d4 HK5.out.lt).set 0 (.slice OA ol.length oc)).set 1 (.map (some m))).set 2 (.slice LA L.length lc)).cell
            have hTz : TabAt (((w4.setCell ⟨w.heap.size, 0, none⟩ (.slice OA ol.length oc)).setCell ⟨w.heap.size, 1, none⟩ (.map (some m))).setCell ⟨w.heap.size, 2, none⟩ (.slice LA L.length lc)) columns ol OA m := HTS.out w4 d4 _ _ _
            have hLz : LedsAt (((w4.setCell ⟨w.heap.size, 0, none⟩ (.slice OA ol.length oc)).setCell ⟨w.heap.size, 1, none⟩ (.map (some m))).setCell ⟨w.heap.size, 2, none⟩ (.slice LA L.length lc)) LA L := HLS.out w4 LA L d4 hF5.2.1 hF5.2.2 _ _ _
            gi_wp2
            refine bodyPost_ret (v := .tuple #[.agg #[.slice OA ol.length oc, .map (some m), .slice LA L.length lc], .int .i64 0]) ?hres rfl ?hpost
            case hres => simp [results, Tryz.results44, go_sem, r0]
            case hpost => exact ⟨ol, OA, oc, m, LA, lc, L, rfl, Lib.hid ⟨HPS.out.1, HPS.out.2, hTz, hF5.1, hLz, hF5.2.2⟩, b7⟩
          exact AllReadyIn.nil
        exact AllReadyIn.nil
      exact AllReadyIn.nil
    exact AllReadyIn.nil
  refine AllReadyIn.cons rfl (fun K hK => ?_) ?_
  · go_simp
    refine hK _ _ ?_; clear hK K
    refine wpAnyIn_ready (rs := [0, 3]) (by kernel_rfl) (by simp) ?_
    refine AllReadyIn.cons rfl (fun K hK => ?_) ?_
    · go_simp
      refine hK _ _ ?_; clear hK K
      refine wpAnyIn_ready (rs := [3]) (by kernel_rfl) (by simp) ?_
      refine AllReadyIn.cons rfl (fun K hK => ?_) ?_
      · go_simp
        gi_wp2_with (gi_at_call 72; refine (callsIn_wide.2 (HEq.out _)).mono ?_; rintro e w3 ⟨lb, tb, rfl, kl3, kt3, h3⟩; have d3 := DX.trans (h3.mono DX.size); have t3c := (HT5.out.below d3 HT5.out.lt).cell)
        refine wpAnyIn_ready (rs := [4]) (by kernel_rfl) (by simp) ?_
        refine AllReadyIn.cons rfl (fun K hK => ?_) ?_
        · go_simp
          gi_wp2_with (gi_at_call 71; refine (callsIn_wide.2 (HSo.out _ lb tb d3 kl3 kt3)).mono ?_; rintro e w4 ⟨LA, lc, L, rfl, hF4, h4⟩; have d4 := d3.trans (h4.mono d3.size); have t4c := (HT5.out.below d4 HT5.out.lt).cell; have k4c := (HK5.out.below d4 HK5.out.lt).cell; have k4f := (HK5.out.below d4 HK5.out.lt).free)
          refine wpAnyIn_take (i := 5) (v := ?_) rfl rfl (by kernel_rfl) (by kernel_rfl) (by kernel_rfl) (fun _ _ _ h => h) ⟨Or.inl ⟨by rfl, ?_⟩, fun _ => rfl⟩ ?_
          case refine_2 => intro w; go_simp; first | done | with_reducible rfl
          refine wpAnyIn_ready (rs := [6]) (by kernel_rfl) (by simp) ?_
          refine AllReadyIn.cons rfl (fun K hK => ?_) ?_
          · go_simp
            refine hK _ _ ?_; clear hK K
            refine wpAnyIn_take (i := 7) (v := ?_) rfl rfl (by kernel_rfl) (by kernel_rfl) (by kernel_rfl) (fun _ _ _ h => h) ⟨Or.inl ⟨by rfl, ?_⟩, fun _ => rfl⟩ ?_
            case refine_2 => intro w; go_simp; first | done | with_reducible rfl
            refine wpAnyIn_done (by kernel_rfl) ?_ _
            clear HEq HSo
            have hF5 := hF4.out
            have b7 := ((((HB5.out.trans (d4.mono HB5.out.size)).setCell (p := ⟨w.heap.size, 0, none⟩) (Nat.le_refl _) (.slice OA ol.length oc)).setCell (p := ⟨w.heap.size, 1, none⟩) (Nat.le_refl _) (.map (some m))).setCell (p := ⟨w.heap.size, 2, none⟩) (Nat.le_refl _) (.slice LA L.length lc))
            have r0 := ((((HK5.out.below d4 HK5.out.lt).set 0 (.slice OA ol.length oc)).set 1 (.map (some m))).set 2 (.slice LA L.length lc)).cell
            have hTz : TabAt (((w4.setCell ⟨w.heap.size, 0, none⟩ (.slice OA ol.length oc)).setCell ⟨w.heap.size, 1, none⟩ (.map (some m))).setCell ⟨w.heap.size, 2, none⟩ (.slice LA L.length lc)) columns ol OA m := HTS.out w4 d4 _ _ _
            have hLz : LedsAt (((w4.setCell ⟨w.heap.size, 0, none⟩ (.slice OA ol.length oc)).setCell ⟨w.heap.size, 1, none⟩ (.map (some m))).setCell ⟨w.heap.size, 2, none⟩ (.slice LA L.length lc)) LA L := HLS.out w4 LA L d4 hF5.2.1 hF5.2.2 _ _ _
            gi_wp2
            refine bodyPost_ret (v := .tuple #[.agg #[.slice OA ol.length oc, .map (some m), .slice LA L.length lc], .int .i64 0]) ?hres rfl ?hpost
            case hres => simp [results, Tryz.results44, go_sem, r0]
            case hpost => exact ⟨ol, OA, oc, m, LA, lc, L, rfl, Lib.hid ⟨HPS.out.1, HPS.out.2, hTz, hF5.1, hLz, hF5.2.2⟩, b7⟩
          exact AllReadyIn.nil
        exact AllReadyIn.nil
      exact AllReadyIn.nil
    refine AllReadyIn.cons rfl (fun K hK => ?_) ?_
    · go_simp
      gi_wp2_with (gi_at_call 72; refine (callsIn_wide.2 (HEq.out _)).mono ?_; rintro e w3 ⟨lb, tb, rfl, kl3, kt3, h3⟩; have d3 := DX.trans (h3.mono DX.size); have t3c := (HT5.out.below d3 HT5.out.lt).cell)
      refine wpAnyIn_ready (rs := [0, 4]) (by kernel_rfl) (by simp) ?_
      refine AllReadyIn.cons rfl (fun K hK => ?_) ?_
      · go_simp
        refine hK _ _ ?_; clear hK K
        refine wpAnyIn_ready (rs := [4]) (by kernel_rfl) (by simp) ?_
        refine AllReadyIn.cons rfl (fun K hK => ?_) ?_
        · go_simp
          gi_wp2_with (gi_at_call 71; refine (callsIn_wide.2 (HSo.out _ lb tb d3 kl3 kt3)).mono ?_; rintro e w4 ⟨LA, lc, L, rfl, hF4, h4⟩; have d4 := d3.trans (h4.mono d3.size); have t4c := (HT5.out.below d4 HT5.out.lt).cell; have k4c := (HK5.out.below d4 HK5.out.lt).cell; have k4f := (HK5.out.below d4 HK5.out.lt).free)
          refine wpAnyIn_take (i := 5) (v := ?_) rfl rfl (by kernel_rfl) (by kernel_rfl) (by kernel_rfl) (fun _ _ _ h => h) ⟨Or.inl ⟨by rfl, ?_⟩, fun _ => rfl⟩ ?_
          case refine_2 => intro w; go_simp; first | done | with_reducible rfl
          refine wpAnyIn_ready (rs := [6]) (by kernel_rfl) (by simp) ?_
          refine AllReadyIn.cons rfl (fun K hK => ?_) ?_
          · go_simp
            refine hK _ _ ?_; clear hK K
            refine wpAnyIn_take (i := 7) (v := ?_) rfl rfl (by kernel_rfl) (by kernel_rfl) (by kernel_rfl) (fun _ _ _ h => h) ⟨Or.inl ⟨by rfl, ?_⟩, fun _ => rfl⟩ ?_
            case refine_2 => intro w; go_simp; first | done | with_reducible rfl
            refine wpAnyIn_done (by kernel_rfl) ?_ _
            clear HEq HSo
            have hF5 := hF4.out
            have b7 := ((((HB5.out.trans (d4.mono HB5.out.size)).setCell (p := ⟨w.heap.size, 0, none⟩) (Nat.le_refl _) (.slice OA ol.length oc)).setCell (p := ⟨w.heap.size, 1, none⟩) (Nat.le_refl _) (.map (some m))).setCell (p := ⟨w.heap.size, 2, none⟩) (Nat.le_refl _) (.slice LA L.length lc))
            have r0 := ((((HK5.out.below d4 HK5.out.lt).set 0 (.slice OA ol.length oc)).set 1 (.map (some m))).set 2 (.slice LA L.length lc)).cell
            have hTz : TabAt (((w4.setCell ⟨w.heap.size, 0, none⟩ (.slice OA ol.length oc)).setCell ⟨w.heap.size, 1, none⟩ (.map (some m))).setCell ⟨w.heap.size, 2, none⟩ (.slice LA L.length lc)) columns ol OA m := HTS.out w4 d4 _ _ _
            have hLz : LedsAt (((w4.setCell ⟨w.heap.size, 0, none⟩ (.slice OA ol.length oc)).setCell ⟨w.heap.size, 1, none⟩ (.map (some m))).setCell ⟨w.heap.size, 2, none⟩ (.slice LA L.length lc)) LA L := HLS.out w4 LA L d4 hF5.2.1 hF5.2.2 _ _ _
            gi_wp2
            refine bodyPost_ret (v := .tuple #[.agg #[.slice OA ol.length oc, .map (some m), .slice LA L.length lc], .int .i64 0]) ?hres rfl ?hpost
            case hres => simp [results, Tryz.results44, go_sem, r0]
            case hpost => exact ⟨ol, OA, oc, m, LA, lc, L, rfl, Lib.hid ⟨HPS.out.1, HPS.out.2, hTz, hF5.1, hLz, hF5.2.2⟩, b7⟩
          exact AllReadyIn.nil
        exact AllReadyIn.nil
      refine AllReadyIn.cons rfl (fun K hK => ?_) ?_
      · go_simp
        gi_wp2_with (gi_at_call 71; refine (callsIn_wide.2 (HSo.out _ lb tb d3 kl3 kt3)).mono ?_; rintro e w4 ⟨LA, lc, L, rfl, hF4, h4⟩; have d4 := d3.trans (h4.mono d3.size); have t4c := (HT5.out.below d4 HT5.out.lt).cell; have k4c := (HK5.out.below d4 HK5.out.lt).cell; have k4f := (HK5.out.below d4 HK5.out.lt).free)
        refine wpAnyIn_ready (rs := [0]) (by kernel_rfl) (by simp) ?_
        refine AllReadyIn.cons rfl (fun K hK => ?_) ?_
        · go_simp
          refine hK _ _ ?_; clear hK K
          refine wpAnyIn_take (i := 5) (v := ?_) rfl rfl (by kernel_rfl) (by kernel_rfl) (by kernel_rfl) (fun _ _ _ h => h) ⟨Or.inl ⟨by rfl, ?_⟩, fun _ => rfl⟩ ?_
          case refine_2 => intro w; go_simp; first | done | with_reducible rfl
          refine wpAnyIn_ready (rs := [6]) (by kernel_rfl) (by simp) ?_
          refine AllReadyIn.cons rfl (fun K hK => ?_) ?_
          · go_simp
            refine hK _ _ ?_; clear hK K
            refine wpAnyIn_take (i := 7) (v := ?_) rfl rfl (by kernel_rfl) (by kernel_rfl) (by kernel_rfl) (fun _ _ _ h => h) ⟨Or.inl ⟨by rfl, ?_⟩, fun _ => rfl⟩ ?_
            case refine_2 => intro w; go_simp; first | done | with_reducible rfl
            refine wpAnyIn_done (by kernel_rfl) ?_ _
            clear HEq HSo
            have hF5 := hF4.out
            have b7 := ((((HB5.out.trans (d4.mono HB5.out.size)).setCell (p := ⟨w.heap.size, 0, none⟩) (Nat.le_refl _) (.slice OA ol.length oc)).setCell (p := ⟨w.heap.size, 1, none⟩) (Nat.le_refl _) (.map (some m))).setCell (p := ⟨w.heap.size, 2, none⟩) (Nat.le_refl _) (.slice LA L.length lc))
            have r0 := ((((HK5.out.below d4 HK5.out.lt).set 0 (.slice OA ol.length oc)).set 1 (.map (some m))).set 2 (.slice LA L.length lc)).cell
            have hTz : TabAt (((w4.setCell ⟨w.heap.size, 0, none⟩ (.slice OA ol.length oc)).setCell ⟨w.heap.size, 1, none⟩ (.map (some m))).setCell ⟨w.heap.size, 2, none⟩ (.slice LA L.length lc)) columns ol OA m := HTS.out w4 d4 _ _ _
            have hLz : LedsAt (((w4.setCell ⟨w.heap.size, 0, none⟩ (.slice OA ol.length oc)).setCell ⟨w.heap.size, 1, none⟩ (.map (some m))).setCell ⟨w.heap.size, 2, none⟩ (.slice LA L.length lc)) LA L := HLS.out w4 LA L d4 hF5.2.1 hF5.2.2 _ _ _
            gi_wp2
            refine bodyPost_ret (v := .tuple #[.agg #[.slice OA ol.length oc, .map (some m), .slice LA L.length lc], .int .i64 0]) ?hres rfl ?hpost
            case hres => simp [results, Tryz.results44, go_sem, r0]
            case hpost => exact ⟨ol, OA, oc, m, LA, lc, L, rfl, Lib.hid ⟨HPS.out.1, HPS.out.2, hTz, hF5.1, hLz, hF5.2.2⟩, b7⟩
          exact AllReadyIn.nil
        exact AllReadyIn.nil
      exact AllReadyIn.nil
    exact AllReadyIn.nil
  exact AllReadyIn.nil
end Go.Proofs.YtbkekdbabkncfaaGreat
