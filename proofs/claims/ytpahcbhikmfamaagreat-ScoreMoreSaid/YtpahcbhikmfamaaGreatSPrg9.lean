/- Open for values, by the program; what the shares add up to. Written by a program. -/
import Derived.Test.YtpahcbhikmfamaaGreatSPrg8
import Derived.Test.YtpahcbhikmfamaaGreatSRef8

namespace Go.Proofs.YtpahcbhikmfamaaGreat
open Go.RowKit Go.Maps

theorem cardUp_sum (l : List SclD) (x : List Int) : ∀ i, i ≤ l.length → sumL ((cardUp l i).map (onPart x)) = sclsUp (l.map SclD.v) x i
  | 0, _ => by simp [cardUp, sclsUp, sumL]
  | i + 1, hi => by
    have h1 := cardUp_sum l x i (by omega)
    unfold cardUp at h1 ⊢
    rw [List.range_succ, List.map_append, List.map_append, List.map_singleton, List.map_singleton, sumL_snoc, h1, sclsUp]
    congr 1
    rw [getD_lt l default (by omega), getD_lt (l.map SclD.v) default (by rw [List.length_map]; omega)]
    simp [onPart]
def corePts (x : List Int) (q : Int × Int × List PartD) : Int := q.2.1 + sumL (q.2.2.map (onPart x))
theorem corePts_card (x : List Int) (y : CrdD) : corePts x (crdCore y) = onCrd y.v x := by
  have := cardUp_sum y.scales x y.scales.length (Nat.le_refl _)
  unfold corePts crdCore onCrd
  show y.base + sumL ((cardUp y.scales y.scales.length).map (onPart x)) = y.base + sclsUp (y.scales.map SclD.v) x (y.scales.map SclD.v).length
  rw [this, List.length_map]
theorem corePts_tree (x : List Int) (y : TreD) : corePts x (treCore y) = onTre y.v x := by
  simp [corePts, treCore, sumL, onPart]
theorem sh_points {cl : List CrdD} {tl : List TreD} {sh : List ShD} (h : sh.map ShD.core = cl.map crdCore ++ tl.map treCore) (traits need : Int) (x : List Int) : sh.map (shPts x) = ptsL ⟨traits, cl.map CrdD.v, tl.map TreD.v, need⟩ x := by
  have e : sh.map (shPts x) = (sh.map ShD.core).map (corePts x) := by rw [List.map_map]; rfl
  rw [e, h, List.map_append, List.map_map, List.map_map]
  unfold ptsL
  simp only [List.map_map]
  congr 1
  · exact List.map_congr_left fun y _ => corePts_card x y
  · exact List.map_congr_left fun y _ => corePts_tree x y
theorem sh_score {cl : List CrdD} {tl : List TreD} {sh : List ShD} (h : sh.map ShD.core = cl.map crdCore ++ tl.map treCore) (traits need : Int) (x : List Int) : sumL (sh.map fun y => y.weight * shPts x y) = scoreM ⟨traits, cl.map CrdD.v, tl.map TreD.v, need⟩ x := by
  have e : (sh.map fun y => y.weight * shPts x y) = (sh.map ShD.core).map (fun q => q.1 * corePts x q) := by rw [List.map_map]; rfl
  rw [e, h, List.map_append, List.map_map, List.map_map]
  unfold scoreM
  simp only [List.map_map]
  congr 2
  · exact List.map_congr_left fun y _ => by show y.weight * corePts x (crdCore y) = _; rw [corePts_card]; rfl
  · exact List.map_congr_left fun y _ => by show y.v.weight * corePts x (treCore y) = _; rw [corePts_tree]; rfl
theorem sh_ok {traits need : Int} {cl : List CrdD} {tl : List TreD} {sh : List ShD} {x : List Int} (hq : mdlB ⟨traits, cl.map CrdD.v, tl.map TreD.v, need⟩ = true) (hx : (x.length : Int) = traits) (h : sh.map ShD.core = cl.map crdCore ++ tl.map treCore) : ∀ y ∈ sh, ShOk x.length y := fun y hy => by
  obtain ⟨h1, _, _, _, h5, h6⟩ := mdlB_parts hq
  rcases core_cases h y hy with ⟨z, hz, e1, e2, e3⟩ | ⟨z, hz, e1, e2, e3⟩
  · have h7 := crdB_parts (h5 _ (List.mem_map_of_mem hz))
    have h8 : (z.scales.length : Int) = traits := by have := h7.2.2.1; simpa [CrdD.v] using this
    refine ⟨by rw [e2]; exact h7.2.1, by rw [e1]; exact h7.1, by rw [e3, cardParts_len]; simp only at h1; omega, fun q hq2 => ?_⟩
    rw [e3] at hq2
    obtain ⟨s, k, hs, hk, rfl⟩ := cardParts_mem hq2
    exact ⟨h7.2.2.2 _ (List.mem_map_of_mem hs), by omega⟩
  · have h7 := h6 _ (List.mem_map_of_mem hz)
    refine ⟨by rw [e2]; decide, by rw [e1]; exact (treB_parts h7).1, by rw [e3]; simp, fun q hq2 => ?_⟩
    rw [e3, List.mem_singleton] at hq2
    subst hq2
    show treB x.length z.v = true
    rw [hx]; exact h7

set_option maxRecDepth 100000 in
set_option maxHeartbeats 4000000 in
theorem open_bad (traits need : Int) (cl : List CrdD) (tl : List TreD) (C T : Option Addr) (c t : Nat) (w : World) (h : MdlAt w w.heap.size ⟨traits, cl, C, c, tl, T, t, need⟩) (hls : MdlLe ⟨traits, cl, C, c, tl, T, t, need⟩) (hq : mdlB ⟨traits, cl.map CrdD.v, tl.map TreD.v, need⟩ = false) :
    Calls Tryz.prog 22 #[.agg #[.int .i64 traits, .slice C cl.length c, .slice T tl.length t, .int .i64 need]] w fun e w' => e = .returned (.tuple #[.agg #[.int .i64 0, .slice none 0 0, .slice none 0 0, .int .i64 0, .slice none 0 0], .int .i64 60]) ∧ Below w.heap.size w w' := by
  have b1 := (Below.refl w.heap.size w).alloc (Nat.le_refl _) (.cells #[.int .i64 traits, .slice C cl.length c, .slice T tl.length t, .int .i64 need] 25)
  have k1 := Blk.new w #[.int .i64 traits, .slice C cl.length c, .slice T tl.length t, .int .i64 need] 25
  have k1c := k1.cell
  have b1s := b1.size
  have HC := Lib.hid (fun W hb => checkP_any ⟨traits, cl, C, c, tl, T, t, need⟩ W (h.later (w' := W) hb) hls)
  have he : mdlE (MdlD.v ⟨traits, cl, C, c, tl, T, t, need⟩) = 60 := by unfold mdlE; exact if_neg (by show ¬ mdlB ⟨traits, cl.map CrdD.v, tl.map TreD.v, need⟩ = true; rw [hq]; simp)
  rw [he] at HC
  have b2 := b1.alloc b1s (.cells #[.int .i64 0, .slice none 0 0, .slice none 0 0, .int .i64 0, .slice none 0 0] 66)
  have k2 := k1.alloc (.cells #[.int .i64 0, .slice none 0 0, .slice none 0 0, .int .i64 0, .slice none 0 0] 66)
  have kr := newAt' (w.alloc (.cells #[.int .i64 traits, .slice C cl.length c, .slice T tl.length t, .int .i64 need] 25)) #[.int .i64 0, .slice none 0 0, .slice none 0 0, .int .i64 0, .slice none 0 0] 66 (g := w.heap.size + 1) (by simp)
  go_enter Tryz.func22, Tryz.ntmps22
  go_wp2_with fail
  generalize hW2 : (w.alloc (.cells #[.int .i64 traits, .slice C cl.length c, .slice T tl.length t, .int .i64 need] 25)).alloc (.cells #[.int .i64 0, .slice none 0 0, .slice none 0 0, .int .i64 0, .slice none 0 0] 66) = W2 at *
  have hs2 := kr.lt
  clear hW2 k1c k1 b1 b1s h
  have b2s := b2.size
  go_wp2_with (go_at_call 32; (with_reducible refine (HC.out _ b2).mono ?_); rintro e w5 ⟨rfl, h5⟩; have k5 := kr.below h5 hs2; have k5c := k5.cell; have z0 := k5.free 0; have z1 := k5.free 1; have z2 := k5.free 2; have z3 := k5.free 3; have z4 := k5.free 4)
  have hrc := (nod_put (c0 := .int .i64 0) (c1 := .slice none 0 0) (c2 := .slice none 0 0) (c3 := .int .i64 0) (c4 := .slice none 0 0) k5).cell
  exact bodyPost_ret (v := .tuple #[.agg #[.int .i64 0, .slice none 0 0, .slice none 0 0, .int .i64 0, .slice none 0 0], .int .i64 60]) (by simp [results, Tryz.results22, go_sem, hrc]) rfl ⟨rfl, ((((((b2.trans (h5.mono b2s)).setCell (p := ⟨w.heap.size + 1, 0, none⟩) (by simp) _).setCell (p := ⟨w.heap.size + 1, 1, none⟩) (by simp) _).setCell (p := ⟨w.heap.size + 1, 2, none⟩) (by simp) _).setCell (p := ⟨w.heap.size + 1, 3, none⟩) (by simp) _).setCell (p := ⟨w.heap.size + 1, 4, none⟩) (by simp) _)⟩

set_option maxRecDepth 100000 in
set_option maxHeartbeats 4000000 in
theorem openFor_bad (traits need : Int) (cl : List CrdD) (tl : List TreD) (C T : Option Addr) (c t : Nat) (x : List Int) (X : Option Addr) (xc : Nat) (w : World) (h : MdlAt w w.heap.size ⟨traits, cl, C, c, tl, T, t, need⟩) (hls : MdlLe ⟨traits, cl, C, c, tl, T, t, need⟩) (hq : mdlB ⟨traits, cl.map CrdD.v, tl.map TreD.v, need⟩ = false) :
    Calls Tryz.prog 18 #[.agg #[.int .i64 traits, .slice C cl.length c, .slice T tl.length t, .int .i64 need], .slice X x.length xc] w fun e w' => e = .returned (.tuple #[.agg #[.int .i64 0, .slice none 0 0, .slice none 0 0, .int .i64 0, .slice none 0 0], .int .i64 60]) ∧ Below w.heap.size w w' := by
  have b1 := (Below.refl w.heap.size w).alloc (Nat.le_refl _) (.cells #[.int .i64 traits, .slice C cl.length c, .slice T tl.length t, .int .i64 need] 25)
  have k1 := Blk.new w #[.int .i64 traits, .slice C cl.length c, .slice T tl.length t, .int .i64 need] 25
  have k1c := k1.cell
  have b1s := b1.size
  have b2 := b1.alloc b1s (.cells #[.int .i64 0, .slice none 0 0, .slice none 0 0, .int .i64 0, .slice none 0 0] 66)
  have k2 := k1.alloc (.cells #[.int .i64 0, .slice none 0 0, .slice none 0 0, .int .i64 0, .slice none 0 0] 66)
  have kr := newAt' (w.alloc (.cells #[.int .i64 traits, .slice C cl.length c, .slice T tl.length t, .int .i64 need] 25)) #[.int .i64 0, .slice none 0 0, .slice none 0 0, .int .i64 0, .slice none 0 0] 66 (g := w.heap.size + 1) (by simp)
  have HC := Lib.hid (fun W hb => open_bad traits need cl tl C T c t W (h.later (w' := W) hb) hls hq)
  go_enter Tryz.func18, Tryz.ntmps18
  go_wp2_with fail
  generalize hW2 : (w.alloc (.cells #[.int .i64 traits, .slice C cl.length c, .slice T tl.length t, .int .i64 need] 25)).alloc (.cells #[.int .i64 0, .slice none 0 0, .slice none 0 0, .int .i64 0, .slice none 0 0] 66) = W2 at *
  have hs2 := kr.lt
  clear hW2 k1c k1 b1 b1s h
  have b2s := b2.size
  go_wp2_with (go_at_call 22; (with_reducible refine (HC.out _ b2).mono ?_); rintro e w5 ⟨rfl, h5⟩; have b5 := b2.trans (h5.mono b2s); have k5 := (kr.below h5 hs2).alloc (.cells #[.int .i64 0, .slice none 0 0, .slice none 0 0, .int .i64 0, .slice none 0 0] 66); have k5c := k5.cell; have z0 := k5.free 0; have z1 := k5.free 1; have z2 := k5.free 2; have z3 := k5.free 3; have z4 := k5.free 4;)
  have hrc := (nod_put (c0 := .int .i64 0) (c1 := .slice none 0 0) (c2 := .slice none 0 0) (c3 := .int .i64 0) (c4 := .slice none 0 0) k5).cell
  exact bodyPost_ret (v := .tuple #[.agg #[.int .i64 0, .slice none 0 0, .slice none 0 0, .int .i64 0, .slice none 0 0], .int .i64 60]) (by simp [results, Tryz.results18, go_sem, hrc]) rfl ⟨rfl, (((((((b5.alloc b5.size (.cells #[.int .i64 0, .slice none 0 0, .slice none 0 0, .int .i64 0, .slice none 0 0] 66)).setCell (p := ⟨w.heap.size + 1, 0, none⟩) (by simp) _).setCell (p := ⟨w.heap.size + 1, 1, none⟩) (by simp) _).setCell (p := ⟨w.heap.size + 1, 2, none⟩) (by simp) _).setCell (p := ⟨w.heap.size + 1, 3, none⟩) (by simp) _).setCell (p := ⟨w.heap.size + 1, 4, none⟩) (by simp) _))⟩

set_option maxRecDepth 100000 in
set_option maxHeartbeats 4000000 in
theorem openFor_vals (traits need : Int) (cl : List CrdD) (tl : List TreD) (C T : Option Addr) (c t : Nat) (x : List Int) (X : Option Addr) (xc : Nat) (w : World) (h : MdlAt w w.heap.size ⟨traits, cl, C, c, tl, T, t, need⟩) (hls : MdlLe ⟨traits, cl, C, c, tl, T, t, need⟩) (hx : IntsAt w w.heap.size X x) (hxl : x.length ≤ 10) (hq : mdlB ⟨traits, cl.map CrdD.v, tl.map TreD.v, need⟩ = true) (hv : valsB traits x = false) :
    Calls Tryz.prog 18 #[.agg #[.int .i64 traits, .slice C cl.length c, .slice T tl.length t, .int .i64 need], .slice X x.length xc] w fun e w' => e = .returned (.tuple #[.agg #[.int .i64 0, .slice none 0 0, .slice none 0 0, .int .i64 0, .slice none 0 0], .int .i64 61]) ∧ Below w.heap.size w w' := by
  have b1 := (Below.refl w.heap.size w).alloc (Nat.le_refl _) (.cells #[.int .i64 traits, .slice C cl.length c, .slice T tl.length t, .int .i64 need] 25)
  have k1 := Blk.new w #[.int .i64 traits, .slice C cl.length c, .slice T tl.length t, .int .i64 need] 25
  have k1c := k1.cell
  have b1s := b1.size
  have b2 := b1.alloc b1s (.cells #[.int .i64 0, .slice none 0 0, .slice none 0 0, .int .i64 0, .slice none 0 0] 66)
  have k2 := k1.alloc (.cells #[.int .i64 0, .slice none 0 0, .slice none 0 0, .int .i64 0, .slice none 0 0] 66)
  have kr := newAt' (w.alloc (.cells #[.int .i64 traits, .slice C cl.length c, .slice T tl.length t, .int .i64 need] 25)) #[.int .i64 0, .slice none 0 0, .slice none 0 0, .int .i64 0, .slice none 0 0] 66 (g := w.heap.size + 1) (by simp)
  have HC := Lib.hid (fun W hb => open_all traits need cl tl C T c t W (h.later (w' := W) hb) hls hq)
  have HV := Lib.hid (fun (S : Option Addr) (n s : Nat) W hb => valuesV_any traits need C T S cl.length c tl.length t n s x X xc W (hx.later (w' := W) hb) hxl)
  rw [hv] at HV
  clear hx
  go_enter Tryz.func18, Tryz.ntmps18
  go_wp2_with fail
  generalize hW2 : (w.alloc (.cells #[.int .i64 traits, .slice C cl.length c, .slice T tl.length t, .int .i64 need] 25)).alloc (.cells #[.int .i64 0, .slice none 0 0, .slice none 0 0, .int .i64 0, .slice none 0 0] 66) = W2 at *
  have hs2 := kr.lt
  clear hW2 k1c k1 b1 b1s h
  have b2s := b2.size
  go_wp2_with (first
    | (go_at_call 22; (with_reducible refine (HC.out _ b2).mono ?_); rintro e w5 ⟨S, s, sh, rfl, _, _, h5⟩; have b5 := b2.trans (h5.mono b2s); have b5a := b5.alloc b5.size (.cells #[.int .i64 traits, .slice C cl.length c, .slice T tl.length t, .int .i64 need, .slice S (cl.length + tl.length) s] 66); have k5 := (kr.below h5 hs2).alloc (.cells #[.int .i64 traits, .slice C cl.length c, .slice T tl.length t, .int .i64 need, .slice S (cl.length + tl.length) s] 66); have k5c := k5.cell; have kw := Blk.new w5 #[.int .i64 traits, .slice C cl.length c, .slice T tl.length t, .int .i64 need, .slice S (cl.length + tl.length) s] 66; have kwc := kw.cell)
    | (go_at_call 30; (with_reducible refine (HV.out S (cl.length + tl.length) s _ b5a).mono ?_); rintro e w6 ⟨rfl, h6⟩; have b6 := b5a.trans (h6.mono b5a.size); have k6 := k5.below h6 k5.lt; have k6c := k6.cell; have z0 := k6.free 0; have z1 := k6.free 1; have z2 := k6.free 2; have z3 := k6.free 3; have z4 := k6.free 4;))
  have hrc := (nod_put (c0 := .int .i64 0) (c1 := .slice none 0 0) (c2 := .slice none 0 0) (c3 := .int .i64 0) (c4 := .slice none 0 0) k6).cell
  exact bodyPost_ret (v := .tuple #[.agg #[.int .i64 0, .slice none 0 0, .slice none 0 0, .int .i64 0, .slice none 0 0], .int .i64 61]) (by simp [results, Tryz.results18, go_sem, hrc]) rfl ⟨rfl, ((((((b6.setCell (p := ⟨w.heap.size + 1, 0, none⟩) (by simp) _).setCell (p := ⟨w.heap.size + 1, 1, none⟩) (by simp) _).setCell (p := ⟨w.heap.size + 1, 2, none⟩) (by simp) _).setCell (p := ⟨w.heap.size + 1, 3, none⟩) (by simp) _).setCell (p := ⟨w.heap.size + 1, 4, none⟩) (by simp) _))⟩

set_option maxRecDepth 100000 in
set_option maxHeartbeats 4000000 in
theorem openFor_good (traits need : Int) (cl : List CrdD) (tl : List TreD) (C T : Option Addr) (c t : Nat) (x : List Int) (X : Option Addr) (xc : Nat) (w : World) (h : MdlAt w w.heap.size ⟨traits, cl, C, c, tl, T, t, need⟩) (hls : MdlLe ⟨traits, cl, C, c, tl, T, t, need⟩) (hx : IntsAt w w.heap.size X x) (hxl : x.length ≤ 10) (hq : mdlB ⟨traits, cl.map CrdD.v, tl.map TreD.v, need⟩ = true) (hv : valsB traits x = true) :
    Calls Tryz.prog 18 #[.agg #[.int .i64 traits, .slice C cl.length c, .slice T tl.length t, .int .i64 need], .slice X x.length xc] w fun e w' => OpenS w traits need cl tl C T c t e w' := by
  have b1 := (Below.refl w.heap.size w).alloc (Nat.le_refl _) (.cells #[.int .i64 traits, .slice C cl.length c, .slice T tl.length t, .int .i64 need] 25)
  have k1 := Blk.new w #[.int .i64 traits, .slice C cl.length c, .slice T tl.length t, .int .i64 need] 25
  have k1c := k1.cell
  have b1s := b1.size
  have b2 := b1.alloc b1s (.cells #[.int .i64 0, .slice none 0 0, .slice none 0 0, .int .i64 0, .slice none 0 0] 66)
  have k2 := k1.alloc (.cells #[.int .i64 0, .slice none 0 0, .slice none 0 0, .int .i64 0, .slice none 0 0] 66)
  have kr := newAt' (w.alloc (.cells #[.int .i64 traits, .slice C cl.length c, .slice T tl.length t, .int .i64 need] 25)) #[.int .i64 0, .slice none 0 0, .slice none 0 0, .int .i64 0, .slice none 0 0] 66 (g := w.heap.size + 1) (by simp)
  have HC := Lib.hid (fun W hb => open_all traits need cl tl C T c t W (h.later (w' := W) hb) hls hq)
  have HV := Lib.hid (fun (S : Option Addr) (n s : Nat) W hb => valuesV_any traits need C T S cl.length c tl.length t n s x X xc W (hx.later (w' := W) hb) hxl)
  rw [hv] at HV
  clear hx
  go_enter Tryz.func18, Tryz.ntmps18
  go_wp2_with fail
  generalize hW2 : (w.alloc (.cells #[.int .i64 traits, .slice C cl.length c, .slice T tl.length t, .int .i64 need] 25)).alloc (.cells #[.int .i64 0, .slice none 0 0, .slice none 0 0, .int .i64 0, .slice none 0 0] 66) = W2 at *
  have hs2 := kr.lt
  clear hW2 k1c k1 b1 b1s h
  have b2s := b2.size
  go_wp2_with (first
    | (go_at_call 22; (with_reducible refine (HC.out _ b2).mono ?_); rintro e w5 ⟨S, s, sh, rfl, hco, hat, h5⟩; have HO := Lib.hid hco; have HA := Lib.hid hat; clear hco hat; have b5 := b2.trans (h5.mono b2s); have b5a := b5.alloc b5.size (.cells #[.int .i64 traits, .slice C cl.length c, .slice T tl.length t, .int .i64 need, .slice S (cl.length + tl.length) s] 66); have ba := (Below.refl w5.heap.size w5).alloc (Nat.le_refl _) (.cells #[.int .i64 traits, .slice C cl.length c, .slice T tl.length t, .int .i64 need, .slice S (cl.length + tl.length) s] 66); have k5 := (kr.below h5 hs2).alloc (.cells #[.int .i64 traits, .slice C cl.length c, .slice T tl.length t, .int .i64 need, .slice S (cl.length + tl.length) s] 66); have k5c := k5.cell; have kw := Blk.new w5 #[.int .i64 traits, .slice C cl.length c, .slice T tl.length t, .int .i64 need, .slice S (cl.length + tl.length) s] 66; have kwc := kw.cell)
    | (go_at_call 30; (with_reducible refine (HV.out S (cl.length + tl.length) s _ b5a).mono ?_); rintro e w6 ⟨rfl, h6⟩; have b6 := b5a.trans (h6.mono b5a.size); have k6 := k5.below h6 k5.lt; have k6c := k6.cell; have kw6 := (kw.below h6 kw.lt).cell; have z0 := k6.free 0; have z1 := k6.free 1; have z2 := k6.free 2; have z3 := k6.free 3; have z4 := k6.free 4;))
  have hrc := (nod_put (c0 := .int .i64 traits) (c1 := .slice C cl.length c) (c2 := .slice T tl.length t) (c3 := .int .i64 need) (c4 := .slice S (cl.length + tl.length) s) k6).cell
  have hbe := ((((((b6.setCell (p := ⟨w.heap.size + 1, 0, none⟩) (by simp) (.int .i64 traits)).setCell (p := ⟨w.heap.size + 1, 1, none⟩) (by simp) (.slice C cl.length c)).setCell (p := ⟨w.heap.size + 1, 2, none⟩) (by simp) (.slice T tl.length t)).setCell (p := ⟨w.heap.size + 1, 3, none⟩) (by simp) (.int .i64 need)).setCell (p := ⟨w.heap.size + 1, 4, none⟩) (by simp) (.slice S (cl.length + tl.length) s)))
  have hse := ((((((((HA.out.below ba).below h6).setCell (p := ⟨w.heap.size + 1, 0, none⟩) hs2 (.int .i64 traits)).setCell (p := ⟨w.heap.size + 1, 1, none⟩) hs2 (.slice C cl.length c)).setCell (p := ⟨w.heap.size + 1, 2, none⟩) hs2 (.slice T tl.length t)).setCell (p := ⟨w.heap.size + 1, 3, none⟩) hs2 (.int .i64 need)).setCell (p := ⟨w.heap.size + 1, 4, none⟩) hs2 (.slice S (cl.length + tl.length) s)))
  exact bodyPost_ret (v := .tuple #[.agg #[.int .i64 traits, .slice C cl.length c, .slice T tl.length t, .int .i64 need, .slice S (cl.length + tl.length) s], .int .i64 0]) (by simp [results, Tryz.results18, go_sem, hrc]) rfl ⟨S, s, sh, rfl, HO.out, hse.less b2s, hbe⟩
end Go.Proofs.YtpahcbhikmfamaaGreat
