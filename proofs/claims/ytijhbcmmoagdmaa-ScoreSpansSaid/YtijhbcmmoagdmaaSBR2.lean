/- The steps of one trait, by the reference. Written by a program. -/
import Derived.Test.YtijhbcmmoagdmaaSBR1

namespace Go.Proofs.Ytijhbcmmoagdmaa
open Go.RowKit Go.Maps

def fcC (tr : Nat) (y : CrdD) : List Int := (y.v.scales.getD tr default).cuts
def ftC (tr : Nat) (y : TreD) : List Int := nodCuts (tr : Int) y.v.nodes
theorem cutsT_eq (traits need : Int) (cl : List CrdD) (tl : List TreD) (tr : Nat) : cutsT ⟨traits, cl.map CrdD.v, tl.map TreD.v, need⟩ tr = cl.flatMap (fcC tr) ++ tl.flatMap (ftC tr) := by
  unfold cutsT
  simp only [List.flatMap_map]
  rfl
theorem fcC_eq {tr : Nat} {y : CrdD} (h : tr < y.scales.length) : fcC tr y = (y.scales[tr]).v.cuts := by
  unfold fcC CrdD.v
  simp only
  rw [getD_lt _ _ (by simpa using h)]
  simp
theorem stepsI_snoc (lo hi : Int) (cs : List Int) (n : Int) : stepsI lo hi (cs ++ [n]) = if spanIn lo hi n = true then putI (stepsI lo hi cs) n else stepsI lo hi cs := by
  unfold stepsI; rw [List.foldl_append]; rfl
theorem putI_lenR : ∀ (l : List Int) (n : Int), (putI l n).length ≤ l.length + 1 ∧ putI l n ≠ []
  | [], n => by simp [putI]
  | x :: r, n => by
    have := putI_lenR r n
    unfold putI
    split
    · simp; omega
    · split <;> simp
theorem stepsI_lenR (lo hi : Int) : ∀ (cs a : List Int), a ≠ [] → (cs.foldl (fun a c => if spanIn lo hi c = true then putI a c else a) a).length ≤ a.length + cs.length ∧ cs.foldl (fun a c => if spanIn lo hi c = true then putI a c else a) a ≠ []
  | [], a, h => ⟨by simp, h⟩
  | c :: cs, a, h => by
    rw [List.foldl_cons]
    by_cases hc : spanIn lo hi c = true
    · rw [if_pos hc]
      have h1 := putI_lenR a c
      have := stepsI_lenR lo hi cs (putI a c) h1.2
      exact ⟨by rw [List.length_cons]; omega, this.2⟩
    · rw [if_neg hc]
      have := stepsI_lenR lo hi cs a h
      exact ⟨by rw [List.length_cons]; omega, this.2⟩
theorem flatMap_leR {α β : Type} {f : α → List β} {b : Nat} : ∀ {l : List α}, (∀ x ∈ l, (f x).length ≤ b) → (l.flatMap f).length ≤ l.length * b
  | [], _ => by simp
  | x :: l, h => by
    rw [List.flatMap_cons, List.length_append, List.length_cons, Nat.succ_mul]
    have := flatMap_leR (l := l) (f := f) (b := b) (fun y hy => h y (List.mem_cons_of_mem _ hy))
    have := h x (List.mem_cons_self ..)
    omega
theorem ints_blk {w : World} {g : Nat} {n : Int} {t : TypeId} (h : Blk w g #[.int .i64 n] t) : IntsAt w w.heap.size (some ⟨g, 0, none⟩) [n] := fun k hk => by
  obtain rfl : k = 0 := by simpa using hk
  refine ⟨g, 0, rfl, h.lt, fun j hj => ?_⟩
  obtain rfl : j = 0 := by omega
  have := h.cell 0
  simpa [intC] using this
theorem fcC_len {tr : Nat} {m : MdlD} (hls : MdlLe m) {y : CrdD} (hy : y ∈ m.cards) (h : tr < y.scales.length) : (fcC tr y).length ≤ 10 := by
  rw [fcC_eq h]; exact (hls.scl y hy _ (List.getElem_mem h)).cuts
theorem ftC_len {tr : Nat} {m : MdlD} (hls : MdlLe m) {y : TreD} (hy : y ∈ m.trees) : (ftC tr y).length ≤ 20 := by
  unfold ftC nodCuts
  rw [List.length_map]
  exact Nat.le_trans (List.length_filter_le _ _) (hls.nodes y hy)
theorem nodCuts_snocR (k : Int) (l : List Nod) (n : Nod) : nodCuts k (l ++ [n]) = if n.tr = k then nodCuts k l ++ [n.cut] else nodCuts k l := by
  unfold nodCuts
  rw [List.filter_append, List.map_append]
  by_cases h : n.tr = k <;> simp [h]
/-- What is put is not too much. -/
theorem stepsI_fit (lo hi : Int) (cs : List Int) (h : cs.length ≤ 1000) : (stepsI lo hi cs).length ≤ 100000 ∧ stepsI lo hi cs ≠ [] := by
  have := stepsI_lenR lo hi cs [lo] (by simp)
  simp only [List.length_singleton] at this
  exact ⟨by unfold stepsI; omega, this.2⟩

/-- The steps, in new memory. -/
def StepS (w : World) (l : List Int) (e : Ending) (w' : World) : Prop :=
  ∃ A' c', e = .returned (.slice A' l.length c') ∧ IntsAt w' w'.heap.size A' l ∧ l.length ≤ c' ∧ Below w.heap.size w w' ∧ ∀ ad, A' = some ad → w.heap.size ≤ ad.block

set_option maxRecDepth 100000 in
set_option maxHeartbeats 8000000 in
theorem steps6_any (traits need : Int) (cl : List CrdD) (tl : List TreD) (C T : Option Addr) (c t : Nat) (tr : Nat) (lo hi : Int) (w : World) (h : MdlAt w w.heap.size ⟨traits, cl, C, c, tl, T, t, need⟩) (hls : MdlLe ⟨traits, cl, C, c, tl, T, t, need⟩) (htr : ∀ y ∈ cl, tr < y.scales.length) :
    Calls Try.prog 33 #[.agg #[.int .i64 traits, .slice C cl.length c, .slice T tl.length t, .int .i64 need], .int .i64 tr, .agg #[.int .i64 lo, .int .i64 hi]] w (StepS w (stepsI lo hi (cutsT ⟨traits, cl.map CrdD.v, tl.map TreD.v, need⟩ tr))) := by
  rw [cutsT_eq]
  have b1 := (Below.refl w.heap.size w).alloc (Nat.le_refl _) (.cells #[.int .i64 traits, .slice C cl.length c, .slice T tl.length t, .int .i64 need] 25)
  have k1 := Blk.new w #[.int .i64 traits, .slice C cl.length c, .slice T tl.length t, .int .i64 need] 25
  have b2 := b1.alloc b1.size (.cells #[.int .i64 lo, .int .i64 hi] 45)
  have ks := newAt' (w.alloc (.cells #[.int .i64 traits, .slice C cl.length c, .slice T tl.length t, .int .i64 need] 25)) #[.int .i64 lo, .int .i64 hi] 45 (g := w.heap.size + 1) (by simp)
  have b3 := b2.alloc b2.size (.cells #[.int .i64 lo] 3)
  have ko := newAt' ((w.alloc (.cells #[.int .i64 traits, .slice C cl.length c, .slice T tl.length t, .int .i64 need] 25)).alloc (.cells #[.int .i64 lo, .int .i64 hi] 45)) #[.int .i64 lo] 3 (g := w.heap.size + 1 + 1) (by simp)
  have km := (k1.alloc (.cells #[.int .i64 lo, .int .i64 hi] 45)).alloc (.cells #[.int .i64 lo] 3)
  have kp := ks.alloc (.cells #[.int .i64 lo] 3)
  have k1c := k1.cell
  have ksc := ks.cell
  have h3 := h.later b3
  have HFc := Lib.hid (fun y hy => fcC_len (tr := tr) (m := ⟨traits, cl, C, c, tl, T, t, need⟩) hls (y := y) hy (htr y hy))
  have HFt := Lib.hid (fun y hy => ftC_len (tr := tr) (m := ⟨traits, cl, C, c, tl, T, t, need⟩) hls (y := y) hy)
  have LC := hls.cards
  have LT := hls.trees
  dsimp only at LC LT
  have HS := Lib.hid (fun y hy (s : SclD) hs => (hls.scl y hy s hs).cuts)
  have HN := Lib.hid (fun y hy => hls.nodes y hy)
  have HSl := Lib.hid (fun y hy => hls.scales y hy)
  clear h hls b1 b2
  go_enter Try.func33, Try.ntmps33
  go_wp2_with fail
  generalize hW : ((w.alloc (.cells #[.int .i64 traits, .slice C cl.length c, .slice T tl.length t, .int .i64 need] 25)).alloc (.cells #[.int .i64 lo, .int .i64 hi] 45)).alloc (.cells #[.int .i64 lo] 3) = W2 at *
  have gm := km.lt
  have gp := kp.lt
  clear hW k1 ks k1c ksc
  go_loopw [7, 8] (fun oo ii wr => ∃ (i : Nat) (A : Option Addr) (a : Nat) (l : List Int), i ≤ cl.length ∧ oo = .slice A l.length a ∧ ii = .int .i64 i ∧ Hid (l = stepsI lo hi ((cl.take i).flatMap (fcC tr))) ∧ Hid (IntsAt wr wr.heap.size A l ∧ l.length ≤ a ∧ Below W2.heap.size W2 wr ∧ (∀ ad, A = some ad → w.heap.size ≤ ad.block))) (fun _ ii _ => cl.length - (vInt ii).toNat)
  case atStart => exact ⟨0, some ⟨w.heap.size + 1 + 1, 0, none⟩, 1, [lo], Nat.zero_le _, rfl, rfl, Lib.hid (by simp [stepsI]), Lib.hid ⟨ints_blk ko, by simp, Below.refl _ _, fun ad e => by cases e; show w.heap.size ≤ w.heap.size + 1 + 1; omega⟩⟩
  case round =>
    obtain ⟨i, A, a, l, hil0, rfl, rfl, hL, hR⟩ := hrel
    by_cases hlt : i < cl.length
    · have hB := hR.out.2.2.1
      have kmr := (km.below hB gm).cell
      have hil : (i : Int) < (cl.length : Int) := by omega
      have hmem := List.getElem_mem hlt
      obtain ⟨b, off, rfl, hb, _, _, c2⟩ := crds_at h3.cards.row hlt
      have htl := htr _ hmem
      obtain ⟨b', off', hSA, hb', c3, _, _⟩ := scls_at (h3.cards.each _ hmem).row htl
      have hcu := ((h3.cards.each _ hmem).each _ (List.getElem_mem htl)).cuts
      have hfc := fcC_eq htl
      have HT : Hid ((cl.take (i + 1)).flatMap (fcC tr) = (cl.take i).flatMap (fcC tr) ++ (cl[i].scales[tr]).v.cuts) := Lib.hid (by rw [List.take_succ_eq_append_getElem hlt, List.flatMap_append, List.flatMap_singleton, hfc])
      have hpl : ((cl.take i).flatMap (fcC tr)).length ≤ 60 := by
        have := flatMap_leR (l := cl.take i) (f := fcC tr) (b := 10) (fun x hx => HFc.out x (List.mem_of_mem_take hx))
        rw [List.length_take] at this
        have : min i cl.length ≤ 6 := by omega
        omega
      have hcl := HS.out _ hmem _ (List.getElem_mem htl)
      have hts := HSl.out _ hmem
      have htl2 : (tr : Int) < (cl[i].scales.length : Int) := by omega
      rw [hSA] at c2
      have HPl := Lib.hid hpl
      generalize hq : (cl.take i).flatMap (fcC tr) = pre at *
      clear hfc hmem hq hpl hts
      generalize cl[i].scales[tr] = z at *
      generalize cl[i].scales.length = n at *
      generalize cl[i].s = s at *
      clear hSA
      have c2r := (hB.cell (p := ⟨b, off + i * 3 + 2, none⟩) hb).trans c2
      have c3r := (hB.cell (p := ⟨b', off' + tr * 3, none⟩) hb').trans c3
      go_wp2_with fail
      go_loopw [7, 9] (fun oo ii wq => ∃ (k : Nat) (A : Option Addr) (a : Nat) (l : List Int), k ≤ z.v.cuts.length ∧ oo = .slice A l.length a ∧ ii = .int .i64 k ∧ Hid (l = stepsI lo hi (pre ++ z.v.cuts.take k)) ∧ Hid (IntsAt wq wq.heap.size A l ∧ l.length ≤ a ∧ Below W2.heap.size W2 wq ∧ (∀ ad, A = some ad → w.heap.size ≤ ad.block))) (fun _ ii _ => z.v.cuts.length - (vInt ii).toNat)
      case atStart => exact ⟨0, A, a, l, Nat.zero_le _, rfl, rfl, Lib.hid (by rw [hL.out]; simp), hR⟩
      case round =>
        clear hL hR hB kmr c2r c3r
        obtain ⟨k, A1, a1, l1, hk0, rfl, rfl, hL, hR⟩ := hrel
        have hB := hR.out.2.2.1
        have kmr := (km.below hB gm).cell
        have kpr := (kp.below hB gp).cell
        have c2r := (hB.cell (p := ⟨b, off + i * 3 + 2, none⟩) hb).trans c2
        have c3r := (hB.cell (p := ⟨b', off' + tr * 3, none⟩) hb').trans c3
        by_cases hkl : k < z.v.cuts.length
        · have hkl2 : (k : Int) < (z.v.cuts.length : Int) := by omega
          obtain ⟨bx, offx, hZA, hbx, cx⟩ := ints_at hcu hkl
          rw [hZA] at c3r
          have cxr := (hB.cell (p := ⟨bx, offx + k, none⟩) hbx).trans cx
          have HT1 : Hid (stepsI lo hi (pre ++ z.v.cuts.take (k + 1)) = if spanIn lo hi z.v.cuts[k] = true then putI l1 z.v.cuts[k] else l1) := Lib.hid (by rw [List.take_succ_eq_append_getElem hkl, ← List.append_assoc, stepsI_snoc, ← hL.out])
          have hfit := stepsI_fit lo hi (pre ++ z.v.cuts.take k) (by have := HPl.out; rw [List.length_append, List.length_take]; omega)
          rw [← hL.out] at hfit
          have HPut := Lib.hid (put6_any l1 z.v.cuts[k] A1 a1 _ hR.out.1 hfit.2 hfit.1 hR.out.2.1)
          clear hfit cx
          generalize z.v.cuts[k] = x at *
          generalize hzl : z.v.cuts.length = zn at *
          by_cases q1 : lo < x
          · by_cases q2 : x ≤ hi
            · have HJ : Hid (stepsI lo hi (pre ++ z.v.cuts.take (k + 1)) = putI l1 x) := Lib.hid (by rw [HT1.out, if_pos (by unfold spanIn; simp [q1, q2])])
              clear HT1 hL
              go_wp2_with (go_at_call 53; (with_reducible refine (HPut.out).mono ?_); rintro e w8 ⟨A8, c8, rfl, hA8, hc8, h8, f8⟩)
              go_roundw
              case rel => exact ⟨k + 1, A8, c8, _, by omega, rfl, by go_num, Lib.hid HJ.out.symm, Lib.hid ⟨hA8, hc8, hB.trans (h8.mono hB.size), fun ad e => f8.elim (fun q => hR.out.2.2.2 ad (q ▸ e)) (fun q => Nat.le_trans (Nat.le_trans b3.size hB.size) (q ad e))⟩⟩
              case measure => simp [vInt]; omega
            · have HJ : Hid (stepsI lo hi (pre ++ z.v.cuts.take (k + 1)) = l1) := Lib.hid (by rw [HT1.out, if_neg (by unfold spanIn; simp [q2])])
              clear HT1 hL HPut
              go_wp2_with fail
              go_roundw
              case rel => exact ⟨k + 1, A1, a1, _, by omega, rfl, by go_num, Lib.hid HJ.out.symm, hR⟩
              case measure => simp [vInt]; omega
          · have HJ : Hid (stepsI lo hi (pre ++ z.v.cuts.take (k + 1)) = l1) := Lib.hid (by rw [HT1.out, if_neg (by unfold spanIn; simp [q1])])
            clear HT1 hL HPut
            go_wp2_with fail
            go_roundw
            case rel => exact ⟨k + 1, A1, a1, _, by omega, rfl, by go_num, Lib.hid HJ.out.symm, hR⟩
            case measure => simp [vInt]; omega
        · obtain rfl : k = z.v.cuts.length := by omega
          have hkl2 : ¬ (z.v.cuts.length : Int) < (z.v.cuts.length : Int) := by omega
          have HJ : Hid (l1 = stepsI lo hi ((cl.take (i + 1)).flatMap (fcC tr))) := Lib.hid (by rw [hL.out, HT.out, List.take_length])
          clear hL HT
          go_wp2_with fail
          go_roundw
          case rel => exact ⟨i + 1, A1, a1, l1, by omega, rfl, by go_num, HJ, hR⟩
          case measure => simp [vInt]; omega
    · have hil : ¬ (i : Int) < (cl.length : Int) := by omega
      obtain rfl : i = cl.length := by omega
      have hB := hR.out.2.2.1
      have kmr := (km.below hB gm).cell
      have HL : Hid (l = stepsI lo hi (cl.flatMap (fcC tr))) := Lib.hid (by rw [hL.out, List.take_length])
      have hpl : (cl.flatMap (fcC tr)).length ≤ 60 := by
        have := flatMap_leR (l := cl) (f := fcC tr) (b := 10) HFc.out
        omega
      have HPl := Lib.hid hpl
      clear hL hpl htr
      generalize cl.flatMap (fcC tr) = pre0 at *
      go_wp2_with fail
      clear kmr
      go_loopw [7, 11] (fun oo ii wr => ∃ (i : Nat) (A : Option Addr) (a : Nat) (l : List Int), i ≤ tl.length ∧ oo = .slice A l.length a ∧ ii = .int .i64 i ∧ Hid (l = stepsI lo hi (pre0 ++ (tl.take i).flatMap (ftC tr))) ∧ Hid (IntsAt wr wr.heap.size A l ∧ l.length ≤ a ∧ Below W2.heap.size W2 wr ∧ (∀ ad, A = some ad → w.heap.size ≤ ad.block))) (fun _ ii _ => tl.length - (vInt ii).toNat)
      case atStart => exact ⟨0, A, a, l, Nat.zero_le _, rfl, rfl, Lib.hid (by rw [HL.out]; simp), hR⟩
      case round =>
        clear HL hR hB
        obtain ⟨i, A, a, l, hil0, rfl, rfl, hL, hR⟩ := hrel
        have hB := hR.out.2.2.1
        have kmr := (km.below hB gm).cell
        by_cases hlt : i < tl.length
        · have hil : (i : Int) < (tl.length : Int) := by omega
          have hmem := List.getElem_mem hlt
          obtain ⟨b, off, rfl, hb, _, c1⟩ := tres_at h3.trees.row hlt
          have hnd := h3.trees.each _ hmem
          have HT : Hid ((tl.take (i + 1)).flatMap (ftC tr) = (tl.take i).flatMap (ftC tr) ++ nodCuts (tr : Int) tl[i].v.nodes) := Lib.hid (by rw [List.take_succ_eq_append_getElem hlt, List.flatMap_append, List.flatMap_singleton]; rfl)
          have hpl : ((tl.take i).flatMap (ftC tr)).length ≤ 120 := by
            have := flatMap_leR (l := tl.take i) (f := ftC tr) (b := 20) (fun x hx => HFt.out x (List.mem_of_mem_take hx))
            rw [List.length_take] at this
            have : min i tl.length ≤ 6 := by omega
            omega
          have hnl := HN.out _ hmem
          have HPl2 := Lib.hid hpl
          generalize hq : (tl.take i).flatMap (ftC tr) = pre at *
          clear hmem hq hpl
          generalize tl[i].v.nodes = z at *
          generalize tl[i].T = TA at *
          generalize tl[i].t = s at *
          have c1r := (hB.cell (p := ⟨b, off + i * 2 + 1, none⟩) hb).trans c1
          go_wp2_with fail
          go_loopw [7, 12] (fun oo ii wq => ∃ (k : Nat) (A : Option Addr) (a : Nat) (l : List Int), k ≤ z.length ∧ oo = .slice A l.length a ∧ ii = .int .i64 k ∧ Hid (l = stepsI lo hi (pre0 ++ pre ++ nodCuts (tr : Int) (z.take k))) ∧ Hid (IntsAt wq wq.heap.size A l ∧ l.length ≤ a ∧ Below W2.heap.size W2 wq ∧ (∀ ad, A = some ad → w.heap.size ≤ ad.block))) (fun _ ii _ => z.length - (vInt ii).toNat)
          case atStart => exact ⟨0, A, a, l, Nat.zero_le _, rfl, rfl, Lib.hid (by rw [hL.out]; simp [nodCuts]), hR⟩
          case round =>
            clear hL hR hB kmr c1r
            obtain ⟨k, A1, a1, l1, hk0, rfl, rfl, hL, hR⟩ := hrel
            have hB := hR.out.2.2.1
            have kmr := (km.below hB gm).cell
            have c1r := (hB.cell (p := ⟨b, off + i * 2 + 1, none⟩) hb).trans c1
            by_cases hkl : k < z.length
            · have hkl2 : (k : Int) < (z.length : Int) := by omega
              obtain ⟨bx, offx, rfl, hbx, d0, d1, d2, d3, d4⟩ := nods_at hnd hkl
              have e0 := (hB.cell (p := ⟨bx, offx + k * 5, none⟩) hbx).trans d0
              have e1 := (hB.cell (p := ⟨bx, offx + k * 5 + 1, none⟩) hbx).trans d1
              have e2 := (hB.cell (p := ⟨bx, offx + k * 5 + 2, none⟩) hbx).trans d2
              have e3 := (hB.cell (p := ⟨bx, offx + k * 5 + 3, none⟩) hbx).trans d3
              have e4 := (hB.cell (p := ⟨bx, offx + k * 5 + 4, none⟩) hbx).trans d4
              have HT1 : Hid (stepsI lo hi (pre0 ++ pre ++ nodCuts (tr : Int) (z.take (k + 1))) = if z[k].tr = (tr : Int) then (if spanIn lo hi z[k].cut = true then putI l1 z[k].cut else l1) else l1) := Lib.hid (by
                rw [List.take_succ_eq_append_getElem hkl, nodCuts_snocR]
                by_cases h : z[k].tr = (tr : Int)
                · rw [if_pos h, if_pos h, ← List.append_assoc, stepsI_snoc, ← hL.out]
                · rw [if_neg h, if_neg h, ← hL.out])
              have hnk : (nodCuts (tr : Int) (z.take k)).length ≤ 20 := by
                unfold nodCuts
                rw [List.length_map]
                refine Nat.le_trans (List.length_filter_le _ _) ?_
                rw [List.length_take]; omega
              have hfit := stepsI_fit lo hi (pre0 ++ pre ++ nodCuts (tr : Int) (z.take k)) (by have := HPl.out; have := HPl2.out; rw [List.length_append, List.length_append]; omega)
              rw [← hL.out] at hfit
              have ba := (Below.refl wr.heap.size wr).alloc (Nat.le_refl _) (.cells #[.int .i64 z[k].tr, .int .i64 z[k].cut, .int .i64 z[k].low, .int .i64 z[k].high, .int .i64 z[k].pts] 74)
              have HPut := Lib.hid (put6_any l1 z[k].cut A1 a1 _ (hR.out.1.later ba) hfit.2 hfit.1 hR.out.2.1)
              have hBa := hB.trans (ba.mono hB.size)
              have kn := Blk.new wr #[.int .i64 z[k].tr, .int .i64 z[k].cut, .int .i64 z[k].low, .int .i64 z[k].high, .int .i64 z[k].pts] 74
              have knc := kn.cell
              have kpr := ((kp.below hB gp).alloc (.cells #[.int .i64 z[k].tr, .int .i64 z[k].cut, .int .i64 z[k].low, .int .i64 z[k].high, .int .i64 z[k].pts] 74)).cell
              have HRa := Lib.hid (hR.out.1.later ba)
              have HCa := Lib.hid hR.out.2.1
              have HFa := Lib.hid hR.out.2.2.2
              clear hfit d0 d1 d2 d3 d4 hnk ba kn hR hB
              generalize z[k] = x at *
              generalize hzl : z.length = zn at *
              by_cases q0 : x.tr = (tr : Int)
              · have q0b : (x.tr == (tr : Int)) = true := by simp [q0]
                by_cases q1 : lo < x.cut
                · by_cases q2 : x.cut ≤ hi
                  · have HJ : Hid (stepsI lo hi (pre0 ++ pre ++ nodCuts (tr : Int) (z.take (k + 1))) = putI l1 x.cut) := Lib.hid (by rw [HT1.out, if_pos q0, if_pos (by unfold spanIn; simp [q1, q2])])
                    clear HT1 hL q0
                    go_wp2_with (go_at_call 53; (with_reducible refine (HPut.out).mono ?_); rintro e w8 ⟨A8, c8, rfl, hA8, hc8, h8, f8⟩)
                    go_roundw
                    case rel => exact ⟨k + 1, A8, c8, _, by omega, rfl, by go_num, Lib.hid HJ.out.symm, Lib.hid ⟨hA8, hc8, hBa.trans (h8.mono hBa.size), fun ad e => f8.elim (fun q => HFa.out ad (q ▸ e)) (fun q => Nat.le_trans (Nat.le_trans b3.size hBa.size) (q ad e))⟩⟩
                    case measure => simp [vInt]; omega
                  · have HJ : Hid (stepsI lo hi (pre0 ++ pre ++ nodCuts (tr : Int) (z.take (k + 1))) = l1) := Lib.hid (by rw [HT1.out, if_pos q0, if_neg (by unfold spanIn; simp [q2])])
                    clear HT1 hL HPut q0
                    go_wp2_with fail
                    go_roundw
                    case rel => exact ⟨k + 1, A1, a1, _, by omega, rfl, by go_num, Lib.hid HJ.out.symm, Lib.hid ⟨HRa.out, HCa.out, hBa, HFa.out⟩⟩
                    case measure => simp [vInt]; omega
                · have HJ : Hid (stepsI lo hi (pre0 ++ pre ++ nodCuts (tr : Int) (z.take (k + 1))) = l1) := Lib.hid (by rw [HT1.out, if_pos q0, if_neg (by unfold spanIn; simp [q1])])
                  clear HT1 hL HPut q0
                  go_wp2_with fail
                  go_roundw
                  case rel => exact ⟨k + 1, A1, a1, _, by omega, rfl, by go_num, Lib.hid HJ.out.symm, Lib.hid ⟨HRa.out, HCa.out, hBa, HFa.out⟩⟩
                  case measure => simp [vInt]; omega
              · have q0b : (x.tr == (tr : Int)) = false := by simpa using q0
                have HJ : Hid (stepsI lo hi (pre0 ++ pre ++ nodCuts (tr : Int) (z.take (k + 1))) = l1) := Lib.hid (by rw [HT1.out, if_neg q0])
                clear HT1 hL HPut q0
                go_wp2_with fail
                go_roundw
                case rel => exact ⟨k + 1, A1, a1, _, by omega, rfl, by go_num, Lib.hid HJ.out.symm, Lib.hid ⟨HRa.out, HCa.out, hBa, HFa.out⟩⟩
                case measure => simp [vInt]; omega
            · obtain rfl : k = z.length := by omega
              have hkl2 : ¬ (z.length : Int) < (z.length : Int) := by omega
              have HJ : Hid (l1 = stepsI lo hi (pre0 ++ (tl.take (i + 1)).flatMap (ftC tr))) := Lib.hid (by rw [hL.out, HT.out, List.take_length, List.append_assoc])
              clear hL HT
              go_wp2_with fail
              go_roundw
              case rel => exact ⟨i + 1, A1, a1, l1, by omega, rfl, by go_num, HJ, hR⟩
              case measure => simp [vInt]; omega
        · have hil : ¬ (i : Int) < (tl.length : Int) := by omega
          obtain rfl : i = tl.length := by omega
          have HJ : Hid (l = stepsI lo hi (pre0 ++ tl.flatMap (ftC tr))) := Lib.hid (by rw [hL.out, List.take_length])
          clear hL
          go_wp2_with fail
          go_ret
          exact ⟨A, a, by rw [← HJ.out]; rfl, by rw [← HJ.out]; exact hR.out.1, by rw [← HJ.out]; exact hR.out.2.1, b3.trans (hR.out.2.2.1.mono b3.size), hR.out.2.2.2⟩
end Go.Proofs.Ytijhbcmmoagdmaa
