/- The score, by the reference. Written by a program. -/
import Derived.Test.YtkimojiakabbcaaGreatSRef6

namespace Go.Proofs.YtkimojiakabbcaaGreat
open Go.RowKit Go.Maps

theorem crdB_parts {traits : Int} {c : Crd} (h : crdB traits c = true) : (0 ≤ c.weight ∧ c.weight ≤ 1000) ∧ ptB c.base = true ∧ (c.scales.length : Int) = traits ∧ ∀ s ∈ c.scales, sclB s = true := by
  unfold crdB at h
  simp only [Bool.and_eq_true, decide_eq_true_eq, List.all_eq_true] at h
  exact ⟨inN_iff.1 h.1.1.1, h.1.1.2, h.1.2, h.2⟩
theorem treB_parts {traits : Int} {t : Tre} (h : treB traits t = true) : (0 ≤ t.weight ∧ t.weight ≤ 1000) ∧ (1 ≤ t.nodes.length ∧ t.nodes.length ≤ 7) ∧ ∀ i, i < t.nodes.length → nodB t.nodes.length traits i (t.nodes.getD i default) = true := by
  unfold treB at h
  simp only [Bool.and_eq_true, inN_iff, rangeB_iff] at h
  exact ⟨h.1.1, by omega, h.2⟩
theorem onCrd_bound {c : Crd} {x : List Int} (h : crdB x.length c = true) (hx : x.length ≤ 10) : -11000000 ≤ onCrd c x ∧ onCrd c x ≤ 11000000 := by
  obtain ⟨_, h2, h3, h4⟩ := crdB_parts h
  have h5 := sclsUp_bound h4 x c.scales.length (Nat.le_refl _)
  have h6 := ptB_iff.1 h2
  unfold onCrd
  omega
theorem treGo_bound {l : List Nod} {x : List Int} (h : ∀ i, i < l.length → (l.getD i default).tr = -1 → ptB (l.getD i default).pts = true) : ∀ f a, -1000000 ≤ treGo l x f a ∧ treGo l x f a ≤ 1000000
  | 0, _ => by simp [treGo]
  | f + 1, a => by
    by_cases ht : (l.getD a default).tr = -1
    · rw [treGo_leaf ht]
      rcases Nat.lt_or_ge a l.length with h1 | h1
      · exact ptB_iff.1 (h a h1 ht)
      · have e : l.getD a default = default := by simp [h1]
        rw [e] at ht
        cases ht
    · rw [treGo_node ht]
      split
      · exact treGo_bound h f _
      · exact treGo_bound h f _
theorem onTre_bound {t : Tre} {x : List Int} (h : treB x.length t = true) : -1000000 ≤ onTre t x ∧ onTre t x ≤ 1000000 :=
  treGo_bound (fun i hi ht => by
    have := (treB_parts h).2.2 i hi
    rw [nodB_leaf ht] at this
    simp only [Bool.and_eq_true] at this
    exact this.2) _ _
theorem mul_bound {w p : Int} (h1 : 0 ≤ w ∧ w ≤ 1000) (h2 : -11000000 ≤ p ∧ p ≤ 11000000) : -11000000000 ≤ w * p ∧ w * p ≤ 11000000000 := by
  have a1 := Int.mul_le_mul_of_nonneg_left h2.2 h1.1
  have a2 := Int.mul_le_mul_of_nonneg_left h2.1 h1.1
  omega
/-- What counts, part by part. -/
def prodL (m : Mdl) (x : List Int) : List Int := (m.cards.map fun c => c.weight * onCrd c x) ++ (m.trees.map fun t => t.weight * onTre t x)
theorem scoreM_eq (m : Mdl) (x : List Int) : scoreM m x = sumL (prodL m x) := rfl
theorem sumL_bound : ∀ (l : List Int), (∀ z ∈ l, -11000000000 ≤ z ∧ z ≤ 11000000000) → -(11000000000 * (l.length : Int)) ≤ sumL l ∧ sumL l ≤ 11000000000 * (l.length : Int)
  | [], _ => by simp [sumL]
  | z :: l, h => by
    have h1 := h z (by simp)
    have h2 := sumL_bound l fun y hy => h y (by simp [hy])
    rw [sumL, List.length_cons]
    omega

set_option maxRecDepth 100000 in
set_option maxHeartbeats 8000000 in
theorem score6_all (traits need : Int) (cl : List CrdD) (tl : List TreD) (C T : Option Addr) (c t : Nat) (x : List Int) (A : Option Addr) (a : Nat) (w : World) (h : MdlAt w w.heap.size ⟨traits, cl, C, c, tl, T, t, need⟩) (hx : IntsAt w w.heap.size A x) (hc : ∀ y ∈ cl, crdB x.length y.v = true) (ht : ∀ y ∈ tl, treB x.length y.v = true) (hcl : cl.length ≤ 6) (htl : tl.length ≤ 6) (hxl : x.length ≤ 10) :
    Calls Tryz.prog 65 #[.agg #[.int .i64 traits, .slice C cl.length c, .slice T tl.length t, .int .i64 need], .slice A x.length a] w fun e w' => e = .returned (.int .i64 (scoreM ⟨traits, cl.map CrdD.v, tl.map TreD.v, need⟩ x)) ∧ Below w.heap.size w w' := by
  have b1 := (Below.refl w.heap.size w).alloc (Nat.le_refl _) (.cells #[.int .i64 traits, .slice C cl.length c, .slice T tl.length t, .int .i64 need] 29)
  have k1 := Blk.new w #[.int .i64 traits, .slice C cl.length c, .slice T tl.length t, .int .i64 need] 29
  have g1 := k1.lt
  have k1c := k1.cell
  have b1s := b1.size
  have HA := Lib.hid (all6_all traits need cl tl C T c t x A a _ (h.later b1) (hx.later b1) hc ht hcl htl hxl)
  have hlen : (ptsL ⟨traits, cl.map CrdD.v, tl.map TreD.v, need⟩ x).length = cl.length + tl.length := by unfold ptsL; simp
  have HLc : Hid (∀ i (hi : i < cl.length), (ptsL ⟨traits, cl.map CrdD.v, tl.map TreD.v, need⟩ x).getD i 0 = onCrd cl[i].v x) := Lib.hid (fun i hi => by
    rw [getD_lt _ _ (by rw [hlen]; omega)]
    unfold ptsL
    rw [List.getElem_append_left (by simpa using hi)]
    simp)
  have HLt : Hid (∀ i (hi : i < tl.length), (ptsL ⟨traits, cl.map CrdD.v, tl.map TreD.v, need⟩ x).getD (cl.length + i) 0 = onTre tl[i].v x) := Lib.hid (fun i hi => by
    rw [getD_lt _ _ (by rw [hlen]; omega)]
    unfold ptsL
    rw [List.getElem_append_right (by simp)]
    simp)
  have hpl : (prodL ⟨traits, cl.map CrdD.v, tl.map TreD.v, need⟩ x).length = cl.length + tl.length := by unfold prodL; simp
  have HPc : Hid (∀ i (hi : i < cl.length), (prodL ⟨traits, cl.map CrdD.v, tl.map TreD.v, need⟩ x).getD i 0 = cl[i].weight * onCrd cl[i].v x) := Lib.hid (fun i hi => by
    rw [getD_lt _ _ (by rw [hpl]; omega)]
    unfold prodL
    rw [List.getElem_append_left (by simpa using hi)]
    simp [CrdD.v])
  have HPt : Hid (∀ i (hi : i < tl.length), (prodL ⟨traits, cl.map CrdD.v, tl.map TreD.v, need⟩ x).getD (cl.length + i) 0 = tl[i].v.weight * onTre tl[i].v x) := Lib.hid (fun i hi => by
    rw [getD_lt _ _ (by rw [hpl]; omega)]
    unfold prodL
    rw [List.getElem_append_right (by simp)]
    simp)
  have HPB : Hid (∀ z ∈ prodL ⟨traits, cl.map CrdD.v, tl.map TreD.v, need⟩ x, -11000000000 ≤ z ∧ z ≤ 11000000000) := Lib.hid (fun z hz => by
    unfold prodL at hz
    rcases List.mem_append.1 hz with hz | hz
    · obtain ⟨y, hy, rfl⟩ := List.mem_map.1 hz
      obtain ⟨q, hq, rfl⟩ := List.mem_map.1 hy
      exact mul_bound (crdB_parts (hc q hq)).1 (onCrd_bound (hc q hq) hxl)
    · obtain ⟨y, hy, rfl⟩ := List.mem_map.1 hz
      obtain ⟨q, hq, rfl⟩ := List.mem_map.1 hy
      have := onTre_bound (ht q hq)
      exact mul_bound (treB_parts (ht q hq)).1 (by omega))
  have HV := Lib.hid (scoreM_eq ⟨traits, cl.map CrdD.v, tl.map TreD.v, need⟩ x)
  have HhC := Lib.hid (fun W hb => (h.later (w' := W) hb).cards.row)
  have HhT := Lib.hid (fun W hb => (h.later (w' := W) hb).trees.row)
  clear h hx hc ht
  generalize scoreM ⟨traits, cl.map CrdD.v, tl.map TreD.v, need⟩ x = V at *
  generalize ptsL ⟨traits, cl.map CrdD.v, tl.map TreD.v, need⟩ x = L at *
  generalize prodL ⟨traits, cl.map CrdD.v, tl.map TreD.v, need⟩ x = PR at *
  go_enter Tryz.func65, Tryz.ntmps65
  go_wp2_with (go_at_call 88; (with_reducible refine (HA.out).mono ?_); rintro e w2 ⟨A2, c2, rfl, hown, h2⟩)
  have b2 := b1.trans (h2.mono b1s)
  have k2 := k1.below h2 g1
  have b2s := b2.size
  have g2 := k2.lt
  have HL2 := Lib.hid (Flat.of_own (n := 1) (f := intC) (fun _ => rfl) (by decide) hown)
  clear HA hown k1 k1c
  go_loopw [6, 7] (fun zz ii wr => ∃ (i : Nat) (z : Int), i ≤ cl.length + tl.length ∧ zz = .int .i64 z ∧ ii = .int .i64 i ∧ Hid (z = sumL (PR.take i)) ∧ Hid (Below w2.heap.size w2 wr)) (fun _ ii _ => cl.length + tl.length - (vInt ii).toNat)
  case atStart => exact ⟨0, 0, Nat.zero_le _, rfl, rfl, Lib.hid (by simp [sumL]), Lib.hid (Below.refl _ _)⟩
  case round =>
    obtain ⟨i, z, hi, rfl, rfl, hZ, hBh⟩ := hrel
    have hB := hBh.out
    have k3 := k2.below hB g2
    have b3 := b2.trans (hB.mono b2s)
    have k3c := k3.cell
    by_cases hlt : i < cl.length + tl.length
    · have hiL : i < L.length := by omega
      have hil : (i : Int) < (L.length : Int) := by omega
      have hzB := sumL_bound (PR.take i) fun q hq => HPB.out q (List.mem_of_mem_take hq)
      rw [List.length_take, Nat.min_eq_left (by omega)] at hzB
      have hzv := hZ.out
      obtain ⟨bl, offl, hAl, hbl, cl0⟩ := ints_at (HL2.out.later hB) hiL
      have hPi : i < PR.length := by omega
      have hPb := HPB.out PR[i] (List.getElem_mem hPi)
      have HS : Hid (sumL (PR.take (i + 1)) = sumL (PR.take i) + PR[i]) := Lib.hid (by rw [List.take_succ_eq_append_getElem hPi, sumL_snoc])
      have hPg := getD_lt PR 0 hPi
      have hLg := getD_lt L 0 hiL
      cases hAl
      by_cases hc : i < cl.length
      · have hic : (i : Int) < (cl.length : Int) := by omega
        obtain ⟨b, off, rfl, hb, c0, c1, c2'⟩ := crds_at (HhC.out wr b3) hc
        have e1 := HPc.out i hc
        rw [hPg] at e1
        have e2 := HLc.out i hc
        rw [hLg] at e2
        rw [e2] at cl0
        rw [e1] at hPb HS
        have hw1 : IntKind.i64.wrap (cl[i].weight * onCrd cl[i].v x) = cl[i].weight * onCrd cl[i].v x := IntWalk.i64_in _ (by omega)
        have hw2 : IntKind.i64.wrap (z + cl[i].weight * onCrd cl[i].v x) = z + cl[i].weight * onCrd cl[i].v x := IntWalk.i64_in _ (by omega)
        have HJ : Hid (z + cl[i].weight * onCrd cl[i].v x = sumL (PR.take (i + 1))) := Lib.hid (by rw [HS.out, hzv])
        have k3a := After.cells (B := wr.heap.size) k3.cell k3.lt
        have d0 := After.cell (B := wr.heap.size) c0 hb
        have dl := After.cell (B := wr.heap.size) cl0 hbl
        clear hzB hzv hZ hPb HS hPg hLg e1 e2 c0 c1 c2' cl0 hBh
        generalize onCrd cl[i].v x = o at *
        generalize cl[i].weight = wt at *
        go_upto_region 7 with fail
        refine wp_region_class_lit (C := fun w' => ∃ z : After wr.heap.size wr, w' = z.val) (by kernel_rfl) (by kernel_rfl) ⟨⟨_, (Below.refl _ _).drew⟩, rfl⟩ ?_
        repeat (go_big_quiet_step (fail))
        refine wpQuiet_nil ?_
        intro wq hw'
        obtain ⟨⟨wz, hz⟩, hw''⟩ := hw'
        dsimp only at hw''
        subst hw''
        go_wp2_with fail
        go_roundw
        case rel => exact ⟨i + 1, z + wt * o, by omega, rfl, by go_num, HJ, Lib.hid (hB.trans (hz.mono hB.size))⟩
        case measure => simp [vInt]; omega
      · have hic : ¬ (i : Int) < (cl.length : Int) := by omega
        have hij : cl.length + (i - cl.length) = i := by omega
        obtain ⟨j, hj, hs1, e1, e2⟩ : ∃ j, ∃ hj : j < tl.length, IntKind.i64.wrap ((i : Int) - (cl.length : Int)) = (j : Int) ∧ PR.getD i 0 = tl[j].v.weight * onTre tl[j].v x ∧ L.getD i 0 = onTre tl[j].v x :=
          ⟨i - cl.length, by omega, by rw [IntWalk.i64_in _ (by omega)]; omega, by have := HPt.out (i - cl.length) (by omega); rwa [hij] at this, by have := HLt.out (i - cl.length) (by omega); rwa [hij] at this⟩
        clear hij
        obtain ⟨b, off, rfl, hb, c0, c1⟩ := tres_at (HhT.out wr b3) hj
        rw [hPg] at e1
        rw [hLg] at e2
        rw [e2] at cl0
        rw [e1] at hPb HS
        have hjt : (j : Int) < (tl.length : Int) := by omega
        have hw1 : IntKind.i64.wrap (tl[j].v.weight * onTre tl[j].v x) = tl[j].v.weight * onTre tl[j].v x := IntWalk.i64_in _ (by omega)
        have hw2 : IntKind.i64.wrap (z + tl[j].v.weight * onTre tl[j].v x) = z + tl[j].v.weight * onTre tl[j].v x := IntWalk.i64_in _ (by omega)
        have HJ : Hid (z + tl[j].v.weight * onTre tl[j].v x = sumL (PR.take (i + 1))) := Lib.hid (by rw [HS.out, hzv])
        have k3a := After.cells (B := wr.heap.size) k3.cell k3.lt
        have d0 := After.cell (B := wr.heap.size) c0 hb
        have dl := After.cell (B := wr.heap.size) cl0 hbl
        clear hzB hzv hZ hPb HS hPg hLg e1 e2 c0 c1 cl0 hBh
        generalize onTre tl[j].v x = o at *
        generalize tl[j].v.weight = wt at *
        go_upto_region 8 with fail
        refine wp_region_class_lit (C := fun w' => ∃ z : After wr.heap.size wr, w' = z.val) (by kernel_rfl) (by kernel_rfl) ⟨⟨_, (Below.refl _ _).drew⟩, rfl⟩ ?_
        repeat (go_big_quiet_step (fail))
        refine wpQuiet_nil ?_
        intro wq hw'
        obtain ⟨⟨wz, hz⟩, hw''⟩ := hw'
        dsimp only at hw''
        subst hw''
        go_wp2_with fail
        go_roundw
        case rel => exact ⟨i + 1, z + wt * o, by omega, rfl, by go_num, HJ, Lib.hid (hB.trans (hz.mono hB.size))⟩
        case measure => simp [vInt]; omega
    · have hil : ¬ (i : Int) < (L.length : Int) := by omega
      have Hv : Hid (V = z) := Lib.hid (by rw [HV.out, hZ.out, List.take_of_length_le (by omega)])
      clear hZ hBh
      go_wp2_with fail
      go_ret
      exact ⟨by rw [Hv.out]; rfl, b3⟩
end Go.Proofs.YtkimojiakabbcaaGreat
