/- The least and the greatest score, by the program: whole. -/
import Derived.Test.YtijhbcmmoagdmaaBBtw
import Derived.Test.YtijhbcmmoagdmaaBSaidP6
import Derived.Test.YtijhbcmmoagdmaaBSaidP4
import Derived.Test.YtijhbcmmoagdmaaBSaidP1
import Derived.Deep.RegionLawGrows
import Derived.Test.YtijhbcmmoagdmaaBSaidP3
import Derived.Deep.Strs
import Derived.Lib.SmallJoins
import Derived.ProofKit
import Derived.OpenShut

namespace Go.Proofs.Ytijhbcmmoagdmaa
open Go.RowKit Go.Maps

theorem scoreM_boundL {m : Mdl} {x : List Int} (h : mdlB m = true) (hl : (x.length : Int) = m.traits) (hxl : x.length ≤ 10) : -44000000000 ≤ scoreM m x ∧ scoreM m x ≤ 44000000000 := by
  obtain ⟨_, _, h3, h4, h5, h6⟩ := mdlB_parts h
  have := sumL_bound (prodL m x) (fun z hz => by
    unfold prodL at hz
    rcases List.mem_append.1 hz with hz | hz
    · obtain ⟨q, hq, rfl⟩ := List.mem_map.1 hz
      have h7 := h5 q hq
      rw [← hl] at h7
      exact mul_bound (crdB_parts h7).1 (onCrd_bound h7 hxl)
    · obtain ⟨q, hq, rfl⟩ := List.mem_map.1 hz
      have h7 := h6 q hq
      rw [← hl] at h7
      have := onTre_bound h7
      exact mul_bound (treB_parts h7).1 (by omega))
  have hlen : (prodL m x).length = m.cards.length + m.trees.length := by unfold prodL; simp
  rw [hlen] at this
  rw [scoreM_eq]
  omega
theorem vecs_mem_len : ∀ (L : List (List Int)) (v : List Int), v ∈ vecs L → v.length = L.length
  | [], v, h => by
    have : v = [] := by simpa [vecs] using h
    subst this; rfl
  | l :: L, v, h => by
    unfold vecs at h
    obtain ⟨a, _, h2⟩ := List.mem_flatMap.1 h
    obtain ⟨r, hr, rfl⟩ := List.mem_map.1 h2
    simp [vecs_mem_len L r hr]
theorem spnsB_len {traits : Int} {x : List Spn} (h : spnsB traits x = true) : (x.length : Int) = traits := by
  unfold spnsB at h
  simp only [Bool.and_eq_true, decide_eq_true_eq] at h
  exact h.1

/-- The score, where the values are as many as they should be. -/
def scT (m : Mdl) (x : List Int) : Int := if (x.length : Int) = m.traits then scoreM m x else 0

set_option maxHeartbeats 4000000 in
theorem betweenP_all (traits need : Int) (cl : List CrdD) (tl : List TreD) (C T : Option Addr) (c t : Nat) (sp : List Spn) (SA : Option Addr) (sc : Nat) (w : World) (h : MdlAt w w.heap.size ⟨traits, cl, C, c, tl, T, t, need⟩) (hls : MdlLe ⟨traits, cl, C, c, tl, T, t, need⟩) (hx : SpnsAt w w.heap.size SA sp) (hxl : sp.length ≤ 10) :
    Calls Try.prog 15 #[.agg #[.int .i64 traits, .slice C cl.length c, .slice T tl.length t, .int .i64 need], .slice SA sp.length sc] w fun e w' => e = .returned (.tuple #[.agg #[.int .i64 (betV ⟨traits, cl.map CrdD.v, tl.map TreD.v, need⟩ sp).lo, .int .i64 (betV ⟨traits, cl.map CrdD.v, tl.map TreD.v, need⟩ sp).hi], .int .i64 (betE ⟨traits, cl.map CrdD.v, tl.map TreD.v, need⟩ sp)]) ∧ Below w.heap.size w w' := by
  by_cases q1 : mdlB ⟨traits, cl.map CrdD.v, tl.map TreD.v, need⟩ = true
  · by_cases q2 : spnsB traits sp = true
    · have hE : betE ⟨traits, cl.map CrdD.v, tl.map TreD.v, need⟩ sp = 0 := by unfold betE; rw [if_pos q1]; exact if_pos q2
      have hV : betV ⟨traits, cl.map CrdD.v, tl.map TreD.v, need⟩ sp = ⟨loL ((vecs (stepsL ⟨traits, cl.map CrdD.v, tl.map TreD.v, need⟩ sp)).map (scoreM ⟨traits, cl.map CrdD.v, tl.map TreD.v, need⟩)), hiL ((vecs (stepsL ⟨traits, cl.map CrdD.v, tl.map TreD.v, need⟩ sp)).map (scoreM ⟨traits, cl.map CrdD.v, tl.map TreD.v, need⟩))⟩ := by unfold betV; exact if_pos hE
      rw [hE, hV]
      have hl := spnsB_len q2
      refine betweenP_good traits need cl tl C T c t sp SA sc w h hls hx hxl q1 q2 _ _ ?_
      intro S s sh W hb hco hlen hat
      have hmap : (vecs (stepsL ⟨traits, cl.map CrdD.v, tl.map TreD.v, need⟩ sp)).map (scoreM ⟨traits, cl.map CrdD.v, tl.map TreD.v, need⟩) = (listsS sp.length sp (fun k => allCuts (k : Int) sh)).map (scT ⟨traits, cl.map CrdD.v, tl.map TreD.v, need⟩) := by
        rw [listsS_eq (traits := traits) (need := need) hco rfl]
        refine List.map_congr_left fun v hv => ?_
        have hvl := vecs_mem_len _ _ hv
        have : v.length = sp.length := by rw [hvl]; simp [stepsL]
        exact (if_pos (by show (v.length : Int) = traits; rw [this]; exact hl)).symm
      rw [hmap]
      obtain ⟨_, _, p3, p4, _, _⟩ := mdlB_parts q1
      have p3' : cl.length ≤ 2 := by simpa using p3
      have p4' : tl.length ≤ 2 := by simpa using p4
      rw [← hlen]
      refine (callsIn_wide (n := 8)).1 (between_any traits need C T S SA cl.length c tl.length t sh.length s sc sp.length sp (fun k => allCuts (k : Int) sh) (by omega) rfl (scT ⟨traits, cl.map CrdD.v, tl.map TreD.v, need⟩) ?_ (listsS_ne _ _ _) W (hx.later hb) ?_ ?_)
      · intro x
        by_cases hxx : (x.length : Int) = traits
        · have := scoreM_boundL (x := x) q1 hxx (by omega)
          rw [show scT ⟨traits, cl.map CrdD.v, tl.map TreD.v, need⟩ x = scoreM ⟨traits, cl.map CrdD.v, tl.map TreD.v, need⟩ x from if_pos hxx]
          omega
        · rw [show scT ⟨traits, cl.map CrdD.v, tl.map TreD.v, need⟩ x = 0 from if_neg hxx]
          omega
      · intro W2 hb2
        have hok := parts_ok (traits := traits) (need := need) hls hco
        have := cuts_any sp.length (by omega) need C T S cl.length c tl.length t s sh W2 (hat.later hb2) (by omega) (fun y hy => (hok y hy).1) (fun y hy => (hok y hy).2) (fun k => by rw [allCuts_eq (traits := traits) (need := need) hco k]; exact cutsT_len hls k) (fun A c zs hz w h => ascending_any A c zs hz w h)
        rw [hl] at this
        exact this
      · intro W2 X xc x hb2 hxx hxl2
        have hxt : (x.length : Int) = traits := by rw [hxl2]; exact hl
        rw [show scT ⟨traits, cl.map CrdD.v, tl.map TreD.v, need⟩ x = scoreM ⟨traits, cl.map CrdD.v, tl.map TreD.v, need⟩ x from if_pos hxt, ← sh_score hco traits need x]
        exact scoreP_inv traits need C T S cl.length c tl.length t s sh.length sh x X xc W2 rfl (hat.later hb2) hxx (sh_ok q1 hxt hco) (by omega) (by omega)
    · have q2' : spnsB traits sp = false := by simpa using q2
      have hE : betE ⟨traits, cl.map CrdD.v, tl.map TreD.v, need⟩ sp = 61 := by unfold betE; rw [if_pos q1]; exact if_neg q2
      have hV : betV ⟨traits, cl.map CrdD.v, tl.map TreD.v, need⟩ sp = ⟨0, 0⟩ := by unfold betV; exact if_neg (by rw [hE]; decide)
      rw [hE, hV]
      exact betweenP_spans traits need cl tl C T c t sp SA sc w h hls hx hxl q1 q2'
  · have q1' : mdlB ⟨traits, cl.map CrdD.v, tl.map TreD.v, need⟩ = false := by simpa using q1
    have hE : betE ⟨traits, cl.map CrdD.v, tl.map TreD.v, need⟩ sp = 60 := by unfold betE; exact if_neg q1
    have hV : betV ⟨traits, cl.map CrdD.v, tl.map TreD.v, need⟩ sp = ⟨0, 0⟩ := by unfold betV; exact if_neg (by rw [hE]; decide)
    rw [hE, hV]
    exact betweenP_bad traits need cl tl C T c t sp SA sc w h hls q1'
end Go.Proofs.Ytijhbcmmoagdmaa

namespace Go.Proofs.Ytijhbcmmoagdmaa
open Go.RowKit Go.Maps

set_option maxRecDepth 100000 in
set_option maxHeartbeats 4000000 in
theorem sameInts_any (l : List Int) (A B : Option Addr) (a b : Nat) (w : World) (h1 : IntsAt w w.heap.size A l) (h2 : IntsAt w w.heap.size B l) (hl : l.length ≤ 1000) :
    Calls Try.prog 13 #[.slice A l.length a, .slice B l.length b] w fun e w' => e = .returned (.bool true) ∧ Below w.heap.size w w' := by
  have hne : ((l.length : Int) != (l.length : Int)) = false := by simp
  go_enter Try.func13, Try.ntmps13
  go_wp2_with fail
  go_loopw [5] (fun ii wr => ∃ i : Nat, i ≤ l.length ∧ ii = .int .i64 i ∧ Hid (Below w.heap.size w wr)) (fun ii _ => l.length - (vInt ii).toNat)
  case atStart => exact ⟨0, Nat.zero_le _, rfl, Lib.hid (Below.refl _ _)⟩
  case round =>
    obtain ⟨i, hi, rfl, hR⟩ := hrel
    have hB := hR.out
    by_cases hlt : i < l.length
    · have hil : (i : Int) < (l.length : Int) := by omega
      obtain ⟨b1, off, rfl, hb, c0⟩ := ints_at (h1.later hB) hlt
      obtain ⟨b', off', rfl, hb', c0'⟩ := ints_at (h2.later hB) hlt
      have hq : (l[i] != l[i]) = false := by simp
      have d0 := After.cell (B := wr.heap.size) c0 hb
      have d1 := After.cell (B := wr.heap.size) c0' hb'
      clear hR
      generalize l[i] = y at *
      go_upto_region 6 with fail
      refine wp_region_class_lit (C := fun w' => ∃ z : After wr.heap.size wr, w' = z.val) (by kernel_rfl) (by kernel_rfl) ⟨⟨_, (Below.refl _ _).drew⟩, rfl⟩ ?_
      repeat (go_big_quiet_step (fail))
      refine wpQuiet_nil ?_
      intro wq hw'
      obtain ⟨⟨wz, hz⟩, hw''⟩ := hw'
      dsimp only at hw''
      subst hw''
      go_wp2_with fail
      go_roundw
      case rel => exact ⟨i + 1, by omega, by go_num, Lib.hid (hB.trans (hz.mono hB.size))⟩
      case measure => simp [vInt]; omega
    · have hil : ¬ (i : Int) < (l.length : Int) := by omega
      go_wp2_with fail
      go_ret
      exact ⟨rfl, hB⟩

set_option maxRecDepth 100000 in
set_option maxHeartbeats 4000000 in
theorem ints6_any (l : List Int) (A B : Option Addr) (a b : Nat) (w : World) (h1 : IntsAt w w.heap.size A l) (h2 : IntsAt w w.heap.size B l) (hl : l.length ≤ 1000) :
    Calls Try.prog 29 #[.slice A l.length a, .slice B l.length b] w fun e w' => e = .returned (.bool true) ∧ Below w.heap.size w w' := by
  have hne : ((l.length : Int) != (l.length : Int)) = false := by simp
  go_enter Try.func29, Try.ntmps29
  go_wp2_with fail
  go_loopw [5] (fun ii wr => ∃ i : Nat, i ≤ l.length ∧ ii = .int .i64 i ∧ Hid (Below w.heap.size w wr)) (fun ii _ => l.length - (vInt ii).toNat)
  case atStart => exact ⟨0, Nat.zero_le _, rfl, Lib.hid (Below.refl _ _)⟩
  case round =>
    obtain ⟨i, hi, rfl, hR⟩ := hrel
    have hB := hR.out
    by_cases hlt : i < l.length
    · have hil : (i : Int) < (l.length : Int) := by omega
      obtain ⟨b1, off, rfl, hb, c0⟩ := ints_at (h1.later hB) hlt
      obtain ⟨b', off', rfl, hb', c0'⟩ := ints_at (h2.later hB) hlt
      have hq : (l[i] != l[i]) = false := by simp
      have d0 := After.cell (B := wr.heap.size) c0 hb
      have d1 := After.cell (B := wr.heap.size) c0' hb'
      clear hR
      generalize l[i] = y at *
      go_upto_region 6 with fail
      refine wp_region_class_lit (C := fun w' => ∃ z : After wr.heap.size wr, w' = z.val) (by kernel_rfl) (by kernel_rfl) ⟨⟨_, (Below.refl _ _).drew⟩, rfl⟩ ?_
      repeat (go_big_quiet_step (fail))
      refine wpQuiet_nil ?_
      intro wq hw'
      obtain ⟨⟨wz, hz⟩, hw''⟩ := hw'
      dsimp only at hw''
      subst hw''
      go_wp2_with fail
      go_roundw
      case rel => exact ⟨i + 1, by omega, by go_num, Lib.hid (hB.trans (hz.mono hB.size))⟩
      case measure => simp [vInt]; omega
    · have hil : ¬ (i : Int) < (l.length : Int) := by omega
      go_wp2_with fail
      go_ret
      exact ⟨rfl, hB⟩
end Go.Proofs.Ytijhbcmmoagdmaa

namespace Go.Proofs.Ytijhbcmmoagdmaa
open Go.RowKit Go.Maps

set_option maxRecDepth 100000 in
set_option maxHeartbeats 8000000 in
theorem same6_all (traits need : Int) (cl1 cl2 : List CrdD) (tl1 tl2 : List TreD) (C1 T1 C2 T2 : Option Addr) (c1 t1 c2 t2 : Nat) (w : World) (h1 : MdlAt w w.heap.size ⟨traits, cl1, C1, c1, tl1, T1, t1, need⟩) (h2 : MdlAt w w.heap.size ⟨traits, cl2, C2, c2, tl2, T2, t2, need⟩) (hls : MdlLe ⟨traits, cl2, C2, c2, tl2, T2, t2, need⟩) (hc : cl1.map CrdD.v = cl2.map CrdD.v) (ht : tl1.map TreD.v = tl2.map TreD.v) :
    Calls Try.prog 14 #[.agg #[.int .i64 traits, .slice C1 cl1.length c1, .slice T1 tl1.length t1, .int .i64 need], .agg #[.int .i64 traits, .slice C2 cl2.length c2, .slice T2 tl2.length t2, .int .i64 need]] w fun e w' => e = .returned (.bool true) ∧ Below w.heap.size w w' := by
  have hcl : cl1.length = cl2.length := by simpa using congrArg List.length hc
  have htl : tl1.length = tl2.length := by simpa using congrArg List.length ht
  have l61 : cl1.length ≤ 6 := by have := hls.cards; simp only at this; omega
  have l62 : tl1.length ≤ 6 := by have := hls.trees; simp only at this; omega
  have e1 : (traits != traits) = false := by simp
  have e2 : (need != need) = false := by simp
  have e3 : ((cl1.length : Int) != (cl2.length : Int)) = false := by rw [hcl]; simp
  have e4 : ((tl1.length : Int) != (tl2.length : Int)) = false := by rw [htl]; simp
  have b1 := (Below.refl w.heap.size w).alloc (Nat.le_refl _) (.cells #[.int .i64 traits, .slice C1 cl1.length c1, .slice T1 tl1.length t1, .int .i64 need] 25)
  have b2 := b1.alloc b1.size (.cells #[.int .i64 traits, .slice C2 cl2.length c2, .slice T2 tl2.length t2, .int .i64 need] 25)
  have k1 := (Blk.new w #[.int .i64 traits, .slice C1 cl1.length c1, .slice T1 tl1.length t1, .int .i64 need] 25).alloc (.cells #[.int .i64 traits, .slice C2 cl2.length c2, .slice T2 tl2.length t2, .int .i64 need] 25)
  have k2 := newAt' (w.alloc (.cells #[.int .i64 traits, .slice C1 cl1.length c1, .slice T1 tl1.length t1, .int .i64 need] 25)) #[.int .i64 traits, .slice C2 cl2.length c2, .slice T2 tl2.length t2, .int .i64 need] 25 (g := w.heap.size + 1) (by simp)
  have k1c := k1.cell
  have k2c := k2.cell
  have Hcl := Lib.hid hcl
  have Htl := Lib.hid htl
  clear hcl htl
  go_enter Try.func14, Try.ntmps14
  go_wp2_with fail
  generalize hW2 : (w.alloc (.cells #[.int .i64 traits, .slice C1 cl1.length c1, .slice T1 tl1.length t1, .int .i64 need] 25)).alloc (.cells #[.int .i64 traits, .slice C2 cl2.length c2, .slice T2 tl2.length t2, .int .i64 need] 25) = W2 at *
  have H1 := Lib.hid (h1.later b2)
  have H2 := Lib.hid (h2.later b2)
  have b2W := b2
  have g1 := k1.lt
  have g2 := k2.lt
  clear hW2 k1c k2c b1 b2 h1 h2
  have b2s := b2W.size
  go_loopw [5] (fun ii wr => ∃ i : Nat, i ≤ cl1.length ∧ ii = .int .i64 i ∧ Hid (Below W2.heap.size W2 wr)) (fun ii _ => cl1.length - (vInt ii).toNat)
  case atStart => exact ⟨0, Nat.zero_le _, rfl, Lib.hid (Below.refl _ _)⟩
  case round =>
    obtain ⟨i, hi, rfl, hR⟩ := hrel
    have hB := hR.out
    have k1w := k1.below hB g1
    have k2w := k2.below hB g2
    have k1c := k1w.cell
    have k2c := k2w.cell
    by_cases hlt : i < cl1.length
    · have hil : (i : Int) < (cl1.length : Int) := by omega
      have hlt2 : i < cl2.length := by rw [← Hcl.out]; exact hlt
      have hil2 : (i : Int) < (cl2.length : Int) := by omega
      have hi1 := Lib.hid (show i + 1 ≤ cl1.length by omega)
      have q1 := (H1.out.later hB).cards
      have q2 := (H2.out.later hB).cards
      obtain ⟨bA, oA, rfl, hbA, a0, a1, a2⟩ := crds_at q1.row hlt
      obtain ⟨bB, oB, rfl, hbB, d0, d1, d2⟩ := crds_at q2.row hlt2
      have m1 := q1.each _ (List.getElem_mem hlt)
      have m2 := q2.each _ (List.getElem_mem hlt2)
      have hle := hls.scales _ (List.getElem_mem hlt2)
      have hsc := hls.scl _ (List.getElem_mem hlt2)
      have hv : cl1[i].v = cl2[i].v := by
        have := List.getElem_of_eq hc (i := i) (by simpa using hlt)
        rwa [List.getElem_map, List.getElem_map] at this
      clear q1 q2 hR
      generalize cl1[i] = x1 at *
      generalize cl2[i] = x2 at *
      obtain ⟨wt, base, sl1, S1, s1⟩ := x1
      obtain ⟨wt2, base2, sl2, S2, s2⟩ := x2
      dsimp only at *
      obtain ⟨rfl, rfl, hsl⟩ : wt = wt2 ∧ base = base2 ∧ sl1.map SclD.v = sl2.map SclD.v := by simpa [CrdD.v] using hv
      clear hv
      go_upto_region 6 with fail
      go_cut [6, 7] (fun s6 s7 wx => ∃ p q : Nat, s6 = .pointer (some ⟨p, 0, none⟩) ∧ s7 = .pointer (some ⟨q, 0, none⟩) ∧ Hid (Blk wx p #[.int .i64 wt, .int .i64 base, .slice S1 sl1.length s1] 53 ∧ Blk wx q #[.int .i64 wt, .int .i64 base, .slice S2 sl2.length s2] 53 ∧ Below wr.heap.size wr wx))
      case first =>
        have SK : ∀ W, Below wr.heap.size wr W → Below wr.heap.size wr W ∧ (∀ i, W.cell? ⟨w.heap.size, i, none⟩ = (#[.int .i64 traits, .slice (some ⟨bA, oA, none⟩) cl1.length c1, .slice T1 tl1.length t1, .int .i64 need] : Array Value)[i]?) ∧ (∀ i, W.cell? ⟨w.heap.size + 1, i, none⟩ = (#[.int .i64 traits, .slice (some ⟨bB, oB, none⟩) cl2.length c2, .slice T2 tl2.length t2, .int .i64 need] : Array Value)[i]?) ∧ W.cell? ⟨bA, oA + i * 3, none⟩ = some (.int .i64 wt) ∧ W.cell? ⟨bA, oA + i * 3 + 1, none⟩ = some (.int .i64 base) ∧ W.cell? ⟨bA, oA + i * 3 + 2, none⟩ = some (.slice S1 sl1.length s1) ∧ W.cell? ⟨bB, oB + i * 3, none⟩ = some (.int .i64 wt) ∧ W.cell? ⟨bB, oB + i * 3 + 1, none⟩ = some (.int .i64 base) ∧ W.cell? ⟨bB, oB + i * 3 + 2, none⟩ = some (.slice S2 sl2.length s2) := fun W hW => ⟨hW, (k1w.below hW k1w.lt).cell, (k2w.below hW k2w.lt).cell, (hW.cell (p := ⟨bA, oA + i * 3, none⟩) hbA).trans a0, (hW.cell (p := ⟨bA, oA + i * 3 + 1, none⟩) hbA).trans a1, (hW.cell (p := ⟨bA, oA + i * 3 + 2, none⟩) hbA).trans a2, (hW.cell (p := ⟨bB, oB + i * 3, none⟩) hbB).trans d0, (hW.cell (p := ⟨bB, oB + i * 3 + 1, none⟩) hbB).trans d1, (hW.cell (p := ⟨bB, oB + i * 3 + 2, none⟩) hbB).trans d2⟩
        have dd0 : Below wr.heap.size wr wr.drew := (Below.refl _ _).drew
        go_region_held3 (fun W => Below wr.heap.size wr W ∧ (∀ i, W.cell? ⟨w.heap.size, i, none⟩ = (#[.int .i64 traits, .slice (some ⟨bA, oA, none⟩) cl1.length c1, .slice T1 tl1.length t1, .int .i64 need] : Array Value)[i]?) ∧ (∀ i, W.cell? ⟨w.heap.size + 1, i, none⟩ = (#[.int .i64 traits, .slice (some ⟨bB, oB, none⟩) cl2.length c2, .slice T2 tl2.length t2, .int .i64 need] : Array Value)[i]?) ∧ W.cell? ⟨bA, oA + i * 3, none⟩ = some (.int .i64 wt) ∧ W.cell? ⟨bA, oA + i * 3 + 1, none⟩ = some (.int .i64 base) ∧ W.cell? ⟨bA, oA + i * 3 + 2, none⟩ = some (.slice S1 sl1.length s1) ∧ W.cell? ⟨bB, oB + i * 3, none⟩ = some (.int .i64 wt) ∧ W.cell? ⟨bB, oB + i * 3 + 1, none⟩ = some (.int .i64 base) ∧ W.cell? ⟨bB, oB + i * 3 + 2, none⟩ = some (.slice S2 sl2.length s2)) ((refine SK _ ?_; repeat (first | with_reducible assumption | with_reducible exact Below.refl _ _ | with_reducible refine Below.drew ?_ | with_reducible refine Below.alloc ?_ (by first | omega | (simp; done) | (simp; omega)) _ | with_reducible refine Below.setCell ?_ (by first | omega | (simp; done) | (simp; omega)) _)))
          (first
            | (fail "no call"))
        all_goals first | (go_step; go_step; go_meet) | (go_step; go_meet) | go_meet
        all_goals first
          | exact ⟨_, _, rfl, rfl, Lib.hid ⟨((Blk.new wr _ _).alloc _).drew, (newAt' (wr.alloc _) _ _ (by simp)).drew, (((Below.refl _ _).alloc (Nat.le_refl _) _).alloc (by simp) _).drew⟩⟩
          | exact ⟨_, _, rfl, rfl, Lib.hid ⟨(newAt' (wr.alloc _) _ _ (by simp)).drew, ((Blk.new wr _ _).alloc _).drew, (((Below.refl _ _).alloc (Nat.le_refl _) _).alloc (by simp) _).drew⟩⟩
      case rest =>
        obtain ⟨p, q, rfl, rfl, HC⟩ := hcut
        obtain ⟨kp, kq, hBc⟩ := HC.out
        have hB2 := hB.trans (hBc.mono hB.size)
        have hls : sl1.length = sl2.length := by simpa using congrArg List.length hsl
        have l63 : sl1.length ≤ 10 := by omega
        have e5 : (wt != wt) = false := by simp
        have e6 : (base != base) = false := by simp
        have e7 : ((sl1.length : Int) != (sl2.length : Int)) = false := by rw [hls]; simp
        have Hls := Lib.hid hls
        have M1 := Lib.hid (m1.later hBc)
        have M2 := Lib.hid (m2.later hBc)
        have kpc := kp.cell
        have kqc := kq.cell
        have gp := kp.lt
        have gq := kq.lt
        have HB2 := Lib.hid hB2
        clear HC hls k1c k2c k1w k2w m1 m2 a0 a1 a2 d0 d1 d2 hB hBc hB2
        go_wp2_with fail
        clear kpc kqc
        go_loopw [8] (fun ii wr => ∃ k : Nat, k ≤ sl1.length ∧ ii = .int .i64 k ∧ Hid (Below wc.heap.size wc wr)) (fun ii _ => sl1.length - (vInt ii).toNat)
        case atStart => exact ⟨0, Nat.zero_le _, rfl, Lib.hid (Below.refl _ _)⟩
        case round =>
          obtain ⟨k, hk, rfl, hR⟩ := hrel
          have hB := hR.out
          have kp2 := kp.below hB gp
          have kq2 := kq.below hB gq
          have kpc := kp2.cell
          have kqc := kq2.cell
          by_cases hkl : k < sl1.length
          · have hkl2 : k < sl2.length := by rw [← Hls.out]; exact hkl
            have hki : (k : Int) < (sl1.length : Int) := by omega
            have hki2 : (k : Int) < (sl2.length : Int) := by omega
            have q1 := M1.out.later hB
            have q2 := M2.out.later hB
            obtain ⟨bS, oS, rfl, hbS, a0, a1, a2⟩ := scls_at q1.row hkl
            obtain ⟨bU, oU, rfl, hbU, d0, d1, d2⟩ := scls_at q2.row hkl2
            have m1 := q1.each _ (List.getElem_mem hkl)
            have m2 := q2.each _ (List.getElem_mem hkl2)
            have hle2 := hsc _ (List.getElem_mem hkl2)
            have hv : sl1[k].v = sl2[k].v := by
              have := List.getElem_of_eq hsl (i := k) (by simpa using hkl)
              rwa [List.getElem_map, List.getElem_map] at this
            clear q1 q2 hR
            generalize sl1[k] = y1 at *
            generalize sl2[k] = y2 at *
            obtain ⟨v, A1, u1, B1, z1⟩ := y1
            obtain ⟨v2, A2, u2, B2, z2⟩ := y2
            dsimp only at *
            subst hv
            have e8 : (v.non != v.non) = false := by simp
            have G1 := Lib.hid (fun q : After wr.heap.size wr => ints6_any v.cuts A1 A2 u1 u2 q.val (m1.cuts.later q.property) (m2.cuts.later q.property) (by have := hle2.cuts; omega))
            have G2 := Lib.hid (fun q : After wr.heap.size wr => ints6_any v.pts B1 B2 z1 z2 q.val (m1.pts.later q.property) (m2.pts.later q.property) (by have := hle2.pts; omega))
            have kpa := After.cells (B := wr.heap.size) kp2.cell kp2.lt
            have kqa := After.cells (B := wr.heap.size) kq2.cell kq2.lt
            have f0 := After.cell (B := wr.heap.size) a0 hbS
            have f1 := After.cell (B := wr.heap.size) a1 hbS
            have f2 := After.cell (B := wr.heap.size) a2 hbS
            have g0 := After.cell (B := wr.heap.size) d0 hbU
            have g1' := After.cell (B := wr.heap.size) d1 hbU
            have g2' := After.cell (B := wr.heap.size) d2 hbU
            clear a0 a1 a2 d0 d1 d2 m1 m2 hle2
            go_upto_region 12 with fail
            refine wp_region_class_lit (C := fun w' => ∃ z : After wr.heap.size wr, w' = z.val) (by kernel_rfl) (by kernel_rfl) ⟨⟨_, (Below.refl _ _).drew⟩, rfl⟩ ?_
            repeat (go_big_quiet_step ((first
              | (go_at_call 29; with_reducible exact after_of (Nat.le_refl _) _ (G1.out _))
              | (go_at_call 29; with_reducible exact after_of (Nat.le_refl _) _ (G2.out _)))))
            refine wpQuiet_nil ?_
            intro wq hw'
            obtain ⟨⟨wz, hz⟩, hw''⟩ := hw'
            dsimp only at hw''
            subst hw''
            go_wp2_with fail
            go_roundw
            case rel => exact ⟨k + 1, by omega, by go_num, Lib.hid (hB.trans (hz.mono hB.size))⟩
            case measure => simp [vInt]; omega
          · have hki : ¬ (k : Int) < (sl1.length : Int) := by omega
            obtain rfl : k = sl1.length := by omega
            go_wp2_with fail
            go_roundw
            case rel => exact ⟨i + 1, hi1.out, by go_num, Lib.hid (HB2.out.trans (hB.mono HB2.out.size))⟩
            case measure => have h9 := hi1.out; simp [vInt]; omega
    · have hil : ¬ (i : Int) < (cl1.length : Int) := by omega
      obtain rfl : i = cl1.length := by omega
      have HB1 := Lib.hid hB
      clear hR
      go_wp2_with fail
      clear k1c k2c
      generalize wr = W7 at *
      go_loopw [9] (fun ii wr => ∃ i : Nat, i ≤ tl1.length ∧ ii = .int .i64 i ∧ Hid (Below W2.heap.size W2 wr)) (fun ii _ => tl1.length - (vInt ii).toNat)
      case atStart => exact ⟨0, Nat.zero_le _, rfl, HB1⟩
      clear HB1
      case round =>
        obtain ⟨i, hi, rfl, hR⟩ := hrel
        have hB := hR.out
        have k1w := k1.below hB g1
        have k2w := k2.below hB g2
        have k1c := k1w.cell
        have k2c := k2w.cell
        by_cases hlt : i < tl1.length
        · have hil : (i : Int) < (tl1.length : Int) := by omega
          have hlt2 : i < tl2.length := by rw [← Htl.out]; exact hlt
          have hil2 : (i : Int) < (tl2.length : Int) := by omega
          have hi1 := Lib.hid (show i + 1 ≤ tl1.length by omega)
          have q1 := (H1.out.later hB).trees
          have q2 := (H2.out.later hB).trees
          obtain ⟨bA, oA, rfl, hbA, a0, a1⟩ := tres_at q1.row hlt
          obtain ⟨bB, oB, rfl, hbB, d0, d1⟩ := tres_at q2.row hlt2
          have m1 := q1.each _ (List.getElem_mem hlt)
          have m2 := q2.each _ (List.getElem_mem hlt2)
          have hle := hls.nodes _ (List.getElem_mem hlt2)
          have hv : tl1[i].v = tl2[i].v := by
            have := List.getElem_of_eq ht (i := i) (by simpa using hlt)
            rwa [List.getElem_map, List.getElem_map] at this
          clear q1 q2 hR
          generalize tl1[i] = x1 at *
          generalize tl2[i] = x2 at *
          obtain ⟨v, A1, u1⟩ := x1
          obtain ⟨v2, A2, u2⟩ := x2
          dsimp only at *
          subst hv
          have l63 : v.nodes.length ≤ 20 := hle
          have e5 : (v.weight != v.weight) = false := by simp
          have e6 : ((v.nodes.length : Int) != (v.nodes.length : Int)) = false := by simp
          have k1a := After.cells (B := wr.heap.size) k1w.cell k1w.lt
          have k2a := After.cells (B := wr.heap.size) k2w.cell k2w.lt
          have f0 := After.cell (B := wr.heap.size) a0 hbA
          have f1 := After.cell (B := wr.heap.size) a1 hbA
          have g0 := After.cell (B := wr.heap.size) d0 hbB
          have g1' := After.cell (B := wr.heap.size) d1 hbB
          go_upto_region 17 with fail
          refine wp_region_class_lit (C := fun w' => ∃ z : After wr.heap.size wr, w' = z.val) (by kernel_rfl) (by kernel_rfl) ⟨⟨_, (Below.refl _ _).drew⟩, rfl⟩ ?_
          repeat (go_big_quiet_step (fail))
          refine wpQuiet_nil ?_
          intro wq hw'
          obtain ⟨⟨wz, hz⟩, hw''⟩ := hw'
          dsimp only at hw''
          subst hw''
          have M1 := Lib.hid (m1.later hz)
          have M2 := Lib.hid (m2.later hz)
          have kp := k1w.below hz k1w.lt
          have kq := k2w.below hz k2w.lt
          have kpc := kp.cell
          have kqc := kq.cell
          have c0 := (hz.cell (p := ⟨bA, oA + i * 2 + 1, none⟩) hbA).trans a1
          have c1 := (hz.cell (p := ⟨bB, oB + i * 2 + 1, none⟩) hbB).trans d1
          have gp := kp.lt
          have gq := kq.lt
          have hbA2 := Nat.lt_of_lt_of_le hbA hz.size
          have hbB2 := Nat.lt_of_lt_of_le hbB hz.size
          have HB2 := Lib.hid (hB.trans (hz.mono hB.size))
          clear k1c k2c k1w k2w m1 m2 a0 a1 d0 d1 hB f0 f1 g0 g1' k1a k2a hbA hbB
          go_wp2_with fail
          clear kpc kqc
          generalize wq = wc at *
          go_loopw [10] (fun ii wr => ∃ k : Nat, k ≤ v.nodes.length ∧ ii = .int .i64 k ∧ Hid (Below wc.heap.size wc wr)) (fun ii _ => v.nodes.length - (vInt ii).toNat)
          case atStart => exact ⟨0, Nat.zero_le _, rfl, Lib.hid (Below.refl _ _)⟩
          case round =>
            obtain ⟨k, hk, rfl, hR⟩ := hrel
            have hB := hR.out
            have kp2 := kp.below hB gp
            have kq2 := kq.below hB gq
            have kpc := kp2.cell
            have kqc := kq2.cell
            have y0 := (hB.cell (p := ⟨bA, oA + i * 2 + 1, none⟩) hbA2).trans c0
            have y1 := (hB.cell (p := ⟨bB, oB + i * 2 + 1, none⟩) hbB2).trans c1
            have hbA3 := Nat.lt_of_lt_of_le hbA2 hB.size
            have hbB3 := Nat.lt_of_lt_of_le hbB2 hB.size
            by_cases hkl : k < v.nodes.length
            · have hki : (k : Int) < (v.nodes.length : Int) := by omega
              obtain ⟨bS, oS, rfl, hbS, a0, a1, a2, a3, a4⟩ := nods_at (M1.out.later hB) hkl
              obtain ⟨bU, oU, rfl, hbU, d0, d1, d2, d3, d4⟩ := nods_at (M2.out.later hB) hkl
              have kpa := After.cells (B := wr.heap.size) kp2.cell kp2.lt
              have kqa := After.cells (B := wr.heap.size) kq2.cell kq2.lt
              have ya0 := After.cell (B := wr.heap.size) y0 hbA3
              have ya1 := After.cell (B := wr.heap.size) y1 hbB3
              have f0 := After.cell (B := wr.heap.size) a0 hbS
              have f1 := After.cell (B := wr.heap.size) a1 hbS
              have f2 := After.cell (B := wr.heap.size) a2 hbS
              have f3 := After.cell (B := wr.heap.size) a3 hbS
              have f4 := After.cell (B := wr.heap.size) a4 hbS
              have g0 := After.cell (B := wr.heap.size) d0 hbU
              have g1' := After.cell (B := wr.heap.size) d1 hbU
              have g2' := After.cell (B := wr.heap.size) d2 hbU
              have g3 := After.cell (B := wr.heap.size) d3 hbU
              have g4 := After.cell (B := wr.heap.size) d4 hbU
              clear a0 a1 a2 a3 a4 d0 d1 d2 d3 d4 hR
              generalize v.nodes[k] = nd at *
              go_upto_region 22 with fail
              refine wp_region_class_lit (C := fun w' => ∃ z : After wr.heap.size wr, w' = z.val) (by kernel_rfl) (by kernel_rfl) ⟨⟨_, (Below.refl _ _).drew⟩, rfl⟩ ?_
              repeat (go_big_quiet_step (fail))
              refine wpQuiet_nil ?_
              intro wq hw'
              obtain ⟨⟨wz, hz⟩, hw''⟩ := hw'
              dsimp only at hw''
              subst hw''
              go_wp2_with fail
              go_roundw
              case rel => exact ⟨k + 1, by omega, by go_num, Lib.hid (hB.trans (hz.mono hB.size))⟩
              case measure => simp [vInt]; omega
            · have hki : ¬ (k : Int) < (v.nodes.length : Int) := by omega
              obtain rfl : k = v.nodes.length := by omega
              go_wp2_with fail
              go_roundw
              case rel => exact ⟨i + 1, hi1.out, by go_num, Lib.hid (HB2.out.trans (hB.mono HB2.out.size))⟩
              case measure => have h9 := hi1.out; simp [vInt]; omega
        · have hil : ¬ (i : Int) < (tl1.length : Int) := by omega
          obtain rfl : i = tl1.length := by omega
          go_wp2_with fail
          go_ret
          exact ⟨rfl, b2W.trans (hB.mono b2s)⟩
end Go.Proofs.Ytijhbcmmoagdmaa

namespace Go.Proofs.Ytijhbcmmoagdmaa
open Go.RowKit Go.Maps

def sclLeB (s : SclD) : Bool := decide (s.v.cuts.length ≤ 10) && decide (s.v.pts.length ≤ 12)
def crdLeB (c : CrdD) : Bool := decide (c.scales.length ≤ 10) && c.scales.all sclLeB
def treLeB (t : TreD) : Bool := decide (t.v.nodes.length ≤ 20)
def mdlLeB (m : MdlD) : Bool := decide (m.cards.length ≤ 6) && decide (m.trees.length ≤ 6) && m.cards.all crdLeB && m.trees.all treLeB
theorem mdlLe_of {m : MdlD} (h : mdlLeB m = true) : MdlLe m := by
  unfold mdlLeB at h
  simp only [Bool.and_eq_true, decide_eq_true_eq, List.all_eq_true] at h
  obtain ⟨⟨⟨h1, h2⟩, h3⟩, h4⟩ := h
  refine ⟨h1, h2, fun c hc => ?_, fun c hc s hs => ?_, fun t ht => ?_⟩
  · have := h3 c hc
    unfold crdLeB at this
    simp only [Bool.and_eq_true, decide_eq_true_eq] at this
    exact this.1
  · have := h3 c hc
    unfold crdLeB at this
    simp only [Bool.and_eq_true, decide_eq_true_eq, List.all_eq_true] at this
    have := this.2 s hs
    unfold sclLeB at this
    simp only [Bool.and_eq_true, decide_eq_true_eq] at this
    exact ⟨this.1, this.2⟩
  · have := h4 t ht
    unfold treLeB at this
    simpa using this
theorem allG_stop {α : Type} {p : α → Bool} {l : List α} {i : Nat} (hi : i < l.length) (h : p l[i] = false) : l.all p = false := by
  cases hb : l.all p with
  | false => rfl
  | true => rw [List.all_eq_true.1 hb _ (List.getElem_mem hi)] at h; cases h
theorem allG_next {α : Type} {p : α → Bool} {l : List α} {i : Nat} (hi : i < l.length) (h : (l.take i).all p = true) (hv : p l[i] = true) : (l.take (i + 1)).all p = true := by
  rw [List.take_succ_eq_append_getElem hi, List.all_append, h]; simp [hv]

set_option maxRecDepth 100000 in
set_option maxHeartbeats 8000000 in
theorem great6_all (traits need : Int) (cl : List CrdD) (tl : List TreD) (C T : Option Addr) (c t : Nat) (w : World) (h : MdlAt w w.heap.size ⟨traits, cl, C, c, tl, T, t, need⟩) :
    Calls Try.prog 5 #[.agg #[.int .i64 traits, .slice C cl.length c, .slice T tl.length t, .int .i64 need]] w fun e w' => e = .returned (.bool (!mdlLeB ⟨traits, cl, C, c, tl, T, t, need⟩)) ∧ Below w.heap.size w w' := by
  have b1 := (Below.refl w.heap.size w).alloc (Nat.le_refl _) (.cells #[.int .i64 traits, .slice C cl.length c, .slice T tl.length t, .int .i64 need] 25)
  have k1 := Blk.new w #[.int .i64 traits, .slice C cl.length c, .slice T tl.length t, .int .i64 need] 25
  have k1c := k1.cell
  have h1 := h.later b1
  have HD : Hid ((!mdlLeB ⟨traits, cl, C, c, tl, T, t, need⟩) = !(decide (cl.length ≤ 6) && decide (tl.length ≤ 6) && cl.all crdLeB && tl.all treLeB)) := Lib.hid rfl
  clear h
  generalize (!mdlLeB ⟨traits, cl, C, c, tl, T, t, need⟩) = V at *
  by_cases q1 : cl.length ≤ 6
  · have n1 : ¬ (6 : Int) < (cl.length : Int) := by omega
    by_cases q2 : tl.length ≤ 6
    · have n2 : ¬ (6 : Int) < (tl.length : Int) := by omega
      have HE : Hid (V = !(cl.all crdLeB && tl.all treLeB)) := Lib.hid (by rw [HD.out, decide_eq_true q1, decide_eq_true q2]; rfl)
      clear HD
      go_enter Try.func5, Try.ntmps5
      go_wp2_with fail
      generalize hW1 : w.alloc (.cells #[.int .i64 traits, .slice C cl.length c, .slice T tl.length t, .int .i64 need] 25) = W1 at *
      clear hW1
      go_loopw [3] (fun ii wr => ∃ i : Nat, i ≤ cl.length ∧ ii = .int .i64 i ∧ Hid ((cl.take i).all crdLeB = true) ∧ W1 = wr) (fun ii _ => cl.length - (vInt ii).toNat)
      case atStart => exact ⟨0, Nat.zero_le _, rfl, Lib.hid (by simp), by first | rfl | trivial⟩
      case round =>
        obtain ⟨i, hi, rfl, hR, rfl⟩ := hrel
        by_cases hlt : i < cl.length
        · have hil : (i : Int) < (cl.length : Int) := by omega
          obtain ⟨b, off, rfl, hb, c0, c1, c2⟩ := crds_at h1.cards.row hlt
          have hmem := List.getElem_mem hlt
          have hsc := h1.cards.each _ hmem
          have HX : Hid (crdLeB cl[i] = false → V = true) := Lib.hid (fun e => by rw [HE.out, allG_stop hlt e]; rfl)
          have HN : Hid (crdLeB cl[i] = true → (cl.take (i + 1)).all crdLeB = true) := Lib.hid (fun e => allG_next hlt hR.out e)
          have HCr : Hid (crdLeB cl[i] = (decide (cl[i].scales.length ≤ 10) && cl[i].scales.all sclLeB)) := Lib.hid rfl
          clear hR hmem
          generalize cl[i] = y at *
          obtain ⟨wt, base, l, S, s⟩ := y
          dsimp only at *
          by_cases q3 : l.length ≤ 10
          · have n3 : ¬ (10 : Int) < (l.length : Int) := by omega
            go_wp2_with fail
            go_loopw [4] (fun ii wr => ∃ j : Nat, j ≤ l.length ∧ ii = .int .i64 j ∧ Hid ((l.take j).all sclLeB = true) ∧ W1 = wr) (fun ii _ => l.length - (vInt ii).toNat)
            case atStart => exact ⟨0, Nat.zero_le _, rfl, Lib.hid (by simp), by first | rfl | trivial⟩
            case round =>
              obtain ⟨j, hj, rfl, hR2, rfl⟩ := hrel
              by_cases hlt2 : j < l.length
              · have hjl : (j : Int) < (l.length : Int) := by omega
                obtain ⟨b2, off2, rfl, hb2, e0, e1, e2⟩ := scls_at hsc.row hlt2
                have HX2 : Hid (sclLeB l[j] = false → V = true) := Lib.hid (fun e => HX.out (by rw [HCr.out, allG_stop hlt2 e, Bool.and_false]))
                have HN2 : Hid (sclLeB l[j] = true → (l.take (j + 1)).all sclLeB = true) := Lib.hid (fun e => allG_next hlt2 hR2.out e)
                have HSc : Hid (sclLeB l[j] = (decide (l[j].v.cuts.length ≤ 10) && decide (l[j].v.pts.length ≤ 12))) := Lib.hid rfl
                clear hR2
                generalize l[j] = z at *
                by_cases q4 : z.v.cuts.length ≤ 10
                · have n4 : ¬ (10 : Int) < (z.v.cuts.length : Int) := by omega
                  by_cases q5 : z.v.pts.length ≤ 12
                  · have n5 : ¬ (12 : Int) < (z.v.pts.length : Int) := by omega
                    have HJ := Lib.hid (HN2.out (by rw [HSc.out, decide_eq_true q4, decide_eq_true q5]; rfl))
                    clear HX2 HN2 HSc
                    go_wp2_with fail
                    go_roundw
                    case rel => exact ⟨j + 1, by omega, by go_num, HJ, by first | rfl | trivial⟩
                    case measure => simp [vInt]; omega
                  · have n5 : (12 : Int) < (z.v.pts.length : Int) := by omega
                    have Hv : Hid (V = true) := Lib.hid (HX2.out (by rw [HSc.out, decide_eq_false q5, Bool.and_false]))
                    clear HX2 HN2 HSc
                    go_wp2_with fail
                    go_ret
                    exact ⟨by rw [Hv.out]; rfl, b1⟩
                · have n4 : (10 : Int) < (z.v.cuts.length : Int) := by omega
                  have Hv : Hid (V = true) := Lib.hid (HX2.out (by rw [HSc.out, decide_eq_false q4]; rfl))
                  clear HX2 HN2 HSc
                  go_wp2_with fail
                  go_ret
                  exact ⟨by rw [Hv.out]; rfl, b1⟩
              · have hjl : ¬ (j : Int) < (l.length : Int) := by omega
                obtain rfl : j = l.length := by omega
                have hA := hR2.out
                rw [List.take_length] at hA
                have HJ := Lib.hid (HN.out (by rw [HCr.out, decide_eq_true q3, hA]; rfl))
                clear HX HN HCr hR2 hA
                go_wp2_with fail
                go_roundw
                case rel => exact ⟨i + 1, by omega, by go_num, HJ, by first | rfl | trivial⟩
                case measure => simp [vInt]; omega
          · have n3 : (10 : Int) < (l.length : Int) := by omega
            have Hv : Hid (V = true) := Lib.hid (HX.out (by rw [HCr.out, decide_eq_false q3]; rfl))
            clear HX HN HCr
            go_wp2_with fail
            go_ret
            exact ⟨by rw [Hv.out]; rfl, b1⟩
        · have hil : ¬ (i : Int) < (cl.length : Int) := by omega
          obtain rfl : i = cl.length := by omega
          have hA := hR.out
          rw [List.take_length] at hA
          have HE2 : Hid (V = !(tl.all treLeB)) := Lib.hid (by rw [HE.out, hA]; rfl)
          clear hR hA HE
          go_wp2_with fail
          go_loopw [5] (fun ii wr => ∃ i : Nat, i ≤ tl.length ∧ ii = .int .i64 i ∧ Hid ((tl.take i).all treLeB = true) ∧ W1 = wr) (fun ii _ => tl.length - (vInt ii).toNat)
          case atStart => exact ⟨0, Nat.zero_le _, rfl, Lib.hid (by simp), by first | rfl | trivial⟩
          case round =>
            obtain ⟨i, hi, rfl, hR, rfl⟩ := hrel
            by_cases hlt : i < tl.length
            · have hil : (i : Int) < (tl.length : Int) := by omega
              obtain ⟨b, off, rfl, hb, c0, c1⟩ := tres_at h1.trees.row hlt
              have HX : Hid (treLeB tl[i] = false → V = true) := Lib.hid (fun e => by rw [HE2.out, allG_stop hlt e]; rfl)
              have HN : Hid (treLeB tl[i] = true → (tl.take (i + 1)).all treLeB = true) := Lib.hid (fun e => allG_next hlt hR.out e)
              have HCr : Hid (treLeB tl[i] = decide (tl[i].v.nodes.length ≤ 20)) := Lib.hid rfl
              clear hR
              generalize tl[i] = y at *
              by_cases q3 : y.v.nodes.length ≤ 20
              · have n3 : ¬ (20 : Int) < (y.v.nodes.length : Int) := by omega
                have HJ := Lib.hid (HN.out (by rw [HCr.out, decide_eq_true q3]))
                clear HX HN HCr
                go_wp2_with fail
                go_roundw
                case rel => exact ⟨i + 1, by omega, by go_num, HJ, by first | rfl | trivial⟩
                case measure => simp [vInt]; omega
              · have n3 : (20 : Int) < (y.v.nodes.length : Int) := by omega
                have Hv : Hid (V = true) := Lib.hid (HX.out (by rw [HCr.out, decide_eq_false q3]))
                clear HX HN HCr
                go_wp2_with fail
                go_ret
                exact ⟨by rw [Hv.out]; rfl, b1⟩
            · have hil : ¬ (i : Int) < (tl.length : Int) := by omega
              obtain rfl : i = tl.length := by omega
              have hA := hR.out
              rw [List.take_length] at hA
              have Hv : Hid (V = false) := Lib.hid (by rw [HE2.out, hA]; rfl)
              clear hR hA HE2
              go_wp2_with fail
              go_ret
              exact ⟨by rw [Hv.out]; rfl, b1⟩
    · have n2 : (6 : Int) < (tl.length : Int) := by omega
      have Hv : Hid (V = true) := Lib.hid (by rw [HD.out, decide_eq_false q2]; simp)
      clear HD h1
      go_enter Try.func5, Try.ntmps5
      go_wp2_with fail
      go_ret
      exact ⟨by rw [Hv.out]; rfl, b1⟩
  · have n1 : (6 : Int) < (cl.length : Int) := by omega
    have Hv : Hid (V = true) := Lib.hid (by rw [HD.out, decide_eq_false q1]; simp)
    clear HD h1
    go_enter Try.func5, Try.ntmps5
    go_wp2_with fail
    go_ret
    exact ⟨by rw [Hv.out]; rfl, b1⟩
end Go.Proofs.Ytijhbcmmoagdmaa

namespace Go.Proofs.Ytijhbcmmoagdmaa
open Go.RowKit Go.Maps

theorem spanInfo : (Try.prog.info? 45).map (fun i => (i.zero, i.size, i.bytes)) = some (some (.agg #[.int .i64 0, .int .i64 0]), 2, 16) := by kernel_rfl
theorem spnC_one (x : Spn) : ∀ u ∈ spnC x, u.oneCell' = true := fun u hu => by
  simp only [spnC, List.mem_cons, List.not_mem_nil, or_false] at hu
  rcases hu with rfl | rfl <;> rfl

set_option maxRecDepth 100000 in
set_option maxHeartbeats 8000000 in
theorem scoreSpans_any (traits need : Int) (cl : List CrdD) (tl : List TreD) (C T : Option Addr) (c t : Nat) (x : List Spn) (X : Option Addr) (xc : Nat) (w : World) (h : MdlAt w w.heap.size ⟨traits, cl, C, c, tl, T, t, need⟩) (hx : SpnsAt w w.heap.size X x) (hxm : x.length ≤ maxLen)
    (HTW : ∀ (W : World), MdlAt W W.heap.size ⟨traits, cl, C, c, tl, T, t, need⟩ → MdlLe ⟨traits, cl, C, c, tl, T, t, need⟩ → Calls Try.prog 6 #[.agg #[.int .i64 traits, .slice C cl.length c, .slice T tl.length t, .int .i64 need]] W fun e w' => TwinS W traits need cl tl e w')
    (HBR : ∀ (W : World), MdlAt W W.heap.size ⟨traits, cl, C, c, tl, T, t, need⟩ → MdlLe ⟨traits, cl, C, c, tl, T, t, need⟩ → SpnsAt W W.heap.size X x → x.length ≤ 10 → Calls Try.prog 16 #[.agg #[.int .i64 traits, .slice C cl.length c, .slice T tl.length t, .int .i64 need], .slice X x.length xc] W fun e w' => e = .returned (.tuple #[.agg #[.int .i64 (betV ⟨traits, cl.map CrdD.v, tl.map TreD.v, need⟩ x).lo, .int .i64 (betV ⟨traits, cl.map CrdD.v, tl.map TreD.v, need⟩ x).hi], .int .i64 (betE ⟨traits, cl.map CrdD.v, tl.map TreD.v, need⟩ x)]) ∧ Below W.heap.size W w') :
    Calls Try.prog 4 #[.agg #[.int .i64 traits, .slice C cl.length c, .slice T tl.length t, .int .i64 need], .slice X x.length xc] w fun e w' => e = .returned (.bool true) ∧ Below w.heap.size w w' := by
  have b1 := (Below.refl w.heap.size w).alloc (Nat.le_refl _) (.cells #[.int .i64 traits, .slice C cl.length c, .slice T tl.length t, .int .i64 need] 25)
  have k1 := Blk.new w #[.int .i64 traits, .slice C cl.length c, .slice T tl.length t, .int .i64 need] 25
  have HGr := Lib.hid (fun W hb => great6_all traits need cl tl C T c t W (h.later hb))
  have q1 := k1.lt
  have k1c := k1.cell
  have hxm1 : IntKind.i64.wrap (x.length : Int) = (x.length : Int) := by unfold maxLen at hxm; exact IntWalk.i64_in _ (by omega)
  cases hg : mdlLeB ⟨traits, cl, C, c, tl, T, t, need⟩ with
  | false =>
    rw [hg] at HGr
    clear h hx HTW HBR hg
    go_enter Try.func4, Try.ntmps4
    go_wp2_with (go_at_call 5; (with_reducible refine (HGr.out _ b1).mono ?_); rintro e w1 ⟨rfl, h1⟩)
    go_ret
    exact ⟨rfl, b1.trans (h1.mono b1.size)⟩
  | true =>
    rw [hg] at HGr
    have hls := mdlLe_of hg
    clear hg
    by_cases hx10 : x.length ≤ 10
    rotate_left
    · have hi10 : (10 : Int) < (x.length : Int) := by omega
      clear h hx HTW HBR
      go_enter Try.func4, Try.ntmps4
      go_wp2_with (go_at_call 5; (with_reducible refine (HGr.out _ b1).mono ?_); rintro e w1 ⟨rfl, h1⟩)
      go_ret
      exact ⟨rfl, b1.trans (h1.mono b1.size)⟩
    have hi10 : ¬ (10 : Int) < (x.length : Int) := by omega
    have HTw := Lib.hid (fun W hb => HTW W (h.later hb) hls)
    have HbR := Lib.hid (fun W hb => HBR W (h.later hb) hls (hx.later hb) hx10)
    have Hh := Lib.hid h
    have Hx := Lib.hid hx
    have Hls := Lib.hid hls
    have HbP := Lib.hid (fun cl1 tl1 C1 T1 c1 t1 (hc : List.map CrdD.v cl1 = cl.map CrdD.v) (ht : List.map TreD.v tl1 = tl.map TreD.v) X1 x1 W (hm : MdlAt W W.heap.size ⟨traits, cl1, C1, c1, tl1, T1, t1, need⟩) hx1 => by
      have := betweenP_all traits need cl1 tl1 C1 T1 c1 t1 x X1 x1 W hm (hls.twin hc ht) hx1 hx10
      rw [hc, ht] at this
      exact this)
    have HSm := Lib.hid (fun cl1 tl1 C1 T1 c1 t1 (hc : List.map CrdD.v cl1 = cl.map CrdD.v) (ht : List.map TreD.v tl1 = tl.map TreD.v) W (hm : MdlAt W W.heap.size ⟨traits, cl1, C1, c1, tl1, T1, t1, need⟩) hm2 => same6_all traits need cl1 cl tl1 tl C1 T1 C T c1 t1 c t W hm hm2 hls hc ht)
    obtain ⟨i4, hi4, hq0, hq1, hq2⟩ := info_parts spanInfo
    clear h hx HTW HBR hls
    generalize betE ⟨traits, cl.map CrdD.v, tl.map TreD.v, need⟩ x = be at *
    generalize betV ⟨traits, cl.map CrdD.v, tl.map TreD.v, need⟩ x = bv at *
    obtain ⟨lo, hi⟩ := bv
    dsimp only at *
    go_enter Try.func4, Try.ntmps4
    go_upto_region 1 with fail
    generalize hW1 : w.alloc (.cells #[.int .i64 traits, .slice C cl.length c, .slice T tl.length t, .int .i64 need] 25) = W1 at *
    clear hW1
    go_upto_region 3 with (go_at_call 5; (with_reducible refine (HGr.out _ b1).mono ?_); rintro e w1 ⟨rfl, h1⟩; have b2 := b1.trans (h1.mono b1.size); have k2 := k1.below h1 q1; have k2c := k2.cell)
    clear k1c k1
    go_upto_region 4 with (go_at_call 6; (with_reducible refine (HTw.out _ b2).mono ?_); rintro e w2 ⟨cl1, tl1, C1, c1, T1, t1, rfl, hc, ht, hm, h2⟩; have b3 := b2.trans (h2.mono b2.size); have k3 := k2.below h2 k2.lt)
    have bx := b3.alloc b3.size (.cells #[.int .i64 traits, .slice C1 cl1.length c1, .slice T1 tl1.length t1, .int .i64 need] 25)
    have kx := Blk.new w2 #[.int .i64 traits, .slice C1 cl1.length c1, .slice T1 tl1.length t1, .int .i64 need] 25
    have k4 := k3.alloc (.cells #[.int .i64 traits, .slice C1 cl1.length c1, .slice T1 tl1.length t1, .int .i64 need] 25)
    have HM := Lib.hid (hm.later ((Below.refl w2.heap.size w2).alloc (Nat.le_refl _) (.cells #[.int .i64 traits, .slice C1 cl1.length c1, .slice T1 tl1.length t1, .int .i64 need] 25)))
    have Hc := Lib.hid hc
    have Ht := Lib.hid ht
    clear hm h2 b3 k3 k2 k2c h1 b2 hc ht
    have gx := kx.lt
    generalize hW2 : w2.alloc (.cells #[.int .i64 traits, .slice C1 cl1.length c1, .slice T1 tl1.length t1, .int .i64 need] 25) = W2 at *
    clear hW2
    have D1 : Below W2.heap.size W2 ((W2.alloc (.cells #[] 45)).drew) := ((Below.refl _ _).alloc (Nat.le_refl _) _).drew
    have HX1 := Lib.hid (Hx.out.later (bx.trans (D1.mono bx.size)))
    have kD1 := (kx.below D1 gx).cell
    have D2 : Below W2.heap.size W2 (((W2.alloc (.cells #[.int .i64 0, .int .i64 0] 45)).alloc (.cells #[] 45)).drew) := (((Below.refl _ _).alloc (Nat.le_refl _) _).alloc (by simp) _).drew
    have HX2 := Lib.hid (Hx.out.later (bx.trans (D2.mono bx.size)))
    have kD2 := (kx.below D2 gx).cell
    have D3 : Below W2.heap.size W2 (((W2.alloc (.cells #[] 45)).alloc (.cells #[.int .i64 0, .int .i64 0] 45)).drew) := (((Below.refl _ _).alloc (Nat.le_refl _) _).alloc (by simp) _).drew
    have HX3 := Lib.hid (Hx.out.later (bx.trans (D3.mono bx.size)))
    have kD3 := (kx.below D3 gx).cell
    have hE1 := own_drew (own_empty W2 45 2 W2.heap.size (Nat.le_refl _))
    have hE2 := own_drew (own_empty (W2.alloc (.cells #[.int .i64 0, .int .i64 0] 45)) 45 2 W2.heap.size (by simp))
    rw [World.size_alloc] at hE2
    have hE3 := own_drew (own_below (own_empty W2 45 2 W2.heap.size (Nat.le_refl _)) ((Below.refl _ _).alloc (Nat.le_refl _) (.cells #[.int .i64 0, .int .i64 0] 45)))
    have kxs := (kx.alloc (.cells #[.int .i64 0, .int .i64 0] 45)).cell
    have kxc := kx.cell
    go_cut [6, 7] (fun p6 p7 wx => ∃ gs, p6 = .pointer (some ⟨gs, 0, none⟩) ∧ p7 = .int .i64 be ∧ Hid (Blk wx gs #[.int .i64 lo, .int .i64 hi] 45 ∧ Below W2.heap.size W2 wx))
    case first =>
      go_region_law (first
        | (refine step_append_src (by rfl) _ _ _ (by rfl) W2.heap.size 45 i4 _ 2 16 Try.underlying43 hi4 hq0 hq1 hq2 rfl (by decide) _ 0 [] (by rfl) hE1 X x.length xc (x.flatMap spnC) (by rfl) (flat_len spnC_len x) (by rintro rfl; exact HX1.out.none_) (HX1.out.news spnC_len (by decide)) (flat_ones spnC_one x) (by unfold maxLen; omega) (by omega) (by first | (simp; done) | (simp; omega)) ?_; intro v3 w3 hown3 hg3 _; rw [Nat.zero_add, List.nil_append] at hown3; obtain ⟨X1, x1, rfl⟩ := own_slice hown3; have h3 : Below W2.heap.size W2 w3 := D1.grown hg3 D1.size (fun k e => (hE1.lt k e).1); have kx3 := (kx.below h3 gx); have kx3c := kx3.cell; have kx3a := (kx3.alloc (.cells #[.int .i64 0, .int .i64 0] 45)).cell; have hx3 : SpnsAt w3 w3.heap.size X1 x := Flat.of_own spnC_len (by decide) hown3)
        | (refine step_append_src (by rfl) _ _ _ (by rfl) W2.heap.size 45 i4 _ 2 16 Try.underlying43 hi4 hq0 hq1 hq2 rfl (by decide) _ 0 [] (by rfl) hE2 X x.length xc (x.flatMap spnC) (by rfl) (flat_len spnC_len x) (by rintro rfl; exact HX2.out.none_) (HX2.out.news spnC_len (by decide)) (flat_ones spnC_one x) (by unfold maxLen; omega) (by omega) (by first | (simp; done) | (simp; omega)) ?_; intro v3 w3 hown3 hg3 _; rw [Nat.zero_add, List.nil_append] at hown3; obtain ⟨X1, x1, rfl⟩ := own_slice hown3; have h3 : Below W2.heap.size W2 w3 := D2.grown hg3 D2.size (fun k e => (hE2.lt k e).1); have kx3 := (kx.below h3 gx); have kx3c := kx3.cell; have kx3a := (kx3.alloc (.cells #[.int .i64 0, .int .i64 0] 45)).cell; have hx3 : SpnsAt w3 w3.heap.size X1 x := Flat.of_own spnC_len (by decide) hown3; have ks3 := ((Blk.new W2 #[.int .i64 0, .int .i64 0] 45).alloc (.cells #[] 45)).drew.grown hg3 (fun e => by have e2 := Option.some.inj e; first | (simp at e2; done) | (simp at e2; omega)))
        | (refine step_append_src (by rfl) _ _ _ (by rfl) W2.heap.size 45 i4 _ 2 16 Try.underlying43 hi4 hq0 hq1 hq2 rfl (by decide) _ 0 [] (by rfl) hE3 X x.length xc (x.flatMap spnC) (by rfl) (flat_len spnC_len x) (by rintro rfl; exact HX3.out.none_) (HX3.out.news spnC_len (by decide)) (flat_ones spnC_one x) (by unfold maxLen; omega) (by omega) (by first | (simp; done) | (simp; omega)) ?_; intro v3 w3 hown3 hg3 _; rw [Nat.zero_add, List.nil_append] at hown3; obtain ⟨X1, x1, rfl⟩ := own_slice hown3; have h3 : Below W2.heap.size W2 w3 := D3.grown hg3 D3.size (fun k e => (hE3.lt k e).1); have kx3 := (kx.below h3 gx); have kx3c := kx3.cell; have kx3a := (kx3.alloc (.cells #[.int .i64 0, .int .i64 0] 45)).cell; have hx3 : SpnsAt w3 w3.heap.size X1 x := Flat.of_own spnC_len (by decide) hown3; have ks3 := (newAt' (W2.alloc (.cells #[] 45)) #[.int .i64 0, .int .i64 0] 45 (g := W2.heap.size + 1) (by simp)).drew.grown hg3 (fun e => by have e2 := Option.some.inj e; dsimp only at e2; omega))
        | (go_simp; go_at_call 15; (with_reducible refine (HbP.out cl1 tl1 C1 T1 c1 t1 Hc.out Ht.out X1 x1 _ (HM.out.later h3) hx3).mono ?_); rintro e w5 ⟨rfl, h5⟩; have h35 := h3.trans (h5.mono h3.size); have kn5 := Blk.new w5 #[.int .i64 0, .int .i64 0] 45; have kn5c := kn5.cell; have y0 := kn5.free 0; have y1 := kn5.free 1; (first | (have ks5 := ks3.below h5 ks3.lt; have ks5c := ks5.cell; have z0 := ks5.free 0; have z1 := ks5.free 1) | skip))
        | (go_simp; go_at_call 15; (with_reducible refine (HbP.out cl1 tl1 C1 T1 c1 t1 Hc.out Ht.out X1 x1 _ (HM.out.later (h3.alloc h3.size (.cells #[.int .i64 0, .int .i64 0] 45))) (hx3.later ((Below.refl _ _).alloc (Nat.le_refl _) (.cells #[.int .i64 0, .int .i64 0] 45)))).mono ?_); rintro e w5 ⟨rfl, h5⟩; have h35 := (h3.alloc h3.size (.cells #[.int .i64 0, .int .i64 0] 45)).trans (h5.mono (Nat.le_trans h3.size (by simp))); have ks5 := (Blk.new w3 #[.int .i64 0, .int .i64 0] 45).below h5 (by simp); have ks5c := ks5.cell; have z0 := ks5.free 0; have z1 := ks5.free 1))
      all_goals first | (go_step; go_step; go_meet) | (go_step; go_meet) | go_meet
      all_goals first
        | exact ⟨w5.heap.size, rfl, rfl, Lib.hid ⟨Blk.new w5 _ _, h35.alloc h35.size _⟩⟩
        | exact ⟨W2.heap.size, rfl, rfl, Lib.hid ⟨sp_put ks5, (h35.setCell (p := ⟨W2.heap.size, 0, none⟩) (Nat.le_refl _) _).setCell (p := ⟨W2.heap.size, 1, none⟩) (Nat.le_refl _) _⟩⟩
        | exact ⟨W2.heap.size + 1, rfl, rfl, Lib.hid ⟨sp_put ks5, (h35.setCell (p := ⟨W2.heap.size + 1, 0, none⟩) (Nat.le_succ _) _).setCell (p := ⟨W2.heap.size + 1, 1, none⟩) (Nat.le_succ _) _⟩⟩
        | exact ⟨w3.heap.size, rfl, rfl, Lib.hid ⟨sp_put ks5, (h35.setCell (p := ⟨w3.heap.size, 0, none⟩) h3.size _).setCell (p := ⟨w3.heap.size, 1, none⟩) h3.size _⟩⟩
    case rest =>
      obtain ⟨gs, rfl, rfl, HH⟩ := hcut
      have h6 := HH.out.2
      have kp := HH.out.1
      have b6 := bx.trans (h6.mono bx.size)
      have k6 := k4.below h6 k4.lt
      have kx6 := kx.below h6 gx
      have HM6 := Lib.hid (HM.out.later h6)
      have k6c := k6.cell
      clear D1 D2 D3 HX1 HX2 HX3 kD1 kD2 kD3 hE1 hE2 hE3 kxs kxc
      go_upto_region 6 with (go_at_call 16; (with_reducible refine (HbR.out _ b6).mono ?_); rintro e w7 ⟨rfl, h7⟩; have b7 := b6.trans (h7.mono b6.size))
      have b8 := b7.alloc b7.size (.cells #[.int .i64 lo, .int .i64 hi] 45)
      have ba := (Below.refl w7.heap.size w7).alloc (Nat.le_refl _) (.cells #[.int .i64 lo, .int .i64 hi] 45)
      have k8 := ((k6.below h7 k6.lt).alloc (.cells #[.int .i64 lo, .int .i64 hi] 45)).cell
      have kx8 := ((kx6.below h7 kx6.lt).alloc (.cells #[.int .i64 lo, .int .i64 hi] 45)).cell
      have kp8 := ((kp.below h7 kp.lt).alloc (.cells #[.int .i64 lo, .int .i64 hi] 45)).cell
      have kq8 := (Blk.new w7 #[.int .i64 lo, .int .i64 hi] 45).cell
      have HM8 := Lib.hid ((HM6.out.later h7).later ba)
      have Hh8 := Lib.hid (Hh.out.later b8)
      go_wp2_with (go_at_call 14; (with_reducible refine (HSm.out cl1 tl1 C1 T1 c1 t1 Hc.out Ht.out _ HM8.out Hh8.out).mono ?_); rintro e w9 ⟨rfl, h9⟩)
      go_ret
      exact ⟨rfl, b8.trans (h9.mono b8.size)⟩
end Go.Proofs.Ytijhbcmmoagdmaa

namespace Go.Proofs.Ytijhbcmmoagdmaa
open Go.ChangeShapes Go.WideShapes Go.ChangeAt Go.RowKit Go.Deep

section
variable {H : Type} {enc : TypeId × Value → H} {w : World} {base : Nat} {spare : Nat → Bool} {held : Bool}

theorem plain_of_cell {w : World} {a : Addr} {v : Value} (h : w.cell? a = some v) : a = ⟨a.block, a.off, none⟩ := by
  obtain ⟨b, o, s⟩ := a
  cases s with
  | none => rfl
  | some s => exfalso; unfold World.cell? at h; split at h <;> simp at h

set_option maxRecDepth 100000 in
/-- A slice whose elements open. -/
theorem flat_of_trod {α : Type} [Inhabited α] {n : Nat} {f : α → List Value} {P : α → Prop} (h0 : 0 < n) (hn : ∀ z, (f z).length = n) {ts te : TypeId} (hT : Try.prog.underlying ts = some (.slice te)) (hC : Try.prog.cellsOf te = n)
    (each : ∀ (m : Nat) (cs : List Value) (x : DataW H × List MemPlace), DataW.trod enc Try.prog w base spare held m te cs = some x → cs.length = n → ∃ z : α, cs = f z ∧ P z) {fuel : Nat} {v : Value} {x : DataW H × List MemPlace} (h : DataW.trod enc Try.prog w base spare held fuel ts [v] = some x) :
    ∃ A c l, v = .slice A (List.length l) c ∧ Flat n f w w.heap.size A l ∧ (∀ z ∈ l, P z) ∧ l.length ≤ maxLen := by
  rcases open_slice hT h with ⟨hc, _⟩ | ⟨a, len, cap, m, n', Dx, Pl, hc, _, hl, hm, hmm, _, hcell⟩
  · simp only [List.cons.injEq, and_true] at hc
    exact ⟨none, 0, [], by simpa using hc, Flat.nil _ _ _ _ _, fun z hz => by simp at hz, by simp [maxLen]⟩
  · simp only [List.cons.injEq, and_true] at hc
    have hlm : len ≤ m := by rw [hmm]; split <;> omega
    have each' : ∀ i, i < len → ∃ z : α, (∀ j, j < n → w.cell? (a.add (i * n + j)) = (f z)[j]?) ∧ P z := fun i hi => by
      obtain ⟨cs', h1, h2⟩ := hcell i (by omega)
      rw [hC] at h1
      obtain ⟨_, hlen, hat⟩ := World.cells?_some h1
      obtain ⟨z, rfl, hz⟩ := each _ _ _ h2 hlen
      refine ⟨z, fun j hj => ?_, hz⟩
      rw [← Go.Addr.add_add, hat j (by omega)]
    obtain ⟨S, hS⟩ := choose_lt each'
    refine ⟨some a, cap, (List.range len).map S, by rw [hc]; simp, fun k hk => ?_, fun z hz => ?_, by simp; omega⟩
    · simp only [List.length_map, List.length_range] at hk
      obtain ⟨h1, _⟩ := hS k hk
      obtain ⟨g1, _⟩ := hS 0 (by omega)
      have h00 := g1 0 h0
      have hf0 : ∃ u, (f (S 0))[0]? = some u := ⟨_, List.getElem?_eq_getElem (by rw [hn]; exact h0)⟩
      obtain ⟨u, hu⟩ := hf0
      rw [Nat.zero_mul, Nat.add_zero, Addr.add_zero', hu] at h00
      have hp := plain_of_cell h00
      have hlt := block_lt_of_cell h00
      refine ⟨a.block, a.off, by rw [← hp], hlt, fun i hi => ?_⟩
      have := h1 i hi
      rw [hp, add_plain] at this
      simpa [Nat.add_assoc] using this
    · obtain ⟨k, hk, rfl⟩ := List.mem_map.1 hz
      exact (hS k (by simpa using hk)).2

instance : Inhabited CrdD := ⟨⟨0, 0, [], none, 0⟩⟩
theorem int_of_trod (m : Nat) (cs : List Value) (x : DataW H × List MemPlace) (h : DataW.trod enc Try.prog w base spare held m 3 cs = some x) (hl : cs.length = 1) : ∃ z : Int, cs = intC z ∧ (Lit.int .i64 z).wf = true := by
  match cs, hl with
  | [v], _ =>
    obtain ⟨p, e, _, wf⟩ := DataW.trod_int Try.underlying3 h
    exact ⟨p, e, wf⟩
theorem ints_of_trod {fuel : Nat} {v : Value} {x : DataW H × List MemPlace} (h : DataW.trod enc Try.prog w base spare held fuel 26 [v] = some x) :
    ∃ A c l, v = .slice A (List.length l) c ∧ Flat 1 intC w w.heap.size A l ∧ (∀ z ∈ l, (Lit.int .i64 z).wf = true) ∧ l.length ≤ maxLen :=
  flat_of_trod (P := fun z => (Lit.int .i64 z).wf = true) (by decide) intC_len Try.underlying26 (by kernel_rfl) (fun m cs x h hl => int_of_trod m cs x h hl) h

set_option maxRecDepth 100000 in
theorem scl_of_trod (m : Nat) (cs : List Value) (x : DataW H × List MemPlace) (h : DataW.trod enc Try.prog w base spare held m 55 cs = some x) :
    ∃ z : SclD, cs = sclC z ∧ SclAt w w.heap.size z := by
  have hC : Try.prog.cellsOf 55 = 3 := by kernel_rfl
  have kint : Try.prog.cellsOf 3 = 1 := by kernel_rfl
  have ks0 : Try.prog.cellsOf 26 = 1 := by kernel_rfl
  obtain ⟨xs, n, _, _, hcl, hxl, hg⟩ := DataW.trod_struct Try.underlying55 h
  rw [hC] at hcl
  match cs, hcl with
  | [v0, v1, v2], _ =>
    match xs, hxl with
    | [y0, y1, y2], _ =>
      have g0 : DataW.trod enc Try.prog w base spare held n 26 (([v0, v1, v2].drop 0).take (Try.prog.cellsOf 26)) = [y0, y1, y2][0]? := hg 0 _ rfl
      rw [ks0] at g0
      obtain ⟨A0, a0, l0, e0, hl0, hP0, _⟩ := ints_of_trod (show DataW.trod enc Try.prog w base spare held n 26 [v0] = some y0 from g0)
      have g1 : DataW.trod enc Try.prog w base spare held n 26 (([v0, v1, v2].drop 1).take (Try.prog.cellsOf 26)) = [y0, y1, y2][1]? := hg 1 _ rfl
      rw [ks0] at g1
      obtain ⟨A1, a1, l1, e1, hl1, hP1, _⟩ := ints_of_trod (show DataW.trod enc Try.prog w base spare held n 26 [v1] = some y1 from g1)
      have g2 : DataW.trod enc Try.prog w base spare held n 3 (([v0, v1, v2].drop 2).take (Try.prog.cellsOf 3)) = [y0, y1, y2][2]? := hg 2 _ rfl
      rw [kint] at g2
      obtain ⟨p2, e2, _, wf2⟩ := DataW.trod_int Try.underlying3 (show DataW.trod enc Try.prog w base spare held n 3 [v2] = some y2 from g2)
      simp only [List.cons.injEq, and_true] at e2
      subst e0 e1 e2
      exact ⟨⟨⟨l0, l1, p2⟩, A0, a0, A1, a1⟩, rfl, ⟨hl0, hl1⟩⟩

theorem scls_of_trod {fuel : Nat} {v : Value} {x : DataW H × List MemPlace} (h : DataW.trod enc Try.prog w base spare held fuel 51 [v] = some x) :
    ∃ A c l, v = .slice A (List.length l) c ∧ Flat 3 sclC w w.heap.size A l ∧ (∀ z ∈ l, SclAt w w.heap.size z) ∧ l.length ≤ maxLen :=
  flat_of_trod (P := fun z => SclAt w w.heap.size z) (by decide) sclC_len Try.underlying51 (by kernel_rfl) (fun m cs x h hl => scl_of_trod m cs x h) h

set_option maxRecDepth 100000 in
theorem crd_of_trod (m : Nat) (cs : List Value) (x : DataW H × List MemPlace) (h : DataW.trod enc Try.prog w base spare held m 53 cs = some x) :
    ∃ z : CrdD, cs = crdC z ∧ SclsAt w w.heap.size z.S z.scales := by
  have hC : Try.prog.cellsOf 53 = 3 := by kernel_rfl
  have kint : Try.prog.cellsOf 3 = 1 := by kernel_rfl
  have ks0 : Try.prog.cellsOf 51 = 1 := by kernel_rfl
  obtain ⟨xs, n, _, _, hcl, hxl, hg⟩ := DataW.trod_struct Try.underlying53 h
  rw [hC] at hcl
  match cs, hcl with
  | [v0, v1, v2], _ =>
    match xs, hxl with
    | [y0, y1, y2], _ =>
      have g0 : DataW.trod enc Try.prog w base spare held n 3 (([v0, v1, v2].drop 0).take (Try.prog.cellsOf 3)) = [y0, y1, y2][0]? := hg 0 _ rfl
      rw [kint] at g0
      obtain ⟨p0, e0, _, wf0⟩ := DataW.trod_int Try.underlying3 (show DataW.trod enc Try.prog w base spare held n 3 [v0] = some y0 from g0)
      have g1 : DataW.trod enc Try.prog w base spare held n 3 (([v0, v1, v2].drop 1).take (Try.prog.cellsOf 3)) = [y0, y1, y2][1]? := hg 1 _ rfl
      rw [kint] at g1
      obtain ⟨p1, e1, _, wf1⟩ := DataW.trod_int Try.underlying3 (show DataW.trod enc Try.prog w base spare held n 3 [v1] = some y1 from g1)
      have g2 : DataW.trod enc Try.prog w base spare held n 51 (([v0, v1, v2].drop 2).take (Try.prog.cellsOf 51)) = [y0, y1, y2][2]? := hg 2 _ rfl
      rw [ks0] at g2
      obtain ⟨A2, a2, l2, e2, hl2, hP2, _⟩ := scls_of_trod (show DataW.trod enc Try.prog w base spare held n 51 [v2] = some y2 from g2)
      simp only [List.cons.injEq, and_true] at e0 e1
      subst e0 e1 e2
      exact ⟨⟨p0, p1, l2, A2, a2⟩, rfl, ⟨hl2, hP2⟩⟩

theorem crds_of_trod {fuel : Nat} {v : Value} {x : DataW H × List MemPlace} (h : DataW.trod enc Try.prog w base spare held fuel 22 [v] = some x) :
    ∃ A c l, v = .slice A (List.length l) c ∧ Flat 3 crdC w w.heap.size A l ∧ (∀ z ∈ l, SclsAt w w.heap.size z.S z.scales) ∧ l.length ≤ maxLen :=
  flat_of_trod (P := fun z => SclsAt w w.heap.size z.S z.scales) (by decide) crdC_len Try.underlying22 (by kernel_rfl) (fun m cs x h hl => crd_of_trod m cs x h) h

set_option maxRecDepth 100000 in
theorem nod_of_trod (m : Nat) (cs : List Value) (x : DataW H × List MemPlace) (h : DataW.trod enc Try.prog w base spare held m 74 cs = some x) :
    ∃ z : Nod, cs = nodC z ∧ True := by
  have hC : Try.prog.cellsOf 74 = 5 := by kernel_rfl
  have kint : Try.prog.cellsOf 3 = 1 := by kernel_rfl
  obtain ⟨xs, n, _, _, hcl, hxl, hg⟩ := DataW.trod_struct Try.underlying74 h
  rw [hC] at hcl
  match cs, hcl with
  | [v0, v1, v2, v3, v4], _ =>
    match xs, hxl with
    | [y0, y1, y2, y3, y4], _ =>
      have g0 : DataW.trod enc Try.prog w base spare held n 3 (([v0, v1, v2, v3, v4].drop 0).take (Try.prog.cellsOf 3)) = [y0, y1, y2, y3, y4][0]? := hg 0 _ rfl
      rw [kint] at g0
      obtain ⟨p0, e0, _, wf0⟩ := DataW.trod_int Try.underlying3 (show DataW.trod enc Try.prog w base spare held n 3 [v0] = some y0 from g0)
      have g1 : DataW.trod enc Try.prog w base spare held n 3 (([v0, v1, v2, v3, v4].drop 1).take (Try.prog.cellsOf 3)) = [y0, y1, y2, y3, y4][1]? := hg 1 _ rfl
      rw [kint] at g1
      obtain ⟨p1, e1, _, wf1⟩ := DataW.trod_int Try.underlying3 (show DataW.trod enc Try.prog w base spare held n 3 [v1] = some y1 from g1)
      have g2 : DataW.trod enc Try.prog w base spare held n 3 (([v0, v1, v2, v3, v4].drop 2).take (Try.prog.cellsOf 3)) = [y0, y1, y2, y3, y4][2]? := hg 2 _ rfl
      rw [kint] at g2
      obtain ⟨p2, e2, _, wf2⟩ := DataW.trod_int Try.underlying3 (show DataW.trod enc Try.prog w base spare held n 3 [v2] = some y2 from g2)
      have g3 : DataW.trod enc Try.prog w base spare held n 3 (([v0, v1, v2, v3, v4].drop 3).take (Try.prog.cellsOf 3)) = [y0, y1, y2, y3, y4][3]? := hg 3 _ rfl
      rw [kint] at g3
      obtain ⟨p3, e3, _, wf3⟩ := DataW.trod_int Try.underlying3 (show DataW.trod enc Try.prog w base spare held n 3 [v3] = some y3 from g3)
      have g4 : DataW.trod enc Try.prog w base spare held n 3 (([v0, v1, v2, v3, v4].drop 4).take (Try.prog.cellsOf 3)) = [y0, y1, y2, y3, y4][4]? := hg 4 _ rfl
      rw [kint] at g4
      obtain ⟨p4, e4, _, wf4⟩ := DataW.trod_int Try.underlying3 (show DataW.trod enc Try.prog w base spare held n 3 [v4] = some y4 from g4)
      simp only [List.cons.injEq, and_true] at e0 e1 e2 e3 e4
      subst e0 e1 e2 e3 e4
      exact ⟨⟨p0, p1, p2, p3, p4⟩, rfl, trivial⟩

theorem nods_of_trod {fuel : Nat} {v : Value} {x : DataW H × List MemPlace} (h : DataW.trod enc Try.prog w base spare held fuel 56 [v] = some x) :
    ∃ A c l, v = .slice A (List.length l) c ∧ Flat 5 nodC w w.heap.size A l ∧ (∀ z ∈ l, True) ∧ l.length ≤ maxLen :=
  flat_of_trod (P := fun z => True) (by decide) nodC_len Try.underlying56 (by kernel_rfl) (fun m cs x h hl => nod_of_trod m cs x h) h

set_option maxRecDepth 100000 in
theorem tre_of_trod (m : Nat) (cs : List Value) (x : DataW H × List MemPlace) (h : DataW.trod enc Try.prog w base spare held m 58 cs = some x) :
    ∃ z : TreD, cs = treC z ∧ NodsAt w w.heap.size z.T z.v.nodes := by
  have hC : Try.prog.cellsOf 58 = 2 := by kernel_rfl
  have kint : Try.prog.cellsOf 3 = 1 := by kernel_rfl
  have ks0 : Try.prog.cellsOf 56 = 1 := by kernel_rfl
  obtain ⟨xs, n, _, _, hcl, hxl, hg⟩ := DataW.trod_struct Try.underlying58 h
  rw [hC] at hcl
  match cs, hcl with
  | [v0, v1], _ =>
    match xs, hxl with
    | [y0, y1], _ =>
      have g0 : DataW.trod enc Try.prog w base spare held n 3 (([v0, v1].drop 0).take (Try.prog.cellsOf 3)) = [y0, y1][0]? := hg 0 _ rfl
      rw [kint] at g0
      obtain ⟨p0, e0, _, wf0⟩ := DataW.trod_int Try.underlying3 (show DataW.trod enc Try.prog w base spare held n 3 [v0] = some y0 from g0)
      have g1 : DataW.trod enc Try.prog w base spare held n 56 (([v0, v1].drop 1).take (Try.prog.cellsOf 56)) = [y0, y1][1]? := hg 1 _ rfl
      rw [ks0] at g1
      obtain ⟨A1, a1, l1, e1, hl1, hP1, _⟩ := nods_of_trod (show DataW.trod enc Try.prog w base spare held n 56 [v1] = some y1 from g1)
      simp only [List.cons.injEq, and_true] at e0
      subst e0 e1
      exact ⟨⟨⟨p0, l1⟩, A1, a1⟩, rfl, hl1⟩

theorem tres_of_trod {fuel : Nat} {v : Value} {x : DataW H × List MemPlace} (h : DataW.trod enc Try.prog w base spare held fuel 23 [v] = some x) :
    ∃ A c l, v = .slice A (List.length l) c ∧ Flat 2 treC w w.heap.size A l ∧ (∀ z ∈ l, NodsAt w w.heap.size z.T z.v.nodes) ∧ l.length ≤ maxLen :=
  flat_of_trod (P := fun z => NodsAt w w.heap.size z.T z.v.nodes) (by decide) treC_len Try.underlying23 (by kernel_rfl) (fun m cs x h hl => tre_of_trod m cs x h) h

set_option maxRecDepth 100000 in
theorem mdl_of_trod (m : Nat) (cs : List Value) (x : DataW H × List MemPlace) (h : DataW.trod enc Try.prog w base spare held m 25 cs = some x) :
    ∃ z : MdlD, cs = [.int .i64 z.traits, .slice z.C z.cards.length z.c, .slice z.T z.trees.length z.t, .int .i64 z.need] ∧ MdlAt w w.heap.size z := by
  have hC : Try.prog.cellsOf 25 = 4 := by kernel_rfl
  have kint : Try.prog.cellsOf 3 = 1 := by kernel_rfl
  have ks0 : Try.prog.cellsOf 22 = 1 := by kernel_rfl
  have ks1 : Try.prog.cellsOf 23 = 1 := by kernel_rfl
  obtain ⟨xs, n, _, _, hcl, hxl, hg⟩ := DataW.trod_struct Try.underlying25 h
  rw [hC] at hcl
  match cs, hcl with
  | [v0, v1, v2, v3], _ =>
    match xs, hxl with
    | [y0, y1, y2, y3], _ =>
      have g0 : DataW.trod enc Try.prog w base spare held n 3 (([v0, v1, v2, v3].drop 0).take (Try.prog.cellsOf 3)) = [y0, y1, y2, y3][0]? := hg 0 _ rfl
      rw [kint] at g0
      obtain ⟨p0, e0, _, wf0⟩ := DataW.trod_int Try.underlying3 (show DataW.trod enc Try.prog w base spare held n 3 [v0] = some y0 from g0)
      have g1 : DataW.trod enc Try.prog w base spare held n 22 (([v0, v1, v2, v3].drop 1).take (Try.prog.cellsOf 22)) = [y0, y1, y2, y3][1]? := hg 1 _ rfl
      rw [ks0] at g1
      obtain ⟨A1, a1, l1, e1, hl1, hP1, _⟩ := crds_of_trod (show DataW.trod enc Try.prog w base spare held n 22 [v1] = some y1 from g1)
      have g2 : DataW.trod enc Try.prog w base spare held n 23 (([v0, v1, v2, v3].drop 2).take (Try.prog.cellsOf 23)) = [y0, y1, y2, y3][2]? := hg 2 _ rfl
      rw [ks1] at g2
      obtain ⟨A2, a2, l2, e2, hl2, hP2, _⟩ := tres_of_trod (show DataW.trod enc Try.prog w base spare held n 23 [v2] = some y2 from g2)
      have g3 : DataW.trod enc Try.prog w base spare held n 3 (([v0, v1, v2, v3].drop 3).take (Try.prog.cellsOf 3)) = [y0, y1, y2, y3][3]? := hg 3 _ rfl
      rw [kint] at g3
      obtain ⟨p3, e3, _, wf3⟩ := DataW.trod_int Try.underlying3 (show DataW.trod enc Try.prog w base spare held n 3 [v3] = some y3 from g3)
      simp only [List.cons.injEq, and_true] at e0 e3
      subst e0 e1 e2 e3
      exact ⟨⟨p0, l1, A1, a1, l2, A2, a2, p3⟩, rfl, ⟨⟨hl1, hP1⟩, ⟨hl2, hP2⟩⟩⟩

end
end Go.Proofs.Ytijhbcmmoagdmaa

namespace Go.Proofs.Ytijhbcmmoagdmaa
open Go.ChangeShapes Go.WideShapes Go.ChangeAt Go.RowKit Go.Deep Go.Maps
section
variable {H : Type} {enc : TypeId × Value → H} {w : World} {base : Nat} {spare : Nat → Bool} {held : Bool}
set_option maxRecDepth 100000 in
theorem spn_of_trod (m : Nat) (cs : List Value) (x : DataW H × List MemPlace) (h : DataW.trod enc Try.prog w base spare held m 45 cs = some x) :
    ∃ z : Spn, cs = spnC z ∧ True := by
  have hC : Try.prog.cellsOf 45 = 2 := by kernel_rfl
  have kint : Try.prog.cellsOf 3 = 1 := by kernel_rfl
  obtain ⟨xs, n, _, _, hcl, hxl, hg⟩ := DataW.trod_struct Try.underlying45 h
  rw [hC] at hcl
  match cs, hcl with
  | [v0, v1], _ =>
    match xs, hxl with
    | [y0, y1], _ =>
      have g0 : DataW.trod enc Try.prog w base spare held n 3 (([v0, v1].drop 0).take (Try.prog.cellsOf 3)) = [y0, y1][0]? := hg 0 _ rfl
      rw [kint] at g0
      obtain ⟨p0, e0, _, _⟩ := DataW.trod_int Try.underlying3 (show DataW.trod enc Try.prog w base spare held n 3 [v0] = some y0 from g0)
      have g1 : DataW.trod enc Try.prog w base spare held n 3 (([v0, v1].drop 1).take (Try.prog.cellsOf 3)) = [y0, y1][1]? := hg 1 _ rfl
      rw [kint] at g1
      obtain ⟨p1, e1, _, _⟩ := DataW.trod_int Try.underlying3 (show DataW.trod enc Try.prog w base spare held n 3 [v1] = some y1 from g1)
      simp only [List.cons.injEq, and_true] at e0 e1
      subst e0 e1
      exact ⟨⟨p0, p1⟩, rfl, trivial⟩

theorem spns_of_trod {fuel : Nat} {v : Value} {x : DataW H × List MemPlace} (h : DataW.trod enc Try.prog w base spare held fuel 43 [v] = some x) :
    ∃ A c l, v = .slice A (List.length l) c ∧ Flat 2 spnC w w.heap.size A l ∧ (∀ z ∈ l, True) ∧ l.length ≤ maxLen :=
  flat_of_trod (n := 2) (f := spnC) (P := fun _ : Spn => True) (by decide) spnC_len Try.underlying43 (by kernel_rfl) (fun m cs x h hl => spn_of_trod m cs x h) h
end
end Go.Proofs.Ytijhbcmmoagdmaa
