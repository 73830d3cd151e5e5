/- The sums of a score, part by part; bins; nodes that are reached. -/
import Derived.Test.YtkimojiakabbcaaGreatWP4

namespace Go.Proofs.YtkimojiakabbcaaGreat
open Go.RowKit Go.Maps

instance : Inhabited TreD := ⟨⟨⟨0, []⟩, none, 0⟩⟩
def upC (x : List Int) (cl : List CrdD) (i : Nat) : Int := sumL ((cl.take i).map fun y => y.weight * onCrd y.v x)
def upT (x : List Int) (tl : List TreD) (i : Nat) : Int := sumL ((tl.take i).map fun y => y.v.weight * onTre y.v x)
theorem upC_succ {x : List Int} {cl : List CrdD} {i : Nat} (h : i < cl.length) : upC x cl (i + 1) = upC x cl i + cl[i].weight * onCrd cl[i].v x := by
  unfold upC
  rw [List.take_succ_eq_append_getElem h, List.map_append, List.map_singleton, sumL_snoc]
theorem upT_succ {x : List Int} {tl : List TreD} {i : Nat} (h : i < tl.length) : upT x tl (i + 1) = upT x tl i + tl[i].v.weight * onTre tl[i].v x := by
  unfold upT
  rw [List.take_succ_eq_append_getElem h, List.map_append, List.map_singleton, sumL_snoc]
theorem upC_bound {x : List Int} {cl : List CrdD} (h : ∀ y ∈ cl, crdB x.length y.v = true) (hx : x.length ≤ 10) : ∀ i, i ≤ cl.length → -(11000000000 * (i : Int)) ≤ upC x cl i ∧ upC x cl i ≤ 11000000000 * (i : Int)
  | 0, _ => by simp [upC, sumL]
  | i + 1, hi => by
    have h1 := upC_bound h hx i (by omega)
    have h2 := h cl[i] (List.getElem_mem (by omega))
    have h3 := mul_bound (crdB_parts h2).1 (onCrd_bound h2 hx)
    rw [upC_succ (by omega)]
    have e : cl[i].v.weight = cl[i].weight := rfl
    rw [e] at h3
    omega
theorem upT_bound {x : List Int} {tl : List TreD} (h : ∀ y ∈ tl, treB x.length y.v = true) : ∀ i, i ≤ tl.length → -(11000000000 * (i : Int)) ≤ upT x tl i ∧ upT x tl i ≤ 11000000000 * (i : Int)
  | 0, _ => by simp [upT, sumL]
  | i + 1, hi => by
    have h1 := upT_bound h i (by omega)
    have h2 := h tl[i] (List.getElem_mem (by omega))
    have h4 := onTre_bound h2
    have h3 := mul_bound (treB_parts h2).1 (by omega : -11000000 ≤ onTre tl[i].v x ∧ onTre tl[i].v x ≤ 11000000)
    rw [upT_succ (by omega)]
    omega
theorem score_parts (traits need : Int) (cl : List CrdD) (tl : List TreD) (x : List Int) : scoreM ⟨traits, cl.map CrdD.v, tl.map TreD.v, need⟩ x = upC x cl cl.length + upT x tl tl.length := by
  unfold scoreM upC upT
  rw [sumL_append, List.take_length, List.take_length, List.map_map, List.map_map]
  rfl
theorem pts_card {traits need : Int} {cl : List CrdD} {tl : List TreD} {x : List Int} {i : Nat} (h : i < cl.length) : (ptsL ⟨traits, cl.map CrdD.v, tl.map TreD.v, need⟩ x).getD i 0 = onCrd cl[i].v x := by
  unfold ptsL
  rw [List.getD_eq_getElem?_getD, List.getElem?_append_left (by simpa using h)]
  simp [h]
theorem pts_tree {traits need : Int} {cl : List CrdD} {tl : List TreD} {x : List Int} {i : Nat} (h : i < tl.length) : (ptsL ⟨traits, cl.map CrdD.v, tl.map TreD.v, need⟩ x).getD (cl.length + i) 0 = onTre tl[i].v x := by
  unfold ptsL
  rw [List.getD_eq_getElem?_getD, List.getElem?_append_right (by simp)]
  simp [h]
theorem pts_len (traits need : Int) (cl : List CrdD) (tl : List TreD) (x : List Int) : (ptsL ⟨traits, cl.map CrdD.v, tl.map TreD.v, need⟩ x).length = cl.length + tl.length := by
  unfold ptsL; simp
theorem scls_succ {l : List SclD} {x : List Int} {k : Nat} (h : k < l.length) : sclsUp (l.map SclD.v) x (k + 1) = sclsUp (l.map SclD.v) x k + onScl l[k].v (x.getD k 0) := by
  rw [sclsUp, getD_lt _ _ (by simpa using h), List.getElem_map]
theorem bin_at {l : List Int} {v : Int} {b : Nat} (hc : cutsB l = true) (hb : b ≤ l.length) (h1 : ∀ j, j < b → l.getD j 0 ≤ v) (h2 : b < l.length → v < l.getD b 0) : cntLe l v = b :=
  cntLe_at hb h1 fun j hj hl => by
    have := cutsB_mono hc hj hl
    have := h2 (by omega)
    omega

/-! Nodes that are reached. -/
def boolA (l : List Bool) : Array Value := (l.map Value.bool).toArray
theorem boolA_at {l : List Bool} {i : Nat} (h : i < l.length) : (boolA l)[i]? = some (.bool l[i]) := by unfold boolA; simp [h]
theorem boolA_set (l : List Bool) (i : Nat) (b : Bool) : (boolA l).setIfInBounds i (.bool b) = boolA (l.set i b) := by unfold boolA; simp [List.map_set]
theorem boolA_made (n : Nat) : madeCells #[Value.bool false] n = boolA (List.replicate n false) := by
  unfold boolA
  rw [← Array.toList_inj, toList_madeCells_one]
  simp
/-- Behind node k: which node comes next, if there is one; what is left to go. -/
structure Rch (nodes : List Nod) (x : List Int) (r : List Bool) (k : Nat) (a : Nat) : Prop where
  low : k ≤ a
  lt : a < nodes.length
  here : r.getD a false = true
  only : ∀ j, k ≤ j → j < nodes.length → j ≠ a → r.getD j false = false
  go : ∃ f, treGo nodes x f a = treGo nodes x nodes.length 0 ∧ nodes.length ≤ a + f
theorem rch_skip {nodes : List Nod} {x : List Int} {r : List Bool} {k a : Nat} (h : Rch nodes x r k a) (hk : r.getD k false = false) : Rch nodes x r (k + 1) a := by
  have hne : a ≠ k := fun e => by have := h.here; rw [e, hk] at this; cases this
  have := h.low
  exact ⟨by omega, h.lt, h.here, fun j hj => h.only j (by omega), h.go⟩
theorem rch_here {nodes : List Nod} {x : List Int} {r : List Bool} {k a : Nat} (h : Rch nodes x r k a) (hk : r.getD k false = true) (hl : k < nodes.length) : a = k := by
  rcases Decidable.em (k = a) with e | e
  · exact e.symm
  · have := h.only k (Nat.le_refl _) hl e
    rw [this] at hk; cases hk
theorem rch_leaf {nodes : List Nod} {x : List Int} {r : List Bool} {k : Nat} (h : Rch nodes x r k k) (ht : (nodes.getD k default).tr = -1) : (nodes.getD k default).pts = treGo nodes x nodes.length 0 := by
  obtain ⟨f, hf, hl⟩ := h.go
  have := h.lt
  cases f with
  | zero => omega
  | succ f => rw [← hf, treGo_leaf ht]
theorem rch_next {nodes : List Nod} {x : List Int} {r : List Bool} {k b : Nat} (h : Rch nodes x r k k) (hr : r.length = nodes.length) (hb : k < b) (hbl : b < nodes.length) (hg : ∀ f, treGo nodes x (f + 1) k = treGo nodes x f b) : Rch nodes x (r.set b true) (k + 1) b := by
  obtain ⟨f, hf, hl⟩ := h.go
  have := h.lt
  refine ⟨hb, hbl, ?_, fun j hj hjl hne => ?_, ?_⟩
  · rw [List.getD_eq_getElem?_getD, List.getElem?_set_self (by omega)]; rfl
  · rw [List.getD_eq_getElem?_getD, List.getElem?_set_ne (by omega), ← List.getD_eq_getElem?_getD]
    exact h.only j (by omega) hjl (by omega)
  · cases f with
    | zero => omega
    | succ f => exact ⟨f, by rw [← hg f]; exact hf, by omega⟩
theorem rch_first {nodes : List Nod} {x : List Int} (h : 1 ≤ nodes.length) : Rch nodes x ((List.replicate nodes.length false).set 0 true) 0 0 := by
  refine ⟨Nat.le_refl _, by omega, ?_, fun j _ hjl hne => ?_, nodes.length, rfl, by omega⟩
  · rw [List.getD_eq_getElem?_getD, List.getElem?_set_self (by simp; omega)]; rfl
  · rw [List.getD_eq_getElem?_getD, List.getElem?_set_ne (by omega), List.getElem?_replicate]
    simp [hjl]
theorem boolInfo : (Tryz.prog.info? 4).map (fun i => (i.zero, i.size, i.bytes)) = some (some (.bool false), 1, 1) := by kernel_rfl
theorem make_bools (T : Nat) (hT : T ≤ 1000) (W : World) : (Instr.makeSlice 60 (.int .i64 (T : Int)) (.int .i64 (T : Int))).run Tryz.prog W = .ok (.slice (some ⟨W.heap.size, 0, none⟩) T T) (W.alloc (.cells (boolA (List.replicate T false)) 4)) := by
  obtain ⟨i, hi, hz0, hz1, hz2⟩ := info_parts boolInfo
  have := run_makeSlice (P := Tryz.prog) W 60 4 i _ Tryz.underlying60 hi hz0 .i64 .i64 (T : Int) (T : Int) (by omega) (Int.le_refl _) (by rw [hz1]; simp; omega) (by rw [hz2]; simp; omega) (by omega)
  rw [hz1, show (Value.bool false).cells = #[.bool false] from rfl, boolA_made] at this
  simpa using this
end Go.Proofs.YtkimojiakabbcaaGreat

namespace Go.Proofs.YtkimojiakabbcaaGreat
open Go.RowKit Go.Maps

/-- A list of points, in new memory. -/
def PtS (W : World) (pts : List Int) (e : Ending) (w' : World) : Prop := ∃ A' c', e = .returned (.tuple #[.slice A' pts.length c', .int .i64 0]) ∧ IntsAt w' w'.heap.size A' pts ∧ Below W.heap.size W w'

theorem xcell_of {W : World} {b o : Nat} {x : List Int} (h : IntsAt W W.heap.size (some ⟨b, o, none⟩) x) {k : Nat} (hk : k < x.length) : W.cell? ⟨b, o + k, none⟩ = some (.int .i64 x[k]) ∧ b < W.heap.size := by
  obtain ⟨b', o', he, hb, hc⟩ := ints_at h hk
  cases he
  exact ⟨hc, hb⟩

set_option maxRecDepth 100000 in
set_option maxHeartbeats 8000000 in
theorem scoreTrue_any (traits need : Int) (cl : List CrdD) (tl : List TreD) (C T : Option Addr) (c t : Nat) (x : List Int) (X : Option Addr) (xc : Nat) (w : World) (h : MdlAt w w.heap.size ⟨traits, cl, C, c, tl, T, t, need⟩) (hx : IntsAt w w.heap.size X x) (hxm : x.length ≤ maxLen)
    (HAL : ∀ (W : World), Calls Tryz.prog 11 #[] W fun e w' => e = .returned (.bool true) ∧ Below W.heap.size W w')
    (HSC : ∀ (W : World), MdlAt W W.heap.size ⟨traits, cl, C, c, tl, T, t, need⟩ → MdlLe ⟨traits, cl, C, c, tl, T, t, need⟩ → IntsAt W W.heap.size X x → x.length ≤ 10 → Calls Tryz.prog 12 #[.agg #[.int .i64 traits, .slice C cl.length c, .slice T tl.length t, .int .i64 need], .slice X x.length xc] W fun e w' => e = .returned (.tuple #[.int .i64 (scN ⟨traits, cl.map CrdD.v, tl.map TreD.v, need⟩ x), .bool (scY ⟨traits, cl.map CrdD.v, tl.map TreD.v, need⟩ x), .int .i64 (forE ⟨traits, cl.map CrdD.v, tl.map TreD.v, need⟩ x)]) ∧ Below W.heap.size W w')
    (HPC : ∀ (W : World), MdlAt W W.heap.size ⟨traits, cl, C, c, tl, T, t, need⟩ → MdlLe ⟨traits, cl, C, c, tl, T, t, need⟩ → IntsAt W W.heap.size X x → x.length ≤ 10 → forE ⟨traits, cl.map CrdD.v, tl.map TreD.v, need⟩ x = 0 → Calls Tryz.prog 14 #[.agg #[.int .i64 traits, .slice C cl.length c, .slice T tl.length t, .int .i64 need], .slice X x.length xc] W (PtS W (ptsL ⟨traits, cl.map CrdD.v, tl.map TreD.v, need⟩ x))) :
    Calls Tryz.prog 5 #[.agg #[.int .i64 traits, .slice C cl.length c, .slice T tl.length t, .int .i64 need], .slice X x.length xc] w fun e w' => e = .returned (.bool true) ∧ Below w.heap.size w w' := by
  have b1 := (Below.refl w.heap.size w).alloc (Nat.le_refl _) (.cells #[.int .i64 traits, .slice C cl.length c, .slice T tl.length t, .int .i64 need] 29)
  have k1 := Blk.new w #[.int .i64 traits, .slice C cl.length c, .slice T tl.length t, .int .i64 need] 29
  have HRd := Lib.hid (fun W hb => ready_all traits need cl tl C T c t x X xc W (h.later hb) (hx.later hb) hxm)
  have HAl := Lib.hid HAL
  have q1 := k1.lt
  have k1c := k1.cell
  have hxm1 : IntKind.i64.wrap (x.length : Int) = (x.length : Int) := by unfold maxLen at hxm; exact IntWalk.i64_in _ (by omega)
  clear HAL
  cases hr : rdyB ⟨traits, cl, C, c, tl, T, t, need⟩ ⟨traits, cl.map CrdD.v, tl.map TreD.v, need⟩ x with
  | false =>
    rw [hr] at HRd
    clear h hx HSC HPC hr
    go_enter Tryz.func5, Tryz.ntmps5
    go_wp2_with (first
      | (go_at_call 11; (with_reducible refine (HAl.out _).mono ?_); rintro e w1 ⟨rfl, h1⟩; have b2 := b1.trans (h1.mono b1.size); have k2c := (k1.below h1 q1).cell)
      | (go_at_call 24; (with_reducible refine (HRd.out _ b2).mono ?_); rintro e w2 ⟨rfl, h2⟩))
    go_ret
    exact ⟨rfl, b2.trans (h2.mono b2.size)⟩
  | true =>
    rw [hr] at HRd
    unfold rdyB at hr
    simp only [Bool.and_eq_true] at hr
    obtain ⟨hg, hM, hv⟩ := hr
    have hls := mdlLe_of hg
    obtain ⟨htr, hnd, hc2, ht2, hcr, htt⟩ := mdlB_parts hM
    dsimp only at htr hnd hc2 ht2 hcr htt
    rw [List.length_map] at hc2 ht2
    have hvl : (x.length : Int) = traits := by unfold valsB at hv; simp only [Bool.and_eq_true, decide_eq_true_eq] at hv; exact hv.1
    have hx5 : x.length ≤ 5 := by omega
    have hF : forE ⟨traits, cl.map CrdD.v, tl.map TreD.v, need⟩ x = 0 := by unfold forE; rw [if_pos hM]; exact if_pos hv
    have hS : scN ⟨traits, cl.map CrdD.v, tl.map TreD.v, need⟩ x = upC x cl cl.length + upT x tl tl.length := by unfold scN; rw [if_pos hF]; exact score_parts traits need cl tl x
    have hY : scY ⟨traits, cl.map CrdD.v, tl.map TreD.v, need⟩ x = decide (need * 1000 ≤ upC x cl cl.length + upT x tl tl.length) := by unfold scY; rw [if_pos hF, score_parts]; rw [Int.mul_comm]
    have hcr' : ∀ y ∈ cl, crdB x.length y.v = true := fun y hy => by rw [hvl]; exact hcr _ (List.mem_map_of_mem hy)
    have htt' : ∀ y ∈ tl, treB x.length y.v = true := fun y hy => by rw [hvl]; exact htt _ (List.mem_map_of_mem hy)
    have HCr := Lib.hid hcr'
    have HTr := Lib.hid htt'
    have HCb := Lib.hid (upC_bound hcr' (by omega))
    have HTb := Lib.hid (upT_bound htt')
    have HPl := Lib.hid (pts_len traits need cl tl x)
    have HPc := Lib.hid (fun i (hi : i < cl.length) => pts_card (traits := traits) (need := need) (tl := tl) (x := x) hi)
    have HPt := Lib.hid (fun i (hi : i < tl.length) => pts_tree (traits := traits) (need := need) (cl := cl) (x := x) hi)
    have Hh := Lib.hid (fun W (hb : Below w.heap.size w W) => h.later hb)
    obtain ⟨bX, oX, rfl, -, -⟩ := hx 0 (by omega)
    have Hx := Lib.hid (fun W (hb : Below w.heap.size w W) (k : Nat) (hk : k < x.length) => xcell_of (hx.later hb) hk)
    have Hls := Lib.hid hls
    have Hsc := Lib.hid (fun W hb => by
      have h9 := HSC W (h.later hb) hls (hx.later hb) (by omega)
      rw [hF, hS, hY] at h9
      exact h9)
    have Hpc := Lib.hid (fun W hb => HPC W (h.later hb) hls (hx.later hb) (by omega) hF)
    generalize hPT : ptsL ⟨traits, cl.map CrdD.v, tl.map TreD.v, need⟩ x = pts at *
    clear hPT h hx HSC HPC hg hM hv hls hF hS hY hcr htt hcr' htt'
    obtain ⟨yb, hyb⟩ : ∃ yb, decide (need * 1000 ≤ upC x cl cl.length + upT x tl tl.length) = yb := ⟨_, rfl⟩
    rw [hyb] at Hsc
    have HYB := Lib.hid hyb
    clear hyb
    have HN : Hid (upC x cl cl.length + upT x tl tl.length = upC x cl cl.length + upT x tl tl.length) := Lib.hid rfl
    go_enter Tryz.func5, Tryz.ntmps5
    go_upto_region 6 with (first
      | (go_at_call 11; (with_reducible refine (HAl.out _).mono ?_); rintro e w1 ⟨rfl, h1⟩; have b2 := b1.trans (h1.mono b1.size); have k2 := k1.below h1 q1; have k2c := k2.cell)
      | (go_at_call 24; (with_reducible refine (HRd.out _ b2).mono ?_); rintro e w2 ⟨rfl, h2⟩; have b3 := b2.trans (h2.mono b2.size); have k3 := k2.below h2 k2.lt; have k3c := k3.cell))
    clear k1c k2c k1 k2 h1 h2 b1 b2 HRd HAl
    go_upto_region 7 with (go_at_call 12; (with_reducible refine (Hsc.out _ b3).mono ?_); rintro e w4 ⟨rfl, h4⟩)
    have b4 := b3.trans (h4.mono b3.size)
    have k4 := k3.below h4 k3.lt
    have k4c := k4.cell
    clear b3 k3 k3c h4 Hsc
    go_upto_region 8 with (go_at_call 14; (with_reducible refine (Hpc.out _ b4).mono ?_); rintro e w5 ⟨PA, pc, rfl, hPA, h5⟩)
    have b5 := b4.trans (h5.mono b4.size)
    have k5 := k4.below h5 k4.lt
    have k5c := k5.cell
    have HPA := Lib.hid hPA
    clear b4 k4 k4c h5 Hpc hPA
    have hpl := HPl.out
    have hwl : IntKind.i64.wrap ((cl.length : Int) + (tl.length : Int)) = (cl.length : Int) + (tl.length : Int) := IntWalk.i64_in _ (by omega)
    have hpl2 : (pts.length : Int) = (cl.length : Int) + (tl.length : Int) := by omega
    obtain ⟨pn, hpn⟩ : ∃ pn, pn = pts.length := ⟨_, rfl⟩
    have hpn2 : (pn : Int) = (cl.length : Int) + (tl.length : Int) := by omega
    have hpn3 : ((pn : Int) != (cl.length : Int) + (tl.length : Int)) = false := by simp [hpn2]
    clear hpl2 hpl
    rw [← hpn]
    have HPN := Lib.hid hpn
    clear hpn hpn2
    go_upto_region 11 with fail
    have HB5 := Lib.hid b5
    have HK5 := Lib.hid k5
    clear b5 k5
    generalize hUC : upC x cl = UC at *
    generalize hUT : upT x tl = UT at *
    have HU0 : Hid (UC 0 = 0 ∧ UT 0 = 0) := Lib.hid (by rw [← hUC, ← hUT]; exact ⟨rfl, rfl⟩)
    have HUC := Lib.hid (fun i (hi : i < cl.length) => by have h9 := upC_succ (x := x) hi; rw [hUC] at h9; exact h9)
    have HUT := Lib.hid (fun i (hi : i < tl.length) => by have h9 := upT_succ (x := x) hi; rw [hUT] at h9; exact h9)
    clear hUC hUT
    go_wp2_with fail
    go_loopw [11, 65] (fun ss ii wr => ∃ i : Nat, i ≤ cl.length ∧ ss = .int .i64 (UC i) ∧ ii = .int .i64 i ∧ Hid (Below w5.heap.size w5 wr)) (fun _ ii _ => cl.length - (vInt ii).toNat)
    case atStart => exact ⟨0, Nat.zero_le _, by rw [HU0.out.1], rfl, Lib.hid (Below.refl _ _)⟩
    case round =>
      obtain ⟨i, hi, rfl, rfl, hR⟩ := hrel
      have hB := hR.out
      clear hR
      by_cases hlt : i < cl.length
      · have hil : (i : Int) < (cl.length : Int) := by omega
        have hb5 := HB5.out.trans (hB.mono HB5.out.size)
        have hcl := (Hh.out wr hb5).cards
        obtain ⟨b, off, rfl, hb, c0, c1, c2⟩ := crds_at hcl.row hlt
        have HSR := Lib.hid (hcl.each _ (List.getElem_mem hlt))
        have hyb := HCr.out cl[i] (List.getElem_mem hlt)
        have HYBc := Lib.hid hyb
        have hsl : cl[i].scales.length ≤ x.length ∧ x.length ≤ cl[i].scales.length := by
          have := (crdB_parts hyb).2.2.1
          simp only [CrdD.v, List.length_map] at this
          omega
        have hbs := ptB_iff.1 (crdB_parts hyb).2.1
        have hws := (crdB_parts hyb).1
        have HNX := HUC.out i hlt
        have HPI := Lib.hid (HPc.out i hlt)
        have HNY := Lib.hid HNX
        clear HNX hyb hcl
        generalize hcy : cl[i] = y at *
        clear hcy
        obtain ⟨wt, bs, sl, SS, ss⟩ := y
        dsimp only at *
        replace hbs : -1000000 ≤ bs ∧ bs ≤ 1000000 := hbs
        replace hws : 0 ≤ wt ∧ wt ≤ 1000 := hws
        have HOD : Hid (∀ k, k ≤ sl.length → -(1000000 * ((k : Int) + 1)) ≤ bs + sclsUp (sl.map SclD.v) x k ∧ bs + sclsUp (sl.map SclD.v) x k ≤ 1000000 * ((k : Int) + 1)) := Lib.hid (fun k hk => by
          have := sclsUp_bound (crdB_parts HYBc.out).2.2.2 x k (by show k ≤ (sl.map SclD.v).length; simpa using hk)
          have e : (CrdD.v ⟨wt, bs, sl, SS, ss⟩).scales = sl.map SclD.v := rfl
          rw [e] at this
          omega)
        have HOS := Lib.hid (fun k (hk : k < sl.length) => scls_succ (x := x) hk)
        have HOE : Hid (onCrd (CrdD.v ⟨wt, bs, sl, SS, ss⟩) x = bs + sclsUp (sl.map SclD.v) x sl.length) := Lib.hid (by
          show bs + sclsUp (sl.map SclD.v) x (sl.map SclD.v).length = _
          rw [List.length_map])
        have HVS := Lib.hid (fun k (hk : k < sl.length) => (crdB_parts HYBc.out).2.2.2 sl[k].v (List.mem_map_of_mem (List.getElem_mem hk)))
        have HO0 : Hid (bs = bs + sclsUp (sl.map SclD.v) x 0) := Lib.hid (by simp [sclsUp])
        rw [HOE.out] at HPI HNY
        clear HYBc HOE
        generalize sclsUp (sl.map SclD.v) x = SU at *
        have kn := Blk.new wr #[.int .i64 wt, .int .i64 bs, .slice SS sl.length ss] 57
        have bn := (Below.refl wr.heap.size wr).alloc (Nat.le_refl _) (.cells #[.int .i64 wt, .int .i64 bs, .slice SS sl.length ss] 57)
        have hBn := hB.trans (bn.mono hB.size)
        go_upto_region 14 with fail
        have HSR2 := Lib.hid (HSR.out.later bn)
        clear HSR bn c0 c1 c2
        generalize hW8 : wr.alloc (.cells #[.int .i64 wt, .int .i64 bs, .slice SS sl.length ss] 57) = w8 at *
        clear hW8
        have gC := kn.lt
        generalize wr.heap.size = gc at *
        have HKC := Lib.hid kn
        have HB8 := Lib.hid hBn
        have knc := kn.cell
        clear kn hBn hB hb5
        go_wp2_with fail
        clear knc
        go_loopw [14, 75] (fun oo kk wq => ∃ k : Nat, k ≤ sl.length ∧ oo = .int .i64 (bs + SU k) ∧ kk = .int .i64 k ∧ Hid (Below w8.heap.size w8 wq)) (fun _ kk _ => sl.length - (vInt kk).toNat)
        case atStart => exact ⟨0, Nat.zero_le _, by rw [← HO0.out], rfl, Lib.hid (Below.refl _ _)⟩
        case round =>
          obtain ⟨k, hk, rfl, rfl, hQ⟩ := hrel
          have hBq := hQ.out
          clear hQ
          by_cases hkl : k < sl.length
          · have hki : (k : Int) < (sl.length : Int) := by omega
            have hkx : k < x.length := by omega
            have hkxi : (k : Int) < (x.length : Int) := by omega
            have hsr := HSR2.out.later hBq
            obtain ⟨b2, o2, rfl, hb2, d0, d1, d2⟩ := scls_at hsr.row hkl
            have hza := hsr.each _ (List.getElem_mem hkl)
            have hvs := HVS.out k hkl
            have hstep := HOS.out k hkl
            have hob := HOD.out k hk
            have hob2 := HOD.out (k + 1) hkl
            rw [getD_lt x 0 hkx] at hstep
            have bqq := (Below.refl wr.heap.size wr).alloc (Nat.le_refl _) (.cells #[.slice sl[k].A sl[k].v.cuts.length sl[k].a, .slice sl[k].B sl[k].v.pts.length sl[k].b, .int .i64 sl[k].v.non] 59)
            have hza2 := hza.later bqq
            have kz := Blk.new wr #[.slice sl[k].A sl[k].v.cuts.length sl[k].a, .slice sl[k].B sl[k].v.pts.length sl[k].b, .int .i64 sl[k].v.non] 59
            have hB9 := hBq.trans (bqq.mono hBq.size)
            clear hsr hza
            generalize hz : sl[k] = z at *
            clear hz
            obtain ⟨⟨cuts, ppt, non⟩, ZA, za, ZB, zb⟩ := z
            dsimp only at *
            go_upto_region 18 with fail
            generalize hW9 : wr.alloc (.cells #[.slice ZA cuts.length za, .slice ZB ppt.length zb, .int .i64 non] 59) = w9 at *
            clear hW9 bqq d0 d1 d2
            have gS := kz.lt
            generalize wr.heap.size = gs at *
            have bw9 : Below w.heap.size w w9 := HB5.out.trans ((HB8.out.trans (hB9.mono HB8.out.size)).mono HB5.out.size)
            obtain ⟨cx, hbx⟩ := Hx.out w9 bw9 k hkx
            have kzc := kz.cell
            have HKZ := Lib.hid kz
            have HZ2 := Lib.hid hza2
            have HB9 := Lib.hid hB9
            obtain ⟨hcl3, hpl3, hnon, hcut, hppt⟩ := sclB_iff.1 hvs
            dsimp only at hcl3 hpl3 hnon hcut hppt
            have HST := Lib.hid hstep
            clear hstep hza2 hvs kz hB9 bw9
            generalize x[k] = v at *
            by_cases hmi : v = -1
            · have hmi2 : (v == -1) = true := by simpa using hmi
              have hon : onScl ⟨cuts, ppt, non⟩ v = non := by unfold onScl; rw [if_pos hmi]
              have hnb := ptB_iff.1 hnon
              have hst := HST.out
              rw [hon] at hst
              have hwo : IntKind.i64.wrap (bs + SU k + non) = bs + SU k + non := IntWalk.i64_in _ (by omega)
              have HE : Hid (bs + SU (k + 1) = bs + SU k + non) := Lib.hid (by omega)
              clear hst hob hob2 hnb hnon hcut hppt hmi hon
              go_wp2_with fail
              go_roundw
              case rel => exact ⟨k + 1, by omega, by rw [HE.out], by go_num, HB9⟩
              case measure => simp [vInt]; omega
            · have hmi2 : (v == -1) = false := by simpa using hmi
              have HON : Hid (onScl ⟨cuts, ppt, non⟩ v = ppt.getD (cntLe cuts v) 0) := Lib.hid (by unfold onScl; rw [if_neg hmi])
              clear hmi
              go_wp2_with fail
              clear kzc
              go_loopw [17] (fun bb wz => ∃ q : Nat, q ≤ cuts.length ∧ bb = .int .i64 q ∧ Hid ((∀ j, j < q → cuts.getD j 0 ≤ v) ∧ Below w9.heap.size w9 wz)) (fun bb _ => cuts.length - (vInt bb).toNat)
              case atStart => exact ⟨0, Nat.zero_le _, rfl, Lib.hid ⟨fun j hj => by omega, Below.refl _ _⟩⟩
              case round =>
                obtain ⟨q, hq, rfl, hU⟩ := hrel
                obtain ⟨hUl, hUB⟩ := hU.out
                have kz3 := HKZ.out.below hUB HKZ.out.lt
                have kz3c := kz3.cell
                have ksA := After.cells (B := wr.heap.size) kz3.cell kz3.lt
                have xz := (hUB.cell (p := ⟨bX, oX + k, none⟩) hbx).trans cx
                have xA := After.cell (B := wr.heap.size) xz (Nat.lt_of_lt_of_le hbx hUB.size)
                have HZ3 := HZ2.out.later hUB
                by_cases hql : q < cuts.length
                · have hqi : (q : Int) < (cuts.length : Int) := by omega
                  have hqd : decide ((q : Int) < (cuts.length : Int)) = true := decide_eq_true hqi
                  obtain ⟨b3, o3, rfl, hb3, cc⟩ := ints_at HZ3.cuts hql
                  have cA := After.cell (B := wr.heap.size) cc hb3
                  have hcg : cuts.getD q 0 = cuts[q] := getD_lt _ _ hql
                  have HCG := Lib.hid hcg
                  clear hcg
                  generalize cuts[q] = cq at *
                  by_cases hle : cq ≤ v
                  · have hled : decide (cq ≤ v) = true := decide_eq_true hle
                    go_upto_region 21 with fail
                    refine wp_region_class_lit (C := fun w' => ∃ z : After wr.heap.size wr, w' = z.val) (by kernel_rfl) (by kernel_rfl) ⟨⟨_, (Below.refl _ _).drew⟩, rfl⟩ ?_
                    repeat (go_big_quiet_step (fail))
                    refine wpQuiet_nil ?_
                    intro wz0 hw'
                    obtain ⟨⟨wz, hz⟩, hw''⟩ := hw'
                    dsimp only at hw''
                    subst hw''
                    have HJ : Hid (∀ j, j < q + 1 → cuts.getD j 0 ≤ v) := Lib.hid (fun j hj => by
                      rcases Nat.lt_or_ge j q with h9 | h9
                      · exact hUl j h9
                      · obtain rfl : j = q := by omega
                        rw [HCG.out]; exact hle)
                    go_wp2_with fail
                    go_roundw
                    case rel => exact ⟨q + 1, by omega, by go_num, Lib.hid ⟨HJ.out, hUB.trans (hz.mono hUB.size)⟩⟩
                    case measure => simp [vInt]; omega
                  · have hled : decide (cq ≤ v) = false := decide_eq_false hle
                    go_upto_region 21 with fail
                    refine wp_region_class_lit (C := fun w' => ∃ z : After wr.heap.size wr, w' = z.val) (by kernel_rfl) (by kernel_rfl) ⟨⟨_, (Below.refl _ _).drew⟩, rfl⟩ ?_
                    repeat (go_big_quiet_step (fail))
                    refine wpQuiet_nil ?_
                    intro wz0 hw'
                    obtain ⟨⟨wz, hz⟩, hw''⟩ := hw'
                    dsimp only at hw''
                    subst hw''
                    have hcn := bin_at hcut hq hUl (fun _ => by rw [HCG.out]; omega)
                    have hqp : q < ppt.length := by omega
                    have hqpi : (q : Int) < (ppt.length : Int) := by omega
                    have hp4 := (HZ3.pts.later hz)
                    obtain ⟨b4, o4, rfl, hb4, cp⟩ := ints_at hp4 hqp
                    have hpb := ptB_iff.1 (hppt ppt[q] (List.getElem_mem hqp))
                    have hst := HST.out
                    rw [HON.out, hcn, getD_lt _ _ hqp] at hst
                    have HE : Hid (bs + SU (k + 1) = bs + SU k + ppt[q]) := Lib.hid (by omega)
                    have hwo : IntKind.i64.wrap (bs + SU k + ppt[q]) = bs + SU k + ppt[q] := IntWalk.i64_in _ (by omega)
                    have kz5 := (kz3.below hz kz3.lt).cell
                    have HBZ := Lib.hid (HB9.out.trans ((hUB.trans (hz.mono hUB.size)).mono HB9.out.size))
                    clear hst hpb hob hob2 hnon hcut hppt hcn hp4 hUl hU kz3c ksA xA xz
                    generalize ppt[q] = pq at *
                    go_wp2_with fail
                    go_roundw
                    case rel => exact ⟨k + 1, by omega, by rw [HE.out], by go_num, HBZ⟩
                    case measure => simp [vInt]; omega
                · have hqi : ¬ (q : Int) < (cuts.length : Int) := by omega
                  have hqd : decide ((q : Int) < (cuts.length : Int)) = false := decide_eq_false hqi
                  go_upto_region 21 with fail
                  refine wp_region_class_lit (C := fun w' => ∃ z : After wr.heap.size wr, w' = z.val) (by kernel_rfl) (by kernel_rfl) ⟨⟨_, (Below.refl _ _).drew⟩, rfl⟩ ?_
                  repeat (go_big_quiet_step (fail))
                  refine wpQuiet_nil ?_
                  intro wz0 hw'
                  obtain ⟨⟨wz, hz⟩, hw''⟩ := hw'
                  dsimp only at hw''
                  subst hw''
                  have hcn := bin_at hcut hq hUl (fun h9 => absurd h9 hql)
                  have hqp : q < ppt.length := by omega
                  have hqpi : (q : Int) < (ppt.length : Int) := by omega
                  have hp4 := (HZ3.pts.later hz)
                  obtain ⟨b4, o4, rfl, hb4, cp⟩ := ints_at hp4 hqp
                  have hpb := ptB_iff.1 (hppt ppt[q] (List.getElem_mem hqp))
                  have hst := HST.out
                  rw [HON.out, hcn, getD_lt _ _ hqp] at hst
                  have HE : Hid (bs + SU (k + 1) = bs + SU k + ppt[q]) := Lib.hid (by omega)
                  have hwo : IntKind.i64.wrap (bs + SU k + ppt[q]) = bs + SU k + ppt[q] := IntWalk.i64_in _ (by omega)
                  have kz5 := (kz3.below hz kz3.lt).cell
                  have HBZ := Lib.hid (HB9.out.trans ((hUB.trans (hz.mono hUB.size)).mono HB9.out.size))
                  clear hst hpb hob hob2 hnon hcut hppt hcn hp4 hUl hU kz3c ksA xA xz
                  generalize ppt[q] = pq at *
                  go_wp2_with fail
                  go_roundw
                  case rel => exact ⟨k + 1, by omega, by rw [HE.out], by go_num, HBZ⟩
                  case measure => simp [vInt]; omega
          · have hki : ¬ (k : Int) < (sl.length : Int) := by omega
            obtain rfl : k = sl.length := by omega
            have bw9 : Below w5.heap.size w5 wr := HB8.out.trans (hBq.mono HB8.out.size)
            have hpi := HPI.out
            have hpn9 := HPN.out
            have hpl9 := HPl.out
            have hipt : i < pts.length := by omega
            rw [getD_lt _ _ hipt] at hpi
            have hpA := HPA.out.later bw9
            obtain ⟨b5, o5, rfl, hb5, c5⟩ := ints_at hpA hipt
            rw [hpi] at c5
            have hob := HOD.out sl.length (Nat.le_refl _)
            have hmb := mul_bound (w := wt) (p := bs + SU sl.length) hws (by omega)
            have hub := HCb.out i (by omega)
            have hny := HNY.out
            have hipn : (i : Int) < (pn : Int) := by omega
            have kc9 := (HKC.out.below hBq HKC.out.lt).cell
            have hwm : IntKind.i64.wrap (wt * (bs + SU sl.length)) = wt * (bs + SU sl.length) := IntWalk.i64_in _ (by omega)
            have hwn : IntKind.i64.wrap (UC i + wt * (bs + SU sl.length)) = UC i + wt * (bs + SU sl.length) := IntWalk.i64_in _ (by omega)
            have HNZ := Lib.hid hny
            have HB9 := Lib.hid bw9
            clear hpi hpA hob hmb hub hny hipt hpn9 hpl9 bw9
            generalize bs + SU sl.length = ow at *
            go_wp2_with fail
            go_roundw
            case rel => exact ⟨i + 1, by omega, by rw [HNZ.out], by go_num, HB9⟩
            case measure => simp [vInt]; omega
      · have hil : ¬ (i : Int) < (cl.length : Int) := by omega
        obtain rfl : i = cl.length := by omega
        have k6 := HK5.out.below hB HK5.out.lt
        have HB6 := Lib.hid (HB5.out.trans (hB.mono HB5.out.size))
        have HPA6 := Lib.hid (HPA.out.later hB)
        have HK6 := Lib.hid k6
        have k6c := k6.cell
        clear HK5 HPA hB HB5 k6 hil hlt hi
        generalize wr = w6 at *
        have hcb := HCb.out cl.length (Nat.le_refl _)
        go_wp2_with fail
        clear k6c
        go_loopw [11, 132] (fun ss ii wr => ∃ i : Nat, i ≤ tl.length ∧ ss = .int .i64 (UC cl.length + UT i) ∧ ii = .int .i64 i ∧ Hid (Below w6.heap.size w6 wr)) (fun _ ii _ => tl.length - (vInt ii).toNat)
        case atStart => exact ⟨0, Nat.zero_le _, by rw [HU0.out.2, Int.add_zero], rfl, Lib.hid (Below.refl _ _)⟩
        case round =>
          obtain ⟨i, hi, rfl, rfl, hR⟩ := hrel
          have hB := hR.out
          clear hR
          by_cases hlt : i < tl.length
          · have hil : (i : Int) < (tl.length : Int) := by omega
            have hbw := HB6.out.trans (hB.mono HB6.out.size)
            have htl := (Hh.out wr hbw).trees
            obtain ⟨b, off, rfl, hb, c0, c1⟩ := tres_at htl.row hlt
            have HND : Hid (∀ W, Below w.heap.size w W → NodsAt W W.heap.size tl[i].T tl[i].v.nodes) := Lib.hid (fun W hb => (Hh.out W hb).trees.each _ (List.getElem_mem hlt))
            have HTV := Lib.hid (HTr.out tl[i] (List.getElem_mem hlt))
            have HNX := Lib.hid (HUT.out i hlt)
            obtain ⟨ci, hci⟩ : ∃ ci : Nat, ci = cl.length + i := ⟨_, rfl⟩
            have HPI := Lib.hid (by have h9 := HPt.out i hlt; rw [← hci] at h9; exact h9)
            have HCI := Lib.hid hci
            have htb := HTb.out i hi
            have htb2 := HTb.out (i + 1) hlt
            have hvb := onTre_bound HTV.out
            clear htl
            generalize hy : tl[i] = y at *
            clear hy
            obtain ⟨⟨wt, nodes⟩, NT, nt⟩ := y
            dsimp only at *
            obtain ⟨hwt, hnl, hnv⟩ := treB_parts HTV.out
            dsimp only at hwt hnl hnv
            have HNV := Lib.hid hnv
            have hmb := mul_bound hwt (by omega : -11000000 ≤ onTre ⟨wt, nodes⟩ x ∧ onTre ⟨wt, nodes⟩ x ≤ 11000000)
            have HV : Hid (treGo nodes x nodes.length 0 = onTre ⟨wt, nodes⟩ x) := Lib.hid rfl
            clear HTV hnv
            generalize onTre ⟨wt, nodes⟩ x = V at *
            have hwm : IntKind.i64.wrap (wt * V) = wt * V := IntWalk.i64_in _ (by omega)
            have hwn : IntKind.i64.wrap (UC cl.length + UT i + wt * V) = UC cl.length + UT i + wt * V := IntWalk.i64_in _ (by omega)
            have hcl2 : IntKind.i64.wrap ((cl.length : Int) + (i : Int)) = (ci : Int) := by rw [IntWalk.i64_in _ (by omega)]; omega
            clear hci
            clear hmb htb htb2 hvb
            have kt := Blk.new wr #[.int .i64 wt, .slice NT nodes.length nt] 41
            have bt := (Below.refl wr.heap.size wr).alloc (Nat.le_refl _) (.cells #[.int .i64 wt, .slice NT nodes.length nt] 41)
            have hBt := hB.trans (bt.mono hB.size)
            go_upto_region 32 with fail
            have hw6 := hB.size
            clear c0 c1 bt
            generalize hW7 : wr.alloc (.cells #[.int .i64 wt, .slice NT nodes.length nt] 41) = w7 at *
            clear hW7
            have gT := kt.lt
            generalize wr.heap.size = gt at *
            have hmk := fun W => make_bools nodes.length (by omega) W
            have ktc := kt.cell
            have kr0 := Blk.new w7 (boolA (List.replicate nodes.length false)) 4
            have bq := (Below.refl w7.heap.size w7).alloc (Nat.le_refl _) (.cells (boolA (List.replicate nodes.length false)) 4)
            have kt2 := kt.alloc (.cells (boolA (List.replicate nodes.length false)) 4)
            go_upto_region 33 with fail
            have hB8 := hBt.trans (bq.mono hBt.size)
            clear bq hmk
            generalize hW8 : w7.alloc (.cells (boolA (List.replicate nodes.length false)) 4) = w8 at *
            clear hW8 kt ktc hBt
            have gR := kr0.lt
            have hgs : gt < w7.heap.size := gT
            have hw67 : w6.heap.size ≤ w7.heap.size := by omega
            generalize w7.heap.size = gr at *
            have hz0 : w8.cell? ⟨gr, 0, none⟩ = some (.bool false) := by rw [kr0.cell 0, boolA_at (by simp; omega)]; simp
            have hz1 := kr0.free 0
            have hn0 : (0 : Int) < (nodes.length : Int) := by omega
            go_upto_region 34 with fail
            have kr1 := kr0.set 0 (.bool true)
            rw [boolA_set] at kr1
            have kt3 : Blk (w8.setCell ⟨gr, 0, none⟩ (.bool true)) gt #[.int .i64 wt, .slice NT nodes.length nt] 41 := kt2.far (p := ⟨gr, 0, none⟩) (by show gt ≠ gr; omega) _
            have hB9 : Below w6.heap.size w6 (w8.setCell ⟨gr, 0, none⟩ (.bool true)) := hB8.setCell (p := ⟨gr, 0, none⟩) hw67 _
            generalize hW9 : w8.setCell ⟨gr, 0, none⟩ (.bool true) = w9 at *
            clear hW9 kr0 kt2 hz0 hz1 hB8 hB hbw gR gT
            have kt3c := kt3.cell
            have HR0 := Lib.hid (rch_first (x := x) (nodes := nodes) (by omega))
            go_wp2_with fail
            clear kt3c
            go_loopw [11, 146] (fun ss kk wr => ∃ (k : Nat) (sm : Int), k ≤ nodes.length ∧ ss = .int .i64 sm ∧ kk = .int .i64 k ∧ Hid (∃ r : List Bool, r.length = nodes.length ∧ Blk wr gr (boolA r) 4 ∧ Blk wr gt #[.int .i64 wt, .slice NT nodes.length nt] 41 ∧ Below w6.heap.size w6 wr ∧ ((∃ a, Rch nodes x r k a ∧ sm = UC cl.length + UT i) ∨ ((∀ j, k ≤ j → j < nodes.length → r.getD j false = false) ∧ sm = UC cl.length + UT i + wt * V)))) (fun _ kk _ => nodes.length - (vInt kk).toNat)
            case atStart => exact ⟨0, _, Nat.zero_le _, rfl, rfl, Lib.hid ⟨_, by simp, kr1, kt3, hB9, .inl ⟨0, HR0.out, rfl⟩⟩⟩
            case round =>
              obtain ⟨k, sm, hk, rfl, rfl, hQ⟩ := hrel
              obtain ⟨r, hrl, hkr, hkt, hBr, hAlt⟩ := hQ.out
              clear hQ
              by_cases hkl : k < nodes.length
              · have hki : (k : Int) < (nodes.length : Int) := by omega
                have hbr := HB6.out.trans (hBr.mono HB6.out.size)
                have hnd := HND.out _ hbr
                obtain ⟨b2, o2, rfl, hb2, n0, n1, n2, n3, n4⟩ := nods_at hnd hkl
                have hnv := HNV.out k hkl
                have hng : nodes.getD k default = nodes[k] := getD_lt _ _ hkl
                rw [hng] at hnv
                have HNG := Lib.hid hng
                clear hng hnd
                have hrk : r.getD k false = r[k]'(by omega) := getD_lt _ _ (by omega)
                have crk : wr.cell? ⟨gr, k, none⟩ = some (.bool (r[k]'(by omega))) := by rw [hkr.cell k, boolA_at (by omega)]
                generalize hzk : nodes[k] = zn at *
                clear hzk
                obtain ⟨tr, cut, low, high, np⟩ := zn
                dsimp only at *
                have kn := Blk.new wr #[.int .i64 tr, .int .i64 cut, .int .i64 low, .int .i64 high, .int .i64 np] 38
                have bn := (Below.refl wr.heap.size wr).alloc (Nat.le_refl _) (.cells #[.int .i64 tr, .int .i64 cut, .int .i64 low, .int .i64 high, .int .i64 np] 38)
                have hkr2 := hkr.alloc (.cells #[.int .i64 tr, .int .i64 cut, .int .i64 low, .int .i64 high, .int .i64 np] 38)
                have hkt2 := hkt.alloc (.cells #[.int .i64 tr, .int .i64 cut, .int .i64 low, .int .i64 high, .int .i64 np] 38)
                have crk2 := (bn.cell (p := ⟨gr, k, none⟩) hkr.lt).trans crk
                have hBr2 := hBr.trans (bn.mono hBr.size)
                have hgrw : gr < wr.heap.size := hkr.lt
                go_upto_region 38 with fail
                clear n0 n1 n2 n3 n4 bn hkr hkt crk hBr hbr
                generalize hW10 : wr.alloc (.cells #[.int .i64 tr, .int .i64 cut, .int .i64 low, .int .i64 high, .int .i64 np] 38) = w10 at *
                clear hW10
                have gN := kn.lt
                generalize wr.heap.size = gn at *
                have knc := kn.cell
                cases hrb : r[k]'(by omega) with
                | false =>
                  rw [hrb] at crk2 hrk
                  have HJ : Hid ((∃ a, Rch nodes x r (k + 1) a ∧ sm = UC cl.length + UT i) ∨ ((∀ j, k + 1 ≤ j → j < nodes.length → r.getD j false = false) ∧ sm = UC cl.length + UT i + wt * V)) := Lib.hid (by
                    rcases hAlt with ⟨a, ha, hs⟩ | ⟨ha, hs⟩
                    · exact .inl ⟨a, rch_skip ha hrk, hs⟩
                    · exact .inr ⟨fun j hj hjl => ha j (by omega) hjl, hs⟩)
                  clear hAlt hrb hnv hrk
                  go_wp2_with fail
                  go_roundw
                  case rel => exact ⟨k + 1, sm, by omega, rfl, by go_num, Lib.hid ⟨r, hrl, hkr2, hkt2, hBr2, HJ.out⟩⟩
                  case measure => simp [vInt]; omega
                | true =>
                  rw [hrb] at crk2 hrk
                  obtain ⟨hR, rfl⟩ : Rch nodes x r k k ∧ sm = UC cl.length + UT i := by
                    rcases hAlt with ⟨a, ha, hs⟩ | ⟨ha, hs⟩
                    · obtain rfl := rch_here ha hrk hkl
                      exact ⟨ha, hs⟩
                    · rw [ha k (Nat.le_refl _) hkl] at hrk; cases hrk
                  have HR := Lib.hid hR
                  clear hAlt hrb hR
                  by_cases hleaf : tr = -1
                  · have hl2 : (tr == -1) = true := by simpa using hleaf
                    have hnp : np = V := by
                      have := rch_leaf HR.out (by rw [HNG.out]; exact hleaf)
                      rw [HNG.out, HV.out] at this
                      exact this
                    have HJ : Hid (∀ j, k + 1 ≤ j → j < nodes.length → r.getD j false = false) := Lib.hid (fun j hj hjl => HR.out.only j (by omega) hjl (by omega))
                    have hpA := HPA6.out.later hBr2
                    have hpn9 := HPN.out
                    have hpl9 := HPl.out
                    have hci := HCI.out
                    have hipt : ci < pts.length := by omega
                    have hpi := HPI.out
                    rw [getD_lt _ _ hipt] at hpi
                    obtain ⟨b5, o5, rfl, hb5, c5⟩ := ints_at hpA hipt
                    rw [hpi] at c5
                    have hipn : (ci : Int) < (pn : Int) := by omega
                    have k10 := HK6.out.below hBr2 HK6.out.lt
                    subst hnp
                    clear hpA hpn9 hpl9 hipt hpi hnv hleaf hci
                    have HKR := Lib.hid hkr2
                    have HKT := Lib.hid hkt2
                    have kA := After.cells (B := w10.heap.size) kn.cell kn.lt
                    have mA := After.cells (B := w10.heap.size) k10.cell k10.lt
                    have pA := After.cell (B := w10.heap.size) c5 hb5
                    go_upto_region 40 with fail
                    refine wp_region_class_lit (C := fun w' => ∃ z : After w10.heap.size w10, w' = z.val) (by kernel_rfl) (by kernel_rfl) ⟨⟨_, (Below.refl _ _).drew⟩, rfl⟩ ?_
                    repeat (go_big_quiet_step (fail))
                    refine wpQuiet_nil ?_
                    intro wz0 hw'
                    obtain ⟨⟨wz, hz⟩, hw''⟩ := hw'
                    dsimp only at hw''
                    subst hw''
                    have knw := (kn.below hz kn.lt).cell
                    have ktw := (hkt2.below hz hkt2.lt)
                    have ktwc := ktw.cell
                    have HF9 : Hid (Blk wz0 gr (boolA r) 4 ∧ Below w6.heap.size w6 wz0) := Lib.hid ⟨HKR.out.below hz hkr2.lt, hBr2.trans (hz.mono hBr2.size)⟩
                    have HKTW := Lib.hid ktw
                    clear kA mA pA hkr2 hkt2 hBr2
                    go_wp2_with fail
                    go_roundw
                    case rel => exact ⟨k + 1, _, by omega, rfl, by go_num, Lib.hid ⟨r, hrl, HF9.out.1, HKTW.out, HF9.out.2, .inr ⟨HJ.out, rfl⟩⟩⟩
                    case measure => simp [vInt]; omega
                  · have hl2 : (tr == -1) = false := by simpa using hleaf
                    obtain ⟨t1, t2, t3, t4, t5, t6⟩ := nodB_inner hnv hleaf
                    dsimp only at t1 t2 t3 t4 t5 t6
                    obtain ⟨mt, hmt⟩ : ∃ mt : Nat, (mt : Int) = tr := ⟨tr.toNat, by omega⟩
                    have hmx : mt < x.length := by omega
                    have hmxi : (mt : Int) < (x.length : Int) := by omega
                    have hmtn : tr.toNat = mt := by omega
                    have hxm2 : x.getD mt 0 = x[mt] := getD_lt _ _ hmx
                    obtain ⟨cx, hbx⟩ := Hx.out w10 (HB6.out.trans (hBr2.mono HB6.out.size)) mt hmx
                    have HKR := Lib.hid hkr2
                    have hw6r : w6.heap.size ≤ gr := hw67
                    generalize x[mt] = xv at *
                    by_cases hge : cut ≤ xv
                    · have hged : decide (cut ≤ xv) = true := decide_eq_true hge
                      have hif : ¬ x.getD tr.toNat 0 < cut := by rw [hmtn, hxm2]; omega
                      have HIF := Lib.hid hif
                      clear hif hxm2 hmtn
                      subst hmt
                      have kA := After.cells (B := w10.heap.size) kn.cell kn.lt
                      have xA := After.cell (B := w10.heap.size) cx hbx
                      go_upto_region 43 with fail
                      refine wp_region_class_lit (C := fun w' => ∃ z : After w10.heap.size w10, w' = z.val) (by kernel_rfl) (by kernel_rfl) ⟨⟨_, (Below.refl _ _).drew⟩, rfl⟩ ?_
                      repeat (go_big_quiet_step (fail))
                      refine wpQuiet_nil ?_
                      intro wz0 hw'
                      obtain ⟨⟨wz, hz⟩, hw''⟩ := hw'
                      dsimp only at hw''
                      subst hw''
                      obtain ⟨nb, hnb⟩ : ∃ nb : Nat, (nb : Int) = high := ⟨high.toNat, by omega⟩
                      have hbk : k < nb := by omega
                      have hbn : nb < nodes.length := by omega
                      have hbni : (nb : Int) < (nodes.length : Int) := by omega
                      have HJ : Hid (Rch nodes x (r.set nb true) (k + 1) nb) := Lib.hid (rch_next HR.out hrl hbk hbn (fun f => by
                        rw [treGo_node (by rw [HNG.out]; exact hleaf), HNG.out]
                        dsimp only
                        rw [if_neg HIF.out]
                        congr 1
                        omega))
                      subst hnb
                      have hkw : Blk wz0 gr (boolA r) 4 := HKR.out.below hz hkr2.lt
                      have knw := (kn.below hz kn.lt).cell
                      have cbw : wz0.cell? ⟨gr, nb, none⟩ = some (.bool (r[nb]'(by omega))) := by rw [hkw.cell nb, boolA_at (by omega)]
                      have fbw := hkw.free nb
                      have HKT2 : Hid (Blk (wz0.setCell ⟨gr, nb, none⟩ (.bool true)) gt #[.int .i64 wt, .slice (some ⟨b2, o2, none⟩) nodes.length nt] 41) := Lib.hid ((hkt2.below hz hkt2.lt).far (p := ⟨gr, nb, none⟩) (by show gt ≠ gr; omega) _)
                      have HKR2 : Hid (Blk (wz0.setCell ⟨gr, nb, none⟩ (.bool true)) gr (boolA (r.set nb true)) 4) := Lib.hid (by have h9 := hkw.set nb (.bool true); rw [boolA_set] at h9; exact h9)
                      have HBZ : Hid (Below w6.heap.size w6 (wz0.setCell ⟨gr, nb, none⟩ (.bool true))) := Lib.hid ((hBr2.trans (hz.mono hBr2.size)).setCell (p := ⟨gr, nb, none⟩) (by show w6.heap.size ≤ gr; omega) _)
                      clear hkw hnv hleaf kA xA hkr2 hkt2 hBr2
                      go_wp2_with fail
                      go_roundw
                      case rel => exact ⟨k + 1, _, by omega, rfl, by go_num, Lib.hid ⟨_, by rw [List.length_set]; exact hrl, HKR2.out, HKT2.out, HBZ.out, .inl ⟨nb, HJ.out, rfl⟩⟩⟩
                      case measure => simp [vInt]; omega
                    · have hged : decide (cut ≤ xv) = false := decide_eq_false hge
                      have hif : x.getD tr.toNat 0 < cut := by rw [hmtn, hxm2]; omega
                      have HIF := Lib.hid hif
                      clear hif hxm2 hmtn
                      subst hmt
                      have kA := After.cells (B := w10.heap.size) kn.cell kn.lt
                      have xA := After.cell (B := w10.heap.size) cx hbx
                      go_upto_region 43 with fail
                      refine wp_region_class_lit (C := fun w' => ∃ z : After w10.heap.size w10, w' = z.val) (by kernel_rfl) (by kernel_rfl) ⟨⟨_, (Below.refl _ _).drew⟩, rfl⟩ ?_
                      repeat (go_big_quiet_step (fail))
                      refine wpQuiet_nil ?_
                      intro wz0 hw'
                      obtain ⟨⟨wz, hz⟩, hw''⟩ := hw'
                      dsimp only at hw''
                      subst hw''
                      obtain ⟨nb, hnb⟩ : ∃ nb : Nat, (nb : Int) = low := ⟨low.toNat, by omega⟩
                      have hbk : k < nb := by omega
                      have hbn : nb < nodes.length := by omega
                      have hbni : (nb : Int) < (nodes.length : Int) := by omega
                      have HJ : Hid (Rch nodes x (r.set nb true) (k + 1) nb) := Lib.hid (rch_next HR.out hrl hbk hbn (fun f => by
                        rw [treGo_node (by rw [HNG.out]; exact hleaf), HNG.out]
                        dsimp only
                        rw [if_pos HIF.out]
                        congr 1
                        omega))
                      subst hnb
                      have hkw : Blk wz0 gr (boolA r) 4 := HKR.out.below hz hkr2.lt
                      have knw := (kn.below hz kn.lt).cell
                      have cbw : wz0.cell? ⟨gr, nb, none⟩ = some (.bool (r[nb]'(by omega))) := by rw [hkw.cell nb, boolA_at (by omega)]
                      have fbw := hkw.free nb
                      have HKT2 : Hid (Blk (wz0.setCell ⟨gr, nb, none⟩ (.bool true)) gt #[.int .i64 wt, .slice (some ⟨b2, o2, none⟩) nodes.length nt] 41) := Lib.hid ((hkt2.below hz hkt2.lt).far (p := ⟨gr, nb, none⟩) (by show gt ≠ gr; omega) _)
                      have HKR2 : Hid (Blk (wz0.setCell ⟨gr, nb, none⟩ (.bool true)) gr (boolA (r.set nb true)) 4) := Lib.hid (by have h9 := hkw.set nb (.bool true); rw [boolA_set] at h9; exact h9)
                      have HBZ : Hid (Below w6.heap.size w6 (wz0.setCell ⟨gr, nb, none⟩ (.bool true))) := Lib.hid ((hBr2.trans (hz.mono hBr2.size)).setCell (p := ⟨gr, nb, none⟩) (by show w6.heap.size ≤ gr; omega) _)
                      clear hkw hnv hleaf kA xA hkr2 hkt2 hBr2
                      go_wp2_with fail
                      go_roundw
                      case rel => exact ⟨k + 1, _, by omega, rfl, by go_num, Lib.hid ⟨_, by rw [List.length_set]; exact hrl, HKR2.out, HKT2.out, HBZ.out, .inl ⟨nb, HJ.out, rfl⟩⟩⟩
                      case measure => simp [vInt]; omega
              · have hki : ¬ (k : Int) < (nodes.length : Int) := by omega
                obtain rfl : sm = UC cl.length + UT i + wt * V := by
                  rcases hAlt with ⟨a, ha, hs⟩ | ⟨_, hs⟩
                  · have := ha.low; have := ha.lt; omega
                  · exact hs
                have HE : Hid (UC cl.length + UT (i + 1) = UC cl.length + UT i + wt * V) := Lib.hid (by rw [HNX.out]; omega)
                have HBR := Lib.hid hBr
                clear hAlt hkr hkt hBr
                go_wp2_with fail
                go_roundw
                case rel => exact ⟨i + 1, by omega, by rw [HE.out], by go_num, HBR⟩
                case measure => simp [vInt]; omega
          · have hil : ¬ (i : Int) < (tl.length : Int) := by omega
            obtain rfl : i = tl.length := by omega
            have hbw := HB6.out.trans (hB.mono HB6.out.size)
            have k9 := (HK6.out.below hB HK6.out.lt).cell
            have hyb := HYB.out
            have hwn : IntKind.i64.wrap (need * 1000) = need * 1000 := IntWalk.i64_in _ (by omega)
            generalize UC cl.length + UT tl.length = N at *
            go_wp2_with fail
            go_ret
            exact ⟨rfl, hbw⟩
end Go.Proofs.YtkimojiakabbcaaGreat
